/- http's call Parse. Conditions: those that each theorem names. -/
import Derived.Test.YtihcihpndckfjabGreatDoorHtP
namespace Go.Proofs.YtihcihpndckfjabGreatDoor
set_option linter.unusedVariables false
open Go Go.RowKit Go.Shelf Ht

def reqV (m p b : List UInt8) : Value := .agg #[.string (B m), .string (B p), .string (B b)]
/-- What Parse answers, as a value. -/
def parseV (l : List UInt8) : Value := .tuple #[reqV (parse l).1.1 (parse l).1.2.1 (parse l).1.2.2, .int .i64 (parse l).2]
def zero3 : Obj := .cells #[.string ⟨#[]⟩, .string ⟨#[]⟩, .string ⟨#[]⟩] 23
/-- A world behind the call's beginning: its result's block is as it was laid. -/
structure Pa (w x : World) : Prop where
  gh : Gh x
  below : Below w.heap.size w x
  res : x.heap[w.heap.size]? = some (.cells #[.string ⟨#[]⟩, .string ⟨#[]⟩, .string ⟨#[]⟩] 23 (0, 0))
theorem Pa.new {w : World} (G : Gh w) : Pa w (w.alloc zero3) := by
  have hb := (Below.refl w.heap.size w).alloc (Nat.le_refl _) zero3
  exact ⟨G.below hb, hb, heap_alloc_new _ _⟩
theorem Pa.then {w x y : World} (h : Pa w x) (g : Below x.heap.size x y) : Pa w y :=
  ⟨h.gh.below g, below_then h.below g, (g.block _ (Array.getElem?_eq_some_iff.1 h.res).1).trans h.res⟩
theorem Pa.drew {w x : World} (h : Pa w x) : Pa w x.drew := h.then (below_drewN x 1)
theorem Pa.cells {w x : World} (h : Pa w x) : x.cell? ⟨w.heap.size, 0, none⟩ = some (.string ⟨#[]⟩) ∧ x.cell? ⟨w.heap.size, 1, none⟩ = some (.string ⟨#[]⟩) ∧ x.cell? ⟨w.heap.size, 2, none⟩ = some (.string ⟨#[]⟩) ∧
    x.frozen? ⟨w.heap.size, 0, none⟩ = false ∧ x.frozen? ⟨w.heap.size, 1, none⟩ = false ∧ x.frozen? ⟨w.heap.size, 2, none⟩ = false := by
  have h := h.res
  refine ⟨?_, ?_, ?_, ?_, ?_, ?_⟩ <;> simp [World.cell?, World.frozen?, h]
def three (w : World) (K : Nat) (a b c : Value) : World := ((w.setCell ⟨K, 0, none⟩ a).setCell ⟨K, 1, none⟩ b).setCell ⟨K, 2, none⟩ c
theorem below_three {w x : World} (h : Below w.heap.size w x) (a b c : Value) : Below w.heap.size w (three x w.heap.size a b c) :=
  ((h.setCell (p := ⟨w.heap.size, 0, none⟩) (Nat.le_refl _) a).setCell (p := ⟨w.heap.size, 1, none⟩) (Nat.le_refl _) b).setCell (p := ⟨w.heap.size, 2, none⟩) (Nat.le_refl _) c
theorem head_is (s : ByteArray) : s.extract 0 (s.size - (Lib.cut s.data.toList hend).2.1.length) = B (headOf s.data.toList) := by
  rw [Lib.extract_eq]
  unfold headOf
  rw [Lib.size_eq s]
  rfl
set_option maxHeartbeats 2000000 in
set_option maxRecDepth 100000 in
theorem parse_gen (s : ByteArray) (w : World) (hs : s.size ≤ 16777215) (ha : (Lib.cut s.data.toList hend).2.2 = true → ascN ((Lib.cut (headOf s.data.toList) crlf).2.1.length + 1) (Lib.cut (headOf s.data.toList) crlf).2.1) (G : Gh w) :
    Calls Tryz.prog 6 #[.string s] w fun e w' => e = .returned (parseV s.data.toList) ∧ Below w.heap.size w w' := by
  have P0 := Lib.hid (Pa.new G)
  have HC := Lib.hid (cut_any s hend (w.alloc zero3) hs P0.out.gh)
  have hl := (cut_len s.data.toList hend).2
  rw [← Lib.size_eq] at hl
  have hh := head_is s
  have hlen : (headOf s.data.toList).length = s.size - (Lib.cut s.data.toList hend).2.1.length := by unfold headOf; rw [Lib.size_eq]; simp
  have hbl := B_size (Lib.cut s.data.toList hend).2.1
  have hpar : ∀ m p b e, parse s.data.toList = ((m, p, b), e) → parseV s.data.toList = .tuple #[.agg #[.string (B m), .string (B p), .string (B b)], .int .i64 e] := fun m p b e h => by unfold parseV reqV; rw [h]
  have HPAR := Lib.hid hpar
  have hp0 : parse s.data.toList = parse s.data.toList := rfl
  conv at hp0 => rhs; unfold parse
  generalize hX : headOf s.data.toList = X at *
  generalize hY : (Lib.cut s.data.toList hend).2.1 = Y at *
  generalize hZ : (Lib.cut s.data.toList hend).2.2 = Z at *
  have i1 : (0 : Int) ≤ (s.size : Int) - Y.length := by omega
  have i2 : (s.size : Int) - Y.length ≤ s.size := by omega
  have HH := Lib.hid hh
  have HXL := Lib.hid hlen
  have HA := Lib.hid ha
  clear hpar G hX hY hZ hh hlen ha
  have HP0 := Lib.hid hp0
  clear hp0
  by_cases hbig : (4096 : Int) < ((s.size - Y.length : Nat) : Int)
  · have HE := Lib.hid (HPAR.out [] [] [] 41 (HP0.out.trans (if_pos (by rw [HXL.out]; omega))))
    clear HP0 HPAR
    go_enter Tryz.func6, Tryz.ntmps6
    go_wp2_with fail
    refine HC.out.mono ?_
    rintro e w1 ⟨rfl, h1⟩
    have P1 := Lib.hid (P0.out.then h1)
    obtain ⟨d0, d1, d2, k0, k1, k2⟩ := P1.out.cells
    clear h1
    go_wp2_with fail
    refine bodyPost_ret (v := .tuple #[.agg #[.string ⟨#[]⟩, .string ⟨#[]⟩, .string ⟨#[]⟩], .int .i64 41]) (by simp [results, Tryz.results6, go_sem, d0, d1, d2]) rfl ⟨by rw [HE.out]; rfl, below_three P1.out.below _ _ _⟩
  · have HP1 := Lib.hid (HP0.out.trans (if_neg (by rw [HXL.out]; omega)))
    clear HP0
    cases Z with
    | false =>
      have HE := Lib.hid (HPAR.out [] [] [] 40 (HP1.out.trans (if_pos rfl)))
      clear HP1 HPAR
      go_enter Tryz.func6, Tryz.ntmps6
      go_wp2_with fail
      refine HC.out.mono ?_
      rintro e w1 ⟨rfl, h1⟩
      have P1 := Lib.hid (P0.out.then h1)
      obtain ⟨d0, d1, d2, k0, k1, k2⟩ := P1.out.cells
      clear h1
      go_wp2_with fail
      refine bodyPost_ret (v := .tuple #[.agg #[.string ⟨#[]⟩, .string ⟨#[]⟩, .string ⟨#[]⟩], .int .i64 40]) (by simp [results, Tryz.results6, go_sem, d0, d1, d2]) rfl ⟨by rw [HE.out]; rfl, below_three P1.out.below _ _ _⟩
    | true =>
      have HP2 := Lib.hid (HP1.out.trans (if_neg (by simp)))
      clear HP1
      have hax := HA.out rfl
      have hXs : X.length ≤ 16777215 := by rw [HXL.out]; omega
      have hcl := cut_len X crlf
      have HC2 : Hid (∀ w, Gh w → Calls Tryz.prog 15 #[.string (B X), .string (B crlf)] w fun e w' => e = .returned (.tuple #[.string (B (Lib.cut X crlf).1), .string (B (Lib.cut X crlf).2.1), .bool (Lib.cut X crlf).2.2]) ∧ Below w.heap.size w w') :=
        Lib.hid (fun w G => by have := cut_any (B X) crlf w (by rw [B_size]; exact hXs) G; rwa [B_data] at this)
      generalize (Lib.cut X crlf).1 = F at *
      generalize (Lib.cut X crlf).2.1 = R at *
      generalize (Lib.cut X crlf).2.2 = c2 at *
      have HF : Hid (∀ w, Gh w → Calls Tryz.prog 16 #[.string (B F)] w fun e w' => e = .returned (firstV F) ∧ Below w.heap.size w w') :=
        Lib.hid (fun w G => by have := first_any (B F) w (by rw [B_size]; omega) G; rwa [B_data] at this)
      have HBO : Hid (∀ w, Gh w → Calls Tryz.prog 17 #[.string (B R)] w fun e w' => e = .returned (.tuple #[.int .i64 (bodySize R).1, .int .i64 (bodySize R).2]) ∧ Below w.heap.size w w') :=
        Lib.hid (fun w G => by have := body_any (B R) w (by rw [B_size]; omega) (by rw [B_data, B_size]; exact hax) G; rwa [B_data] at this)
      have hVF : firstV F = .tuple #[.string (B (cutFirst F).1), .string (B (cutFirst F).2.1), .bool (cutFirst F).2.2] := rfl
      rw [hVF] at HF
      have hsz : (cutFirst F).1.length ≤ 16777215 ∧ (cutFirst F).2.1.length ≤ 16777215 ∧ Y.length ≤ 16777215 := by
        have e1 := (cut_len F [32]).1
        have e2 := (cut_len F [32]).2
        have e3 := (cut_len (Lib.cut F [32]).2.1 [32]).1
        refine ⟨?_, ?_, by omega⟩
        · show (Lib.cut F [32]).1.length ≤ _
          omega
        · show (Lib.cut (Lib.cut F [32]).2.1 [32]).1.length ≤ _
          omega
      clear hVF hcl hax hXs HA
      have HSZ : Hid ((cutFirst F).1.length ≤ 16777215 ∧ (cutFirst F).2.1.length ≤ 16777215 ∧ Y.length ≤ 16777215) := Lib.hid hsz
      clear hsz
      generalize (cutFirst F).1 = m at *
      generalize (cutFirst F).2.1 = p at *
      generalize (cutFirst F).2.2 = ok at *
      generalize (bodySize R).1 = z at *
      generalize (bodySize R).2 = e0 at *
      cases ok with
      | false =>
        have HE := Lib.hid (HPAR.out [] [] [] 40 (HP2.out.trans (if_pos rfl)))
        clear HP2 HPAR
        go_enter Tryz.func6, Tryz.ntmps6
        go_wp2_with fail
        refine HC.out.mono ?_
        rintro e w1 ⟨rfl, h1⟩
        have P1 := Lib.hid (P0.out.then h1)
        clear h1
        go_wp2_with fail
        rw [HH.out]
        refine (HC2.out _ P1.out.gh).mono ?_
        rintro e w2 ⟨rfl, h2⟩
        have P2 := Lib.hid (P1.out.then h2)
        clear h2
        go_wp2_with fail
        refine (HF.out _ P2.out.gh).mono ?_
        rintro e w3 ⟨rfl, h3⟩
        have P3 := Lib.hid (P2.out.then h3)
        obtain ⟨d0, d1, d2, k0, k1, k2⟩ := P3.out.cells
        clear h3
        go_wp2_with fail
        refine bodyPost_ret (v := .tuple #[.agg #[.string ⟨#[]⟩, .string ⟨#[]⟩, .string ⟨#[]⟩], .int .i64 40]) (by simp [results, Tryz.results6, go_sem, d0, d1, d2]) rfl ⟨by rw [HE.out]; rfl, below_three P3.out.below _ _ _⟩
      | true =>
        have HP3 := Lib.hid (HP2.out.trans (if_neg (by simp)))
        clear HP2
        by_cases he : e0 = 0
        · subst he
          have HP4 := Lib.hid (HP3.out.trans (if_neg (by simp)))
          clear HP3
          by_cases hz : (Y.length : Int) = z
          · have HE := Lib.hid (HPAR.out m p Y 0 (HP4.out.trans (if_neg (fun h => h hz))))
            have hz2 : ((Y.length : Int) != z) = false := by simp [hz]
            have KM : Hid (∀ w, Calls Tryz.prog 18 #[.string (B m)] w fun e w' => e = .returned (.string (B m)) ∧ Below w.heap.size w w') := Lib.hid (fun w => clone_any (B m) w (by rw [B_size]; exact HSZ.out.1))
            have KP : Hid (∀ w, Calls Tryz.prog 18 #[.string (B p)] w fun e w' => e = .returned (.string (B p)) ∧ Below w.heap.size w w') := Lib.hid (fun w => clone_any (B p) w (by rw [B_size]; exact HSZ.out.2.1))
            have KY : Hid (∀ w, Calls Tryz.prog 18 #[.string (B Y)] w fun e w' => e = .returned (.string (B Y)) ∧ Below w.heap.size w w') := Lib.hid (fun w => clone_any (B Y) w (by rw [B_size]; exact HSZ.out.2.2))
            clear HP4 HPAR hz
            go_enter Tryz.func6, Tryz.ntmps6
            go_wp2_with fail
            refine HC.out.mono ?_
            rintro e w1 ⟨rfl, h1⟩
            have P1 := Lib.hid (P0.out.then h1)
            clear h1
            go_wp2_with fail
            rw [HH.out]
            refine (HC2.out _ P1.out.gh).mono ?_
            rintro e w2 ⟨rfl, h2⟩
            have P2 := Lib.hid (P1.out.then h2)
            clear h2
            go_wp2_with fail
            refine (HF.out _ P2.out.gh).mono ?_
            rintro e w3 ⟨rfl, h3⟩
            have P3 := Lib.hid (P2.out.then h3)
            clear h3
            go_wp2_with fail
            refine (HBO.out _ P3.out.gh).mono ?_
            rintro e w4 ⟨rfl, h4⟩
            have P4 := Lib.hid (P3.out.then h4)
            clear h4
            go_wp2_with fail
            refine (KM.out _).mono ?_
            rintro e w5 ⟨rfl, h5⟩
            have P5 := Lib.hid (P4.out.then h5)
            clear h5
            go_wp2_with fail
            refine (KP.out _).mono ?_
            rintro e w6 ⟨rfl, h6⟩
            have P6 := Lib.hid (P5.out.then h6)
            clear h6
            go_wp2_with fail
            refine (KY.out _).mono ?_
            rintro e w7 ⟨rfl, h7⟩
            have P7 := Lib.hid (P6.out.then h7)
            obtain ⟨d0, d1, d2, k0, k1, k2⟩ := P7.out.cells
            clear h7
            go_wp2_with fail
            refine bodyPost_ret (v := .tuple #[.agg #[.string (B m), .string (B p), .string (B Y)], .int .i64 0]) (by simp [results, Tryz.results6, go_sem, d0, d1, d2]) rfl ⟨by rw [HE.out], below_three P7.out.below _ _ _⟩
          · have HE := Lib.hid (HPAR.out [] [] [] 40 (HP4.out.trans (if_pos hz)))
            have hz2 : ((Y.length : Int) != z) = true := by simp [hz]
            clear HP4 HPAR hz
            go_enter Tryz.func6, Tryz.ntmps6
            go_wp2_with fail
            refine HC.out.mono ?_
            rintro e w1 ⟨rfl, h1⟩
            have P1 := Lib.hid (P0.out.then h1)
            clear h1
            go_wp2_with fail
            rw [HH.out]
            refine (HC2.out _ P1.out.gh).mono ?_
            rintro e w2 ⟨rfl, h2⟩
            have P2 := Lib.hid (P1.out.then h2)
            clear h2
            go_wp2_with fail
            refine (HF.out _ P2.out.gh).mono ?_
            rintro e w3 ⟨rfl, h3⟩
            have P3 := Lib.hid (P2.out.then h3)
            clear h3
            go_wp2_with fail
            refine (HBO.out _ P3.out.gh).mono ?_
            rintro e w4 ⟨rfl, h4⟩
            have P4 := Lib.hid (P3.out.then h4)
            clear h4
            obtain ⟨d0, d1, d2, k0, k1, k2⟩ := P4.out.cells
            go_wp2_with fail
            refine bodyPost_ret (v := .tuple #[.agg #[.string ⟨#[]⟩, .string ⟨#[]⟩, .string ⟨#[]⟩], .int .i64 40]) (by simp [results, Tryz.results6, go_sem, d0, d1, d2]) rfl ⟨by rw [HE.out]; rfl, below_three P4.out.below _ _ _⟩
        · have HE := Lib.hid (HPAR.out [] [] [] e0 (HP3.out.trans (if_pos he)))
          have he2 : (e0 == 0) = false := by simpa using he
          clear HP3 HPAR he
          go_enter Tryz.func6, Tryz.ntmps6
          go_wp2_with fail
          refine HC.out.mono ?_
          rintro e w1 ⟨rfl, h1⟩
          have P1 := Lib.hid (P0.out.then h1)
          clear h1
          go_wp2_with fail
          rw [HH.out]
          refine (HC2.out _ P1.out.gh).mono ?_
          rintro e w2 ⟨rfl, h2⟩
          have P2 := Lib.hid (P1.out.then h2)
          clear h2
          go_wp2_with fail
          refine (HF.out _ P2.out.gh).mono ?_
          rintro e w3 ⟨rfl, h3⟩
          have P3 := Lib.hid (P2.out.then h3)
          clear h3
          go_wp2_with fail
          refine (HBO.out _ P3.out.gh).mono ?_
          rintro e w4 ⟨rfl, h4⟩
          have P4 := Lib.hid (P3.out.then h4)
          clear h4
          obtain ⟨d0, d1, d2, k0, k1, k2⟩ := P4.out.cells
          go_wp2_with fail
          refine bodyPost_ret (v := .tuple #[.agg #[.string ⟨#[]⟩, .string ⟨#[]⟩, .string ⟨#[]⟩], .int .i64 e0]) (by simp [results, Tryz.results6, go_sem, d0, d1, d2]) rfl ⟨by rw [HE.out]; rfl, below_three P4.out.below _ _ _⟩
theorem parse_any (s : ByteArray) (w : World) (hs : s.size ≤ 16777215) (ha : (Lib.cut s.data.toList hend).2.2 = true → asc (headOf s.data.toList)) (G : Gh w) :
    Calls Tryz.prog 6 #[.string s] w fun e w' => e = .returned (parseV s.data.toList) ∧ Below w.heap.size w w' :=
  parse_gen s w hs (fun h => asc_ascN _ (asc_cut (ha h)).2) G
end Go.Proofs.YtihcihpndckfjabGreatDoor
