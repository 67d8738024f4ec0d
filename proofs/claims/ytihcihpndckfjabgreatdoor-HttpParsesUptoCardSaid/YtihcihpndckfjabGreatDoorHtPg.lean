/- http's call Parse at any text. Conditions: those that each theorem names. -/
import Derived.Test.YtihcihpndckfjabGreatDoorHtBg
import Derived.Test.YtihcihpndckfjabGreatDoorHtPa
namespace Go.Proofs.YtihcihpndckfjabGreatDoor
set_option linter.unusedVariables false
open Go Go.RowKit Go.Shelf Ht

/-- A world behind Parse's beginning, with all that the library's variables hold. -/
structure Pc (w x : World) : Prop where
  pa : Pa w x
  gc : GhC x
theorem Pc.new {w : World} (G : GhC w) : Pc w (w.alloc zero3) := ⟨Pa.new G.gh, G.below (below_alloc w zero3)⟩
theorem Pc.then {w x y : World} (h : Pc w x) (g : Below x.heap.size x y) : Pc w y := ⟨h.pa.then g, h.gc.below g⟩
set_option maxHeartbeats 2000000 in
set_option maxRecDepth 100000 in
theorem parse_all (s : ByteArray) (w : World) (hs : s.size ≤ 16777215) (G : GhC w) :
    Calls Tryz.prog 6 #[.string s] w fun e w' => e = .returned (parseV s.data.toList) ∧ Below w.heap.size w w' := by
  have P0 := Lib.hid (Pc.new G)
  have HC := Lib.hid (cut_any s hend (w.alloc zero3) hs P0.out.pa.gh)
  have hl := (cut_len s.data.toList hend).2
  rw [← Lib.size_eq] at hl
  have hh := head_is s
  have hlen : (headOf s.data.toList).length = s.size - (Lib.cut s.data.toList hend).2.1.length := by unfold headOf; rw [Lib.size_eq]; simp
  have hbl := B_size (Lib.cut s.data.toList hend).2.1
  have hpar : ∀ m p b e, parse s.data.toList = ((m, p, b), e) → parseV s.data.toList = .tuple #[.agg #[.string (B m), .string (B p), .string (B b)], .int .i64 e] := fun m p b e h => by unfold parseV reqV; rw [h]
  have HPAR := Lib.hid hpar
  have hp0 : parse s.data.toList = parse s.data.toList := rfl
  conv at hp0 => rhs; unfold parse
  generalize hX : headOf s.data.toList = X at *
  generalize hY : (Lib.cut s.data.toList hend).2.1 = Y at *
  generalize hZ : (Lib.cut s.data.toList hend).2.2 = Z at *
  have i1 : (0 : Int) ≤ (s.size : Int) - Y.length := by omega
  have i2 : (s.size : Int) - Y.length ≤ s.size := by omega
  have HH := Lib.hid hh
  have HXL := Lib.hid hlen
  clear hpar G hX hY hZ hh hlen
  have HP0 := Lib.hid hp0
  clear hp0
  by_cases hbig : (4096 : Int) < ((s.size - Y.length : Nat) : Int)
  · have HE := Lib.hid (HPAR.out [] [] [] 41 (HP0.out.trans (if_pos (by rw [HXL.out]; omega))))
    clear HP0 HPAR
    go_enter Tryz.func6, Tryz.ntmps6
    go_wp2_with fail
    refine HC.out.mono ?_
    rintro e w1 ⟨rfl, h1⟩
    have P1 := Lib.hid (P0.out.then h1)
    obtain ⟨d0, d1, d2, k0, k1, k2⟩ := P1.out.pa.cells
    clear h1
    go_wp2_with fail
    refine bodyPost_ret (v := .tuple #[.agg #[.string ⟨#[]⟩, .string ⟨#[]⟩, .string ⟨#[]⟩], .int .i64 41]) (by simp [results, Tryz.results6, go_sem, d0, d1, d2]) rfl ⟨by rw [HE.out]; rfl, below_three P1.out.pa.below _ _ _⟩
  · have HP1 := Lib.hid (HP0.out.trans (if_neg (by rw [HXL.out]; omega)))
    clear HP0
    cases Z with
    | false =>
      have HE := Lib.hid (HPAR.out [] [] [] 40 (HP1.out.trans (if_pos rfl)))
      clear HP1 HPAR
      go_enter Tryz.func6, Tryz.ntmps6
      go_wp2_with fail
      refine HC.out.mono ?_
      rintro e w1 ⟨rfl, h1⟩
      have P1 := Lib.hid (P0.out.then h1)
      obtain ⟨d0, d1, d2, k0, k1, k2⟩ := P1.out.pa.cells
      clear h1
      go_wp2_with fail
      refine bodyPost_ret (v := .tuple #[.agg #[.string ⟨#[]⟩, .string ⟨#[]⟩, .string ⟨#[]⟩], .int .i64 40]) (by simp [results, Tryz.results6, go_sem, d0, d1, d2]) rfl ⟨by rw [HE.out]; rfl, below_three P1.out.pa.below _ _ _⟩
    | true =>
      have HP2 := Lib.hid (HP1.out.trans (if_neg (by simp)))
      clear HP1
      have hXs : X.length ≤ 16777215 := by rw [HXL.out]; omega
      have hcl := cut_len X crlf
      have HC2 : Hid (∀ w, Gh w → Calls Tryz.prog 15 #[.string (B X), .string (B crlf)] w fun e w' => e = .returned (.tuple #[.string (B (Lib.cut X crlf).1), .string (B (Lib.cut X crlf).2.1), .bool (Lib.cut X crlf).2.2]) ∧ Below w.heap.size w w') :=
        Lib.hid (fun w G => by have := cut_any (B X) crlf w (by rw [B_size]; exact hXs) G; rwa [B_data] at this)
      generalize (Lib.cut X crlf).1 = F at *
      generalize (Lib.cut X crlf).2.1 = R at *
      generalize (Lib.cut X crlf).2.2 = c2 at *
      have HF : Hid (∀ w, Gh w → Calls Tryz.prog 16 #[.string (B F)] w fun e w' => e = .returned (firstV F) ∧ Below w.heap.size w w') :=
        Lib.hid (fun w G => by have := first_any (B F) w (by rw [B_size]; omega) G; rwa [B_data] at this)
      have HBO : Hid (∀ w, GhC w → Calls Tryz.prog 17 #[.string (B R)] w fun e w' => e = .returned (.tuple #[.int .i64 (bodySize R).1, .int .i64 (bodySize R).2]) ∧ Below w.heap.size w w') :=
        Lib.hid (fun w G => by have := body_gen (B R) w (by rw [B_size]; omega) G; rwa [B_data] at this)
      have hVF : firstV F = .tuple #[.string (B (cutFirst F).1), .string (B (cutFirst F).2.1), .bool (cutFirst F).2.2] := rfl
      rw [hVF] at HF
      have hsz : (cutFirst F).1.length ≤ 16777215 ∧ (cutFirst F).2.1.length ≤ 16777215 ∧ Y.length ≤ 16777215 := by
        have e1 := (cut_len F [32]).1
        have e2 := (cut_len F [32]).2
        have e3 := (cut_len (Lib.cut F [32]).2.1 [32]).1
        refine ⟨?_, ?_, by omega⟩
        · show (Lib.cut F [32]).1.length ≤ _
          omega
        · show (Lib.cut (Lib.cut F [32]).2.1 [32]).1.length ≤ _
          omega
      clear hVF hcl hXs
      have HSZ : Hid ((cutFirst F).1.length ≤ 16777215 ∧ (cutFirst F).2.1.length ≤ 16777215 ∧ Y.length ≤ 16777215) := Lib.hid hsz
      clear hsz
      generalize (cutFirst F).1 = m at *
      generalize (cutFirst F).2.1 = p at *
      generalize (cutFirst F).2.2 = ok at *
      generalize (bodySize R).1 = z at *
      generalize (bodySize R).2 = e0 at *
      cases ok with
      | false =>
        have HE := Lib.hid (HPAR.out [] [] [] 40 (HP2.out.trans (if_pos rfl)))
        clear HP2 HPAR
        go_enter Tryz.func6, Tryz.ntmps6
        go_wp2_with fail
        refine HC.out.mono ?_
        rintro e w1 ⟨rfl, h1⟩
        have P1 := Lib.hid (P0.out.then h1)
        clear h1
        go_wp2_with fail
        rw [HH.out]
        refine (HC2.out _ P1.out.pa.gh).mono ?_
        rintro e w2 ⟨rfl, h2⟩
        have P2 := Lib.hid (P1.out.then h2)
        clear h2
        go_wp2_with fail
        refine (HF.out _ P2.out.pa.gh).mono ?_
        rintro e w3 ⟨rfl, h3⟩
        have P3 := Lib.hid (P2.out.then h3)
        obtain ⟨d0, d1, d2, k0, k1, k2⟩ := P3.out.pa.cells
        clear h3
        go_wp2_with fail
        refine bodyPost_ret (v := .tuple #[.agg #[.string ⟨#[]⟩, .string ⟨#[]⟩, .string ⟨#[]⟩], .int .i64 40]) (by simp [results, Tryz.results6, go_sem, d0, d1, d2]) rfl ⟨by rw [HE.out]; rfl, below_three P3.out.pa.below _ _ _⟩
      | true =>
        have HP3 := Lib.hid (HP2.out.trans (if_neg (by simp)))
        clear HP2
        by_cases he : e0 = 0
        · subst he
          have HP4 := Lib.hid (HP3.out.trans (if_neg (by simp)))
          clear HP3
          by_cases hz : (Y.length : Int) = z
          · have HE := Lib.hid (HPAR.out m p Y 0 (HP4.out.trans (if_neg (fun h => h hz))))
            have hz2 : ((Y.length : Int) != z) = false := by simp [hz]
            have KM : Hid (∀ w, Calls Tryz.prog 18 #[.string (B m)] w fun e w' => e = .returned (.string (B m)) ∧ Below w.heap.size w w') := Lib.hid (fun w => clone_any (B m) w (by rw [B_size]; exact HSZ.out.1))
            have KP : Hid (∀ w, Calls Tryz.prog 18 #[.string (B p)] w fun e w' => e = .returned (.string (B p)) ∧ Below w.heap.size w w') := Lib.hid (fun w => clone_any (B p) w (by rw [B_size]; exact HSZ.out.2.1))
            have KY : Hid (∀ w, Calls Tryz.prog 18 #[.string (B Y)] w fun e w' => e = .returned (.string (B Y)) ∧ Below w.heap.size w w') := Lib.hid (fun w => clone_any (B Y) w (by rw [B_size]; exact HSZ.out.2.2))
            clear HP4 HPAR hz
            go_enter Tryz.func6, Tryz.ntmps6
            go_wp2_with fail
            refine HC.out.mono ?_
            rintro e w1 ⟨rfl, h1⟩
            have P1 := Lib.hid (P0.out.then h1)
            clear h1
            go_wp2_with fail
            rw [HH.out]
            refine (HC2.out _ P1.out.pa.gh).mono ?_
            rintro e w2 ⟨rfl, h2⟩
            have P2 := Lib.hid (P1.out.then h2)
            clear h2
            go_wp2_with fail
            refine (HF.out _ P2.out.pa.gh).mono ?_
            rintro e w3 ⟨rfl, h3⟩
            have P3 := Lib.hid (P2.out.then h3)
            clear h3
            go_wp2_with fail
            refine (HBO.out _ P3.out.gc).mono ?_
            rintro e w4 ⟨rfl, h4⟩
            have P4 := Lib.hid (P3.out.then h4)
            clear h4
            go_wp2_with fail
            refine (KM.out _).mono ?_
            rintro e w5 ⟨rfl, h5⟩
            have P5 := Lib.hid (P4.out.then h5)
            clear h5
            go_wp2_with fail
            refine (KP.out _).mono ?_
            rintro e w6 ⟨rfl, h6⟩
            have P6 := Lib.hid (P5.out.then h6)
            clear h6
            go_wp2_with fail
            refine (KY.out _).mono ?_
            rintro e w7 ⟨rfl, h7⟩
            have P7 := Lib.hid (P6.out.then h7)
            obtain ⟨d0, d1, d2, k0, k1, k2⟩ := P7.out.pa.cells
            clear h7
            go_wp2_with fail
            refine bodyPost_ret (v := .tuple #[.agg #[.string (B m), .string (B p), .string (B Y)], .int .i64 0]) (by simp [results, Tryz.results6, go_sem, d0, d1, d2]) rfl ⟨by rw [HE.out], below_three P7.out.pa.below _ _ _⟩
          · have HE := Lib.hid (HPAR.out [] [] [] 40 (HP4.out.trans (if_pos hz)))
            have hz2 : ((Y.length : Int) != z) = true := by simp [hz]
            clear HP4 HPAR hz
            go_enter Tryz.func6, Tryz.ntmps6
            go_wp2_with fail
            refine HC.out.mono ?_
            rintro e w1 ⟨rfl, h1⟩
            have P1 := Lib.hid (P0.out.then h1)
            clear h1
            go_wp2_with fail
            rw [HH.out]
            refine (HC2.out _ P1.out.pa.gh).mono ?_
            rintro e w2 ⟨rfl, h2⟩
            have P2 := Lib.hid (P1.out.then h2)
            clear h2
            go_wp2_with fail
            refine (HF.out _ P2.out.pa.gh).mono ?_
            rintro e w3 ⟨rfl, h3⟩
            have P3 := Lib.hid (P2.out.then h3)
            clear h3
            go_wp2_with fail
            refine (HBO.out _ P3.out.gc).mono ?_
            rintro e w4 ⟨rfl, h4⟩
            have P4 := Lib.hid (P3.out.then h4)
            clear h4
            obtain ⟨d0, d1, d2, k0, k1, k2⟩ := P4.out.pa.cells
            go_wp2_with fail
            refine bodyPost_ret (v := .tuple #[.agg #[.string ⟨#[]⟩, .string ⟨#[]⟩, .string ⟨#[]⟩], .int .i64 40]) (by simp [results, Tryz.results6, go_sem, d0, d1, d2]) rfl ⟨by rw [HE.out]; rfl, below_three P4.out.pa.below _ _ _⟩
        · have HE := Lib.hid (HPAR.out [] [] [] e0 (HP3.out.trans (if_pos he)))
          have he2 : (e0 == 0) = false := by simpa using he
          clear HP3 HPAR he
          go_enter Tryz.func6, Tryz.ntmps6
          go_wp2_with fail
          refine HC.out.mono ?_
          rintro e w1 ⟨rfl, h1⟩
          have P1 := Lib.hid (P0.out.then h1)
          clear h1
          go_wp2_with fail
          rw [HH.out]
          refine (HC2.out _ P1.out.pa.gh).mono ?_
          rintro e w2 ⟨rfl, h2⟩
          have P2 := Lib.hid (P1.out.then h2)
          clear h2
          go_wp2_with fail
          refine (HF.out _ P2.out.pa.gh).mono ?_
          rintro e w3 ⟨rfl, h3⟩
          have P3 := Lib.hid (P2.out.then h3)
          clear h3
          go_wp2_with fail
          refine (HBO.out _ P3.out.gc).mono ?_
          rintro e w4 ⟨rfl, h4⟩
          have P4 := Lib.hid (P3.out.then h4)
          clear h4
          obtain ⟨d0, d1, d2, k0, k1, k2⟩ := P4.out.pa.cells
          go_wp2_with fail
          refine bodyPost_ret (v := .tuple #[.agg #[.string ⟨#[]⟩, .string ⟨#[]⟩, .string ⟨#[]⟩], .int .i64 e0]) (by simp [results, Tryz.results6, go_sem, d0, d1, d2]) rfl ⟨by rw [HE.out]; rfl, below_three P4.out.pa.below _ _ _⟩
end Go.Proofs.YtihcihpndckfjabGreatDoor
