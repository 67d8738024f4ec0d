/- The walk of ScalarCodes. Conditions: those that each theorem names. -/
import Derived.Test.YtfgmkdghpdpdkaaScArgs
import Derived.Test.YtfgmkdghpdpdkaaScK
namespace Go.Proofs.Ytfgmkdghpdpdkaa
set_option linter.unusedVariables false
open Go Go.RowKit Go.Shelf Go.Sort Vc Rk
namespace Sc
/-- A quantizer's two cells, and how far the world has grown. -/
abbrev QS (q : Nat) (u v : Value) (w4 X : World) : Prop := X.cell? ⟨q, 0, none⟩ = some u ∧ X.cell? ⟨q, 1, none⟩ = some v ∧ Below w4.heap.size w4 X
theorem err_small (lo hi : List Int) : (if mayB lo hi = true then errL (spansL lo hi) else []).length ≤ maxLen := by
  split
  · rename_i h
    obtain ⟨h1, _, h3, _⟩ := may_of h
    simp only [errL, List.length_map]
    rw [spans_len h3]; exact vec_len h1
  · simp
theorem dec_small (lo hi : List Int) (C : List UInt8) : (decQ lo hi C).1.length ≤ maxLen := by
  unfold decQ
  split
  · rename_i h
    split
    · rename_i h2
      obtain ⟨h1, _, h3, _⟩ := may_of h
      show (decL _ _).length ≤ _
      rw [dec_len (by rw [spans_len h3]; omega), spans_len h3]; exact vec_len h1
    · simp
  · simp
set_option maxHeartbeats 8000000 in
set_option maxRecDepth 100000 in
theorem codes_walk (a b : Value) (lo hi : List Int) (v : Value) (L : List Int) (s : ByteArray) (w : World) (wa : NumsIn w a lo) (wb : NumsIn w b hi) (wv : NumsIn w v L) (hs : s.size ≤ maxLen) :
    Calls Try.prog 4 #[.agg #[a, b], v, .string s] w fun e w' => e = .returned (.bool true) ∧ Below w.heap.size w w' := by
  obtain ⟨C, hC⟩ : ∃ C, s = tx C := ⟨s.data.toList, (tx_of s).symm⟩
  have hCl : C.length ≤ maxLen := by rw [← tx_size, ← hC]; exact hs
  subst hC
  obtain ⟨W0, hW0⟩ : ∃ W0, W0 = w.alloc (.cells #[a, b] 25) := ⟨_, rfl⟩
  have hb0 : Below w.heap.size w W0 := by rw [hW0]; exact fresh_alloc _ _
  have hz : W0.heap[w.heap.size]? = some (.cells #[a, b] 25) := by rw [hW0]; exact heap_last _ _
  have HK : Hid (∀ W, Below W0.heap.size W0 W → W.cell? ⟨w.heap.size, 0, none⟩ = some a ∧ W.cell? ⟨w.heap.size, 1, none⟩ = some b) := Lib.hid (fun W hW => by
    have g1 := (hW.block _ (lt_of_block hz)).trans hz
    exact ⟨by rw [Lib.cell_of_heap g1]; rfl, by rw [Lib.cell_of_heap g1]; rfl⟩)
  obtain ⟨x0, x1⟩ := HK.out W0 (Below.refl _ _)
  have ha := wa.1.below hb0
  have hb := wb.1.below hb0
  have hv := wv.1.below hb0
  have hE : ∀ (e : Ending) (E : List UInt8 × Int), (e = .returned (.tuple #[.string (tx E.1), .int .i64 E.2])) = (e = .returned (.tuple #[.string (tx E.1), .int .i64 E.2])) := fun _ _ => rfl
  obtain ⟨E, hEq⟩ : ∃ E, E = encQ lo hi L := ⟨_, rfl⟩
  obtain ⟨D, hDq⟩ : ∃ D, D = decQ lo hi C := ⟨_, rfl⟩
  obtain ⟨R, hRq⟩ : ∃ R, R = (if mayB lo hi = true then errL (spansL lo hi) else []) := ⟨_, rfl⟩
  have hDs : D.1.length ≤ maxLen := by rw [hDq]; exact dec_small _ _ _
  have hRs : R.length ≤ maxLen := by rw [hRq]; exact err_small _ _
  have C1 : Hid (∀ W, Below W0.heap.size W0 W → Calls Try.prog 11 #[.agg #[a, b], v] W fun e w' => e = .returned (.tuple #[.string (tx E.1), .int .i64 E.2]) ∧ Below W.heap.size W w') := Lib.hid (fun W hW => by
    rw [hEq]; exact Encode_any lo hi L a b v W (ha.below hW) (hb.below hW) (hv.below hW) wa.2 wb.2 wv.2)
  have C2 : Hid (∀ W, Below W0.heap.size W0 W → Calls Try.prog 12 #[.agg #[a, b], v] W fun e w' => e = .returned (.tuple #[.string (tx E.1), .int .i64 E.2]) ∧ Below W.heap.size W w') := Lib.hid (fun W hW => by
    rw [hEq]; exact encR_any lo hi L a b v W (ha.below hW) (hb.below hW) (hv.below hW) wa.2 wb.2 wv.2)
  have C3 : Hid (∀ W, Below W0.heap.size W0 W → Calls Try.prog 13 #[.agg #[a, b], .string (tx C)] W fun e w' => ∃ r, e = .returned (.tuple #[r, .int .i64 D.2]) ∧ OwnN w' W.heap.size r D.1 ∧ Below W.heap.size W w') := Lib.hid (fun W hW => by
    rw [hDq]; exact Decode_any lo hi C a b W (ha.below hW) (hb.below hW) wa.2 wb.2 hCl)
  have C4 : Hid (∀ W, Below W0.heap.size W0 W → Calls Try.prog 14 #[.agg #[a, b], .string (tx C)] W fun e w' => ∃ r, e = .returned (.tuple #[r, .int .i64 D.2]) ∧ OwnN w' W.heap.size r D.1 ∧ Below W.heap.size W w') := Lib.hid (fun W hW => by
    rw [hDq]; exact decR_any lo hi C a b W (ha.below hW) (hb.below hW) wa.2 wb.2 hCl)
  have C5 : Hid (∀ W, Below W0.heap.size W0 W → Calls Try.prog 16 #[.agg #[a, b]] W fun e w' => ∃ r, e = .returned r ∧ OwnN w' W.heap.size r R ∧ Below W.heap.size W w') := Lib.hid (fun W hW => by
    rw [hRq]; exact error_any lo hi a b W (ha.below hW) (hb.below hW) wa.2 wb.2)
  have C6 : Hid (∀ W, Below W0.heap.size W0 W → Calls Try.prog 17 #[.agg #[a, b]] W fun e w' => ∃ r, e = .returned r ∧ OwnN w' W.heap.size r R ∧ Below W.heap.size W w') := Lib.hid (fun W hW => by
    rw [hRq]; exact errR_any lo hi a b W (ha.below hW) (hb.below hW) wa.2 wb.2)
  have HSA : Hid (∀ (M : List Int) (x y : Value) W, IntsAt W x M → IntsAt W y M → M.length ≤ maxLen → Calls Try.prog 15 #[x, y] W fun e w' => e = .returned (.bool true) ∧ Below W.heap.size W w') := Lib.hid (fun M x y W hx hy hm => by
    have h := Go.Proofs.Ytfgmkdghpdpdkaa.same_any M M x y W hx hy hm hm
    rw [decide_eq_true rfl] at h
    exact h)
  have HDS := Lib.hid (And.intro hDs hRs)
  have HB0 := Lib.hid hb0
  obtain ⟨pa, ca, ea⟩ := ha.form
  obtain ⟨pb, cb, eb⟩ := hb.form
  obtain ⟨pv, cv, ev⟩ := hv.form
  obtain ⟨E1, E2⟩ := E
  obtain ⟨D1, D2⟩ := D
  simp only at C1 C2 C3 C4 HDS
  generalize tx E1 = te at *
  generalize tx C = tc at *
  subst ea; subst eb; subst ev
  clear hz ha hb hv wa wb wv hs hCl hE hEq hDq hRq hDs hRs hb0
  generalize lo.length = nl at *
  generalize hi.length = nh at *
  generalize L.length = nv at *
  go_enter Try.func4, Try.ntmps4
  go_upto_region 1 with fail
  rw [← hW0]
  clear hW0
  go_wp2_with fail
  with_reducible refine (C1.out W0 (Below.refl _ _)).mono ?_
  rintro e w1 ⟨rfl, h1⟩
  obtain ⟨x0, x1⟩ := HK.out w1 h1
  have H1 := Lib.hid h1
  clear h1
  go_wp2_with fail
  with_reducible refine (C2.out w1 H1.out).mono ?_
  rintro e w2 ⟨rfl, h2⟩
  have h2' := H1.out.trans (h2.mono H1.out.size)
  obtain ⟨x0, x1⟩ := HK.out w2 h2'
  have H2 := Lib.hid h2'
  clear h2 h2'
  go_wp2_with fail
  with_reducible refine (C3.out w2 H2.out).mono ?_
  rintro e w3 ⟨r3, rfl, ho3, h3⟩
  have h3' := H2.out.trans (h3.mono H2.out.size)
  obtain ⟨x0, x1⟩ := HK.out w3 h3'
  have H3 := Lib.hid h3'
  have HO3 := Lib.hid (ownN_own ho3).at
  obtain ⟨p3, n3, c3, e3⟩ : ∃ p n c, r3 = .slice p n c := by
    obtain ⟨p, c, e⟩ := (ownN_own ho3).at.form
    exact ⟨p, _, c, e⟩
  subst e3
  clear h3 h3' ho3
  go_wp2_with fail
  with_reducible refine (C4.out w3 H3.out).mono ?_
  rintro e w4 ⟨r4, rfl, ho4, h4⟩
  have h4' := H3.out.trans (h4.mono H3.out.size)
  obtain ⟨x0, x1⟩ := HK.out w4 h4'
  have H4 := Lib.hid h4'
  have HO4 := Lib.hid (ownN_own ho4).at
  have HO34 := Lib.hid (HO3.out.below h4)
  obtain ⟨p4, n4, c4, e4⟩ : ∃ p n c, r4 = .slice p n c := by
    obtain ⟨p, c, e⟩ := (ownN_own ho4).at.form
    exact ⟨p, _, c, e⟩
  subst e4
  clear h4 h4' ho4 C1 C2 C3 C4
  have hE2 : (E2 == E2) = true := beq_self_eq_true _
  have hD2 : (D2 == D2) = true := beq_self_eq_true _
  have htt : (te.toList == te.toList) = true := beq_self_eq_true _
  have AW := Lib.hid awake_yes
  have CS1 : Hid (∀ W, Below w4.heap.size w4 W → Calls Try.prog 15 #[.slice p3 n3 c3, .slice p4 n4 c4] W fun e w' => e = .returned (.bool true) ∧ Below W.heap.size W w') := Lib.hid (fun W hW => HSA.out D1 _ _ W (HO34.out.below hW) (HO4.out.below hW) HDS.out.1)
  have K0 : w4.drew.cell? ⟨w.heap.size, 0, none⟩ = some (.slice pa nl ca) ∧ w4.drew.cell? ⟨w.heap.size, 1, none⟩ = some (.slice pb nh cb) ∧ Below w4.heap.size w4 w4.drew := ⟨x0, x1, (Below.refl _ _).drew⟩
  have ALL : ∀ {x y : World}, (x.cell? ⟨w.heap.size, 0, none⟩ = some (.slice pa nl ca) ∧ x.cell? ⟨w.heap.size, 1, none⟩ = some (.slice pb nh cb) ∧ Below w4.heap.size w4 x) → Below x.heap.size x y → y.cell? ⟨w.heap.size, 0, none⟩ = some (.slice pa nl ca) ∧ y.cell? ⟨w.heap.size, 1, none⟩ = some (.slice pb nh cb) ∧ Below w4.heap.size w4 y := fun h g => by
    have hb := h.2.2.trans (g.mono h.2.2.size)
    have hk := HK.out _ (H4.out.trans (hb.mono H4.out.size))
    exact ⟨hk.1, hk.2, hb⟩
  have mixed : Try.prog.follows .mixedOrders = true := by kernel_rfl
  go_wp2_with fail
  go_region_held3 (fun X => X.cell? ⟨w.heap.size, 0, none⟩ = some (.slice pa nl ca) ∧ X.cell? ⟨w.heap.size, 1, none⟩ = some (.slice pb nh cb) ∧ Below w4.heap.size w4 X)
    (first | assumption | exact ALL (by assumption) hb | exact ALL ⟨by assumption, by assumption, by assumption⟩ hb | go_keep)
    (first
      | (go_at_call 16; refine (C5.out _ (H4.out.trans (Below.mono (by first | assumption | exact (show QS w.heap.size (.slice pa nl ca) (.slice pb nh cb) w4 _ by assumption).2.2) H4.out.size))).mono ?_; rintro e y5 ⟨r5, rfl, ho5, hb⟩)
      | (go_at_call 17; refine (C6.out _ (H4.out.trans (Below.mono (by first | assumption | exact (show QS w.heap.size (.slice pa nl ca) (.slice pb nh cb) w4 _ by assumption).2.2) H4.out.size))).mono ?_; rintro e y6 ⟨r6, rfl, ho6, hb⟩)
      | (go_at_call 10; refine (AW.out _).mono ?_; rintro e y8 ⟨rfl, hb⟩)
      | (go_at_call 15; refine (CS1.out _ (by first | assumption | exact (show QS w.heap.size (.slice pa nl ca) (.slice pb nh cb) w4 _ by assumption).2.2)).mono ?_; rintro e y4 ⟨rfl, hb⟩; clear CS1)
      | (go_at_call 15; refine (HSA.out R _ _ _ ((ownN_own ho5).at.below hb) (ownN_own ho6).at HDS.out.2).mono ?_; rintro e y7 ⟨rfl, hb⟩))
  have hf : Below w4.heap.size w4 y8 := by first | assumption | exact (show QS w.heap.size (.slice pa nl ca) (.slice pb nh cb) w4 _ by assumption).2.2
  have HF := Lib.hid (HB0.out.trans ((H4.out.trans (hf.mono H4.out.size)).mono HB0.out.size))
  clear hf
  go_wp2_with fail
  go_ret
  exact ⟨rfl, HF.out⟩
end Sc
end Go.Proofs.Ytfgmkdghpdpdkaa
