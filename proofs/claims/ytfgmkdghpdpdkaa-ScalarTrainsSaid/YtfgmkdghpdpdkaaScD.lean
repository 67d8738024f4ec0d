/- scalar's decode, and Error. Conditions: those that each theorem names. -/
import Derived.Test.YtfgmkdghpdpdkaaScC
import Derived.Lib.IndexBytes
namespace Go.Proofs.Ytfgmkdghpdpdkaa
set_option linter.unusedVariables false
open Go Go.RowKit Vc Rk
namespace Sc
/-- A row of spans, also none: its form, and its cells in every world that keeps it. -/
theorem spans_row {w : World} {v : Value} {S : List Sp} (h : RowAt encS 2 w v S) : ∃ p c, v = .slice p S.length c ∧ ∀ (k : Nat) s, S[k]? = some s → ∃ b off, p = some ⟨b, off, none⟩ ∧ b < w.heap.size ∧
    ∀ wr, Below w.heap.size w wr → wr.cell? ⟨b, off + k * 2, none⟩ = some (.int .i64 s.1) ∧ wr.cell? ⟨b, off + k * 2 + 1, none⟩ = some (.int .i64 s.2) := by
  rcases h with ⟨rfl, p, c, rfl⟩ | ⟨b, off, c, e, hb, hc⟩
  · exact ⟨p, c, rfl, fun k s hs => by simp at hs⟩
  · refine ⟨_, c, e, fun k s hs => ⟨b, off, rfl, hb, fun wr hw => ?_⟩⟩
    obtain ⟨hk, rfl⟩ := List.getElem?_eq_some_iff.1 hs
    exact ⟨hc wr (hw.block b hb) k hk 0 _ rfl, hc wr (hw.block b hb) k hk 1 _ rfl⟩
theorem tx_at {C : List UInt8} {k : Nat} {c : UInt8} (h : C[k]? = some c) (h0 : k < (tx C).size) : (tx C)[k]'h0 = c := by
  have := Lib.data_getElem? (tx C) k h0
  rw [tx_list, h] at this
  injection this with e
  exact e.symm
set_option maxHeartbeats 4000000 in
set_option maxRecDepth 100000 in
theorem decode_any (S : List Sp) (C : List UInt8) (u : Value) (w : World) (hu : RowAt encS 2 w u S) (hl : S.length = C.length) (h64 : S.length ≤ 64) (hS : ∀ s ∈ S, OkS s) :
    Calls Try.prog 31 #[u, .string (tx C)] w fun e w' => ∃ v, e = .returned v ∧ OwnN w' w.heap.size v (decL S C) ∧ Below w.heap.size w w' := by
  obtain ⟨p, c1, rfl, hc1⟩ := spans_row hu
  obtain ⟨R, hR⟩ : ∃ R, R = decL S C := ⟨_, rfl⟩
  obtain ⟨s0, hs0⟩ : ∃ s0, s0 = tx C := ⟨_, rfl⟩
  have hsz0 : s0.size = S.length := by rw [hs0, tx_size, hl]
  have hat : ∀ k, k < S.length → ∃ (s : Sp) (c : UInt8), OkS s ∧ R[k]? = some (valueU s c) ∧ (∀ h0, s0[k]'h0 = c) ∧ (∃ b off, p = some ⟨b, off, none⟩ ∧ b < w.heap.size ∧
      ∀ wr, Below w.heap.size w wr → wr.cell? ⟨b, off + k * 2, none⟩ = some (.int .i64 s.1) ∧ wr.cell? ⟨b, off + k * 2 + 1, none⟩ = some (.int .i64 s.2)) := fun k hk => by
    have hs : S[k]? = some S[k] := List.getElem?_eq_getElem hk
    have hx : C[k]? = some (C[k]'(by omega)) := List.getElem?_eq_getElem (by omega)
    refine ⟨S[k], C[k]'(by omega), hS _ (List.getElem_mem _), by rw [hR]; exact dec_at hs hx, fun h0 => by subst hs0; exact tx_at hx h0, hc1 k _ hs⟩
  have HAT := Lib.hid hat
  have HRL : Hid (R.length = S.length) := Lib.hid (by rw [hR, dec_len hl])
  obtain ⟨o, hmk, hl0⟩ := make_ints S.length h64 w w.heap.size (Nat.le_refl _)
  have HMK := Lib.hid hmk
  have HL0 := Lib.hid hl0
  have HB1 : Hid (Below w.heap.size w (w.alloc o)) := Lib.hid (fresh_alloc _ _)
  have H64 := Lib.hid h64
  have HSZ0 := Lib.hid hsz0
  rw [← hR, ← hs0]
  clear hu hc1 hat hmk hl0 hR hS hs0 hsz0 hl
  generalize S.length = n at *
  go_enter Try.func31, Try.ntmps31
  go_wp2_with fail
  rw [HMK.out]
  go_wp2_with fail
  have HBL : Hid (w.heap.size < (w.alloc o).heap.size) := Lib.hid (by simp)
  generalize w.alloc o = W1 at *
  clear HMK
  go_loopw [13] (fun i wr => ∃ k : Nat, k ≤ n ∧ i = .int .i64 k ∧ Below w.heap.size w wr ∧ W1.heap.size ≤ wr.heap.size ∧ OwnN wr w.heap.size (.slice (some ⟨w.heap.size, 0, none⟩) n n) (R.take k ++ List.replicate (n - k) 0)) (fun i _ => n - (intOf i).toNat)
  case atStart => exact ⟨0, Nat.zero_le _, rfl, HB1.out, Nat.le_refl _, by simpa using HL0.out⟩
  case round =>
    obtain ⟨k, hk, rfl, hbw, hsz, how⟩ := hrel
    obtain ⟨wo, rfl⟩ : ∃ wo : World, wo = wr := ⟨_, rfl⟩
    have HBW := Lib.hid hbw
    have HSZ := Lib.hid hsz
    have HOW := Lib.hid how
    by_cases hlt : k < n
    · obtain ⟨s, c, hok, hRk, hs0k, b, off, rfl, hbs, hcells⟩ := HAT.out k hlt
      obtain ⟨y1, y2⟩ := hcells wo hbw
      have HCE := Lib.hid hcells
      have HRK := Lib.hid hRk
      have HC := Lib.hid (fun W => value_any s (c.toNat : Int) W hok ⟨by omega, by have := c.toNat_lt; omega⟩)
      have hks : k < s0.size := by rw [HSZ0.out]; exact hlt
      have hksz : (k : Int) < (s0.size : Int) := by omega
      have hsk := hs0k hks
      obtain ⟨lo, hi⟩ := s
      simp only at y1 y2
      have hz0 : w.heap.size < wo.heap.size := Nat.lt_of_lt_of_le HBL.out hsz
      have HSS := Lib.hid hz0
      clear hcells hRk hok hs0k hbw hsz how hz0 hbs
      go_upto_region 5 with fail
      obtain ⟨z0, z1⟩ := sp_box wo (lo, hi)
      have hbo : Below w.heap.size w (wo.alloc (spO (lo, hi))) := HBW.out.alloc HBW.out.size _
      have ho1 := own_below HOW.out (fresh_alloc wo (spO (lo, hi)))
      have HBO := Lib.hid hbo
      have HO1 := Lib.hid ho1
      have HSK : Hid (∀ W, Below (wo.alloc (spO (lo, hi))).heap.size (wo.alloc (spO (lo, hi))) W → W.cell? ⟨wo.heap.size, 0, none⟩ = some (.int .i64 lo) ∧ W.cell? ⟨wo.heap.size, 1, none⟩ = some (.int .i64 hi)) := Lib.hid (fun W hW => by
        have h := (hW.block wo.heap.size (by simp)).trans (heap_last wo (spO (lo, hi)))
        exact ⟨by rw [Lib.cell_of_heap h]; rfl, by rw [Lib.cell_of_heap h]; rfl⟩)
      have HKN := Lib.hid hk
      have HLT := Lib.hid hlt
      have HSZ1 : Hid (W1.heap.size ≤ (wo.alloc (spO (lo, hi))).heap.size) := Lib.hid (by have := HSZ.out; simp; omega)
      clear hbo ho1 y1 y2
      rw [show Obj.cells #[Value.int IntKind.i64 lo, Value.int IntKind.i64 hi] 72 = spO (lo, hi) from rfl]
      generalize wo.alloc (spO (lo, hi)) = w1 at *
      go_wp2_with fail
      refine wp_region_L 8 (fun X => X.cell? ⟨wo.heap.size, 0, none⟩ = some (.int .i64 lo) ∧ X.cell? ⟨wo.heap.size, 1, none⟩ = some (.int .i64 hi)) (by kernel_rfl) ⟨z0, z1⟩ fun hSS => ?_
      refine L_take' (i := 0) (v := ?vv0) rfl (by kernel_rfl) (by kernel_rfl) (by kernel_rfl) (by kernel_rfl) (fun _ _ _ h => h) (Or.inl ⟨by rfl, ?hy0⟩) (by assumption) ?rest0
      case hy0 =>
        intro wy hSx
        obtain ⟨q0, q1⟩ := hSx
        go_simp
        all_goals with_reducible rfl
      try simp only [Act.put, List.setIfInBounds_toArray, List.set_cons_zero, List.set_cons_succ]
      refine L_take' (i := 1) (v := ?vv1) rfl (by kernel_rfl) (by kernel_rfl) (by kernel_rfl) (by kernel_rfl) (fun _ _ _ h => h) (Or.inl ⟨by rfl, ?hy1⟩) (by assumption) ?rest1
      case hy1 =>
        intro wy hSx
        obtain ⟨q0, q1⟩ := hSx
        go_simp
        all_goals with_reducible rfl
      try simp only [Act.put, List.setIfInBounds_toArray, List.set_cons_zero, List.set_cons_succ]
      refine L_take' (i := 2) (v := ?vv2) rfl (by kernel_rfl) (by kernel_rfl) (by kernel_rfl) (by kernel_rfl) (fun _ _ _ h => h) (Or.inl ⟨by rfl, ?hy2⟩) (by assumption) ?rest2
      case hy2 =>
        intro wy hSx
        obtain ⟨q0, q1⟩ := hSx
        go_simp
        all_goals with_reducible rfl
      try simp only [Act.put, List.setIfInBounds_toArray, List.set_cons_zero, List.set_cons_succ]
      refine L_take' (i := 3) (v := ?vv3) rfl (by kernel_rfl) (by kernel_rfl) (by kernel_rfl) (by kernel_rfl) (fun _ _ _ h => h) (Or.inl ⟨by rfl, ?hy3⟩) (by assumption) ?rest3
      case hy3 =>
        intro wy hSx
        obtain ⟨q0, q1⟩ := hSx
        go_simp
        all_goals with_reducible rfl
      try simp only [Act.put, List.setIfInBounds_toArray, List.set_cons_zero, List.set_cons_succ]
      refine L_take' (i := 4) (v := ?vv4) rfl (by kernel_rfl) (by kernel_rfl) (by kernel_rfl) (by kernel_rfl) (fun _ _ _ h => h) (Or.inl ⟨by rfl, ?hy4⟩) (by assumption) ?rest4
      case hy4 =>
        intro wy hSx
        obtain ⟨q0, q1⟩ := hSx
        go_simp
        all_goals with_reducible rfl
      try simp only [Act.put, List.setIfInBounds_toArray, List.set_cons_zero, List.set_cons_succ]
      refine L_take' (i := 5) (v := ?vv5) rfl (by kernel_rfl) (by kernel_rfl) (by kernel_rfl) (by kernel_rfl) (fun _ _ _ h => h) (Or.inl ⟨by rfl, ?hy5⟩) (by assumption) ?rest5
      case hy5 =>
        intro wy hSx
        obtain ⟨q0, q1⟩ := hSx
        go_simp
        all_goals with_reducible rfl
      try simp only [Act.put, List.setIfInBounds_toArray, List.set_cons_zero, List.set_cons_succ]
      refine L_one' (i := 6) rfl (by kernel_rfl) fun K hK => ?_
      go_simp
      refine (HC.out _).mono ?_
      rintro e w5 ⟨rfl, hb5⟩
      have hd5 : Below w1.heap.size w1 w5 := (Below.refl _ w1).drew.trans hb5
      have ho5 := own_below HO1.out hd5
      have S5 := HSK.out w5 hd5
      have hb5' := HBO.out.trans (hd5.mono HBO.out.size)
      obtain ⟨⟨y, p0, f0⟩, hput⟩ := put_int ho5 k (by rw [fill_len HKN.out HRL.out]; exact hlt)
      have h5 := hput (valueU (lo, hi) c)
      rw [fill_set hlt HRL.out HRK.out] at h5
      have HPUT := Lib.hid h5
      have HB5 := Lib.hid hb5'
      have HZ5 : Hid (W1.heap.size ≤ w5.heap.size) := Lib.hid (Nat.le_trans HSZ1.out hd5.size)
      clear hput h5 hb5 hb5' hd5 ho5
      dsimp only
      refine hK _ _ (fun _ => S5) ?_
      clear K hK
      try simp only [Act.put, List.setIfInBounds_toArray, List.set_cons_zero, List.set_cons_succ]
      refine L_one' (i := 7) rfl (by kernel_rfl) fun K hK => ?_
      go_simp
      refine hK _ _ (fun _ => S5) ?_
      clear K hK
      try simp only [Act.put, List.setIfInBounds_toArray, List.set_cons_zero, List.set_cons_succ]
      refine L_one' (i := 8) rfl (by kernel_rfl) fun K hK => ?_
      go_simp
      refine hK _ _ (fun h => absurd rfl h) ?_
      clear K hK
      try simp only [Act.put, List.setIfInBounds_toArray, List.set_cons_zero, List.set_cons_succ]
      refine L_done (by kernel_rfl) ?_ _
      go_wp2_with fail
      go_roundw
      case rel => exact ⟨k + 1, HLT.out, by first | rfl | go_num, HB5.out.setCell (p := ⟨w.heap.size, k, none⟩) (Nat.le_refl _) _, by simpa using HZ5.out, HPUT.out⟩
      case measure => have := HLT.out; simp only [intOf]; omega
    · obtain rfl : k = n := by omega
      rw [fill_all HRL.out] at how
      have HF := Lib.hid how
      clear how
      go_wp2_with fail
      go_ret
      exact ⟨_, rfl, HF.out, HBW.out⟩
set_option maxHeartbeats 4000000 in
set_option maxRecDepth 100000 in
theorem error_any (lo hi : List Int) (u v : Value) (w : World) (hu : IntsAt w u lo) (hv : IntsAt w v hi) (hl : lo.length ≤ maxLen) (hh : hi.length ≤ maxLen) :
    Calls Try.prog 16 #[.agg #[u, v]] w fun e w' => ∃ r, e = .returned r ∧ OwnN w' w.heap.size r (if mayB lo hi = true then errL (spansL lo hi) else []) ∧ Below w.heap.size w w' := by
  obtain ⟨W0, hW0⟩ : ∃ W0, W0 = w.alloc (.cells #[u, v] 25) := ⟨_, rfl⟩
  have hb0 : Below w.heap.size w W0 := by rw [hW0]; exact fresh_alloc _ _
  have hz : W0.heap[w.heap.size]? = some (.cells #[u, v] 25) := by rw [hW0]; exact heap_last _ _
  have d0 : W0.cell? ⟨w.heap.size, 0, none⟩ = some u := by rw [Lib.cell_of_heap hz]; rfl
  have d1 : W0.cell? ⟨w.heap.size, 1, none⟩ = some v := by rw [Lib.cell_of_heap hz]; rfl
  have hs0 : W0.heap.size = w.heap.size + 1 := by rw [hW0]; simp
  have C1 := Lib.hid (spansOf_any lo hi u v W0 (hu.below hb0) (hv.below hb0) hl hh)
  have HB0 := Lib.hid hb0
  have HS0 := Lib.hid hs0
  obtain ⟨T, hT⟩ : ∃ T : List Sp, T = if mayB lo hi = true then spansL lo hi else [] := ⟨_, rfl⟩
  have hfin : (if mayB lo hi = true then errL (spansL lo hi) else []) = errL T := by
    rw [hT]; split <;> rfl
  have hTo : ∀ s ∈ T, OkS s := by
    rw [hT]
    intro s hs
    split at hs
    · rename_i h; exact ok_of h s hs
    · cases hs
  have hT64 : T.length ≤ 64 := by
    rw [hT]
    split
    · rename_i h
      obtain ⟨h1, h2, h3, _⟩ := may_of h
      rw [spans_len h3]; exact (parts_of h1).2.1
    · simp
  have HTM : Hid (∀ W r, (mayB lo hi = true → OwnS W W0.heap.size r (spansL lo hi)) → (mayB lo hi = false → r = .slice none 0 0) → OwnS W W0.heap.size r T) := Lib.hid (fun W r h1 h2 => by
    rw [hT]
    cases hm : mayB lo hi with
    | true => exact h1 hm
    | false => rw [h2 hm]; exact own_none _ _)
  obtain ⟨R, hR⟩ : ∃ R, R = errL T := ⟨_, rfl⟩
  rw [hfin, ← hR]
  have HRE := Lib.hid hR
  have HTO := Lib.hid hTo
  have HT64 := Lib.hid hT64
  obtain ⟨p1, c1, e1⟩ := hu.form
  obtain ⟨p2, c2, e2⟩ := hv.form
  subst e1; subst e2
  clear hz hu hv hl hh hs0 hb0 hT hfin hTo hR
  generalize mayB lo hi = M at *
  go_enter Try.func16, Try.ntmps16
  go_upto_region 1 with fail
  rw [← hW0]
  clear hW0
  go_wp2_with fail
  refine C1.out.mono ?_
  rintro e w1 ⟨⟨r, rfl, h1, h2⟩, hb1⟩
  have ho := HTM.out w1 r h1 h2
  obtain ⟨p, c, rfl, hc⟩ := spans_row (own_row flatS ho)
  have hR := HRE.out
  have hat : ∀ k, k < T.length → ∃ (s : Sp), OkS s ∧ R[k]? = some (stepI s) ∧ (∃ b off, p = some ⟨b, off, none⟩ ∧ b < w1.heap.size ∧
      ∀ wr, Below w1.heap.size w1 wr → wr.cell? ⟨b, off + k * 2, none⟩ = some (.int .i64 s.1) ∧ wr.cell? ⟨b, off + k * 2 + 1, none⟩ = some (.int .i64 s.2)) := fun k hk => by
    have hs : T[k]? = some T[k] := List.getElem?_eq_getElem hk
    exact ⟨T[k], HTO.out _ (List.getElem_mem _), by rw [hR]; simp [errL, hk], hc k _ hs⟩
  have HAT := Lib.hid hat
  have HRL : Hid (R.length = T.length) := Lib.hid (by rw [hR]; simp [errL])
  obtain ⟨o, hmk, hl0⟩ := make_ints T.length HT64.out w1 w1.heap.size (Nat.le_refl _)
  have HMK := Lib.hid hmk
  have HL0 := Lib.hid hl0
  have HB1 := Lib.hid (HB0.out.trans (hb1.mono HB0.out.size))
  have HBN : Hid (Below w1.heap.size w1 (w1.alloc o)) := Lib.hid (fresh_alloc _ _)
  clear C1 HTM HRE h1 h2 hb1 ho hc hat hmk hl0 hR HTO d0 d1
  generalize T.length = n at *
  go_wp2_with fail
  rw [HMK.out]
  go_wp2_with fail
  have HBL : Hid (w1.heap.size < (w1.alloc o).heap.size) := Lib.hid (by simp)
  generalize w1.alloc o = W1 at *
  clear HMK
  go_loopw [18] (fun i wr => ∃ k : Nat, k ≤ n ∧ i = .int .i64 k ∧ Below w1.heap.size w1 wr ∧ W1.heap.size ≤ wr.heap.size ∧ OwnN wr w1.heap.size (.slice (some ⟨w1.heap.size, 0, none⟩) n n) (R.take k ++ List.replicate (n - k) 0)) (fun i _ => n - (intOf i).toNat)
  case atStart => exact ⟨0, Nat.zero_le _, rfl, HBN.out, Nat.le_refl _, by simpa using HL0.out⟩
  case round =>
    obtain ⟨k, hk, rfl, hbw, hsz, how⟩ := hrel
    obtain ⟨wo, rfl⟩ : ∃ wo : World, wo = wr := ⟨_, rfl⟩
    have HBW := Lib.hid hbw
    have HSZ := Lib.hid hsz
    have HOW := Lib.hid how
    by_cases hlt : k < n
    · obtain ⟨s, hok, hRk, b, off, rfl, hbs, hcells⟩ := HAT.out k hlt
      obtain ⟨y1, y2⟩ := hcells wo hbw
      have HRK := Lib.hid hRk
      have HC := Lib.hid (fun W => step_any s W hok)
      have HKN := Lib.hid hk
      obtain ⟨lo, hi⟩ := s
      simp only at y1 y2
      have hz0 : w1.heap.size < wo.heap.size := Nat.lt_of_lt_of_le HBL.out hsz
      have HSS := Lib.hid hz0
      clear hcells hRk hok hbw hsz how hz0 hbs
      go_wp2_with fail
      refine (HC.out _).mono ?_
      rintro e w5 ⟨rfl, hb5⟩
      have hd5 := (fresh_alloc wo (.cells #[.int .i64 lo, .int .i64 hi] 72)).trans (hb5.mono (by simp))
      have ho5 := own_below HOW.out hd5
      have hb5' := HBW.out.trans (hd5.mono HBW.out.size)
      obtain ⟨⟨y, p0, f0⟩, hput⟩ := put_int ho5 k (by rw [fill_len HKN.out HRL.out]; exact hlt)
      have h5 := hput (stepI (lo, hi))
      rw [fill_set hlt HRL.out HRK.out] at h5
      have HPUT := Lib.hid h5
      have HB5 := Lib.hid hb5'
      have HZ5 : Hid (W1.heap.size ≤ w5.heap.size) := Lib.hid (Nat.le_trans HSZ.out hd5.size)
      clear hput h5 hb5 hb5' hd5 ho5
      go_wp2_with fail
      go_roundw
      case rel => exact ⟨k + 1, by omega, by first | rfl | go_num, HB5.out.setCell (p := ⟨w1.heap.size, k, none⟩) (Nat.le_refl _) _, by simpa using HZ5.out, HPUT.out⟩
      case measure => simp only [intOf]; omega
    · obtain rfl : k = n := by omega
      rw [fill_all HRL.out] at how
      have HF := Lib.hid how
      clear how
      go_wp2_with fail
      go_ret
      exact ⟨_, rfl, own_le HF.out (Nat.le_trans (by have := HS0.out; omega) HB1.out.size), HB1.out.trans (HBW.out.mono HB1.out.size)⟩
end Sc
end Go.Proofs.Ytfgmkdghpdpdkaa
