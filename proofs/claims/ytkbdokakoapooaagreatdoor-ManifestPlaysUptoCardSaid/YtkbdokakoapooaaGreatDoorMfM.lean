/- The document's May of a manifest. Conditions: those that each theorem names. -/
import Derived.Test.YtkbdokakoapooaaGreatDoorMfO
namespace Go.Proofs.YtkbdokakoapooaaGreatDoor
set_option linter.unusedVariables false
open Go Go.RowKit Go.Shelf Go.Sort
namespace Mf
/-- The j-th segment's name may stand behind those ahead of it. -/
def segOk (nx : Int) (l : ByteArray) (A : List ByteArray) (j : Nat) : Prop := ∀ x, A[j]? = some x → isNm nx (bl x) = true ∧ bl x ≠ bl l ∧ ∀ k, k < j → ∀ y, A[k]? = some y → bl y ≠ bl x
theorem segs_good {nx : Int} {l : ByteArray} {A : List ByteArray} (h : ∀ j, j < A.length → segOk nx l A j) : (A.all (fun s => isNm nx (bl s)) && decide (bl l ∉ A.map bl ∧ (A.map bl).Nodup)) = true := by
  rw [Bool.and_eq_true, decide_eq_true_eq, List.all_eq_true]
  refine ⟨fun x hx => ?_, fun hm => ?_, ?_⟩
  · obtain ⟨j, hj, e⟩ := List.getElem_of_mem hx
    exact (h j hj x (by rw [List.getElem?_eq_getElem hj, e])).1
  · obtain ⟨x, hx, e⟩ := List.mem_map.1 hm
    obtain ⟨j, hj, e2⟩ := List.getElem_of_mem hx
    exact (h j hj x (by rw [List.getElem?_eq_getElem hj, e2])).2.1 e
  · rw [List.nodup_iff_pairwise_ne, List.pairwise_iff_getElem]
    intro i j hi hj hij
    rw [List.length_map] at hi hj
    rw [List.getElem_map, List.getElem_map]
    exact (h j hj A[j] (List.getElem?_eq_getElem hj)).2.2 i hij A[i] (List.getElem?_eq_getElem hi)
theorem segs_bad {nx : Int} {l : ByteArray} {A : List ByteArray} {j : Nat} {x : ByteArray} (hx : A[j]? = some x) (h : isNm nx (bl x) = false ∨ bl x = bl l ∨ ∃ k y, k < j ∧ A[k]? = some y ∧ bl y = bl x) : (A.all (fun s => isNm nx (bl s)) && decide (bl l ∉ A.map bl ∧ (A.map bl).Nodup)) = false := by
  rw [← Bool.not_eq_true, Bool.and_eq_true, decide_eq_true_eq, List.all_eq_true]
  rintro ⟨h1, h2, h3⟩
  rcases h with h | h | ⟨k, y, hk, hy, e⟩
  · rw [h1 x (List.mem_of_getElem? hx)] at h; cases h
  · exact h2 (List.mem_map.2 ⟨x, List.mem_of_getElem? hx, h⟩)
  · rw [List.nodup_iff_pairwise_ne, List.pairwise_iff_getElem] at h3
    obtain ⟨a1, a2⟩ := List.getElem?_eq_some_iff.1 hy
    obtain ⟨b1, b2⟩ := List.getElem?_eq_some_iff.1 hx
    have := h3 k j (by rw [List.length_map]; exact a1) (by rw [List.length_map]; exact b1) hk
    rw [List.getElem_map, List.getElem_map, a2, b2] at this
    exact this e
set_option maxHeartbeats 4000000 in
set_option maxRecDepth 100000 in
theorem rmay_any (m : Mn) (v : Value) (w : World) (hv : MnAt w v m) (hm : Small m) :
    Calls Tryz.prog 80 #[v] w fun e w' => e = .returned (.bool (may m)) ∧ Below w.heap.size w w' := by
  obtain ⟨p, c, rfl, ht⟩ := hv
  obtain ⟨A, l, nx, sq⟩ := m
  obtain ⟨m1, m2, m3, m4, m5, m6, m7⟩ := hm
  dsimp only at *
  obtain ⟨R, hR⟩ : ∃ R, R = may ⟨A, l, nx, sq⟩ := ⟨_, rfl⟩
  rw [← hR]
  unfold may at hR
  dsimp only at hR
  have HR := Lib.hid hR
  have HT := Lib.hid ht
  have HM3 := Lib.hid m3
  have CL := Lib.hid (fun W => rname_any l nx W m2)
  have CN := Lib.hid (fun s W (h : s.size ≤ 16777215) => rname_any s nx W h)
  obtain ⟨n, hn⟩ : ∃ n, n = A.length := ⟨_, rfl⟩
  rw [← hn] at HT ⊢
  have HN := Lib.hid hn
  clear hR ht m1 m2 m3 m4 m6 m7 hn
  obtain ⟨d0, d1, d2, d3⟩ := cells4 w (.slice p n c) (.string l) (.int .i64 nx) (.int .i64 sq) 61
  have HB := Lib.hid (below_new w (.cells #[.slice p n c, .string l, .int .i64 nx, .int .i64 sq] 61))
  have hz0 := heap_new w (.cells #[.slice p n c, .string l, .int .i64 nx, .int .i64 sq] 61)
  have HW : Hid (∀ W : World, Below (w.heap.size + 1) (w.alloc (.cells #[.slice p n c, .string l, .int .i64 nx, .int .i64 sq] 61)) W → W.heap[w.heap.size]? = some (.cells #[.slice p n c, .string l, .int .i64 nx, .int .i64 sq] 61 (0, 0))) := Lib.hid (fun W hW => (hW.block _ (by omega)).trans hz0)
  clear hz0
  go_enter Tryz.func80, Tryz.ntmps80
  by_cases q1 : nx < 1
  · have HX : Hid (R = false) := Lib.hid (by rw [HR.out, decide_eq_false (show ¬ 1 ≤ nx by omega)]; rfl)
    go_wp2_with fail
    go_ret
    rw [HX.out]; exact ⟨rfl, HB.out⟩
  by_cases q2 : 4503599627370496 < nx
  · have HX : Hid (R = false) := Lib.hid (by rw [HR.out, decide_eq_false (show ¬ nx ≤ 4503599627370496 by omega)]; simp)
    go_wp2_with fail
    go_ret
    rw [HX.out]; exact ⟨rfl, HB.out⟩
  by_cases q3 : sq < 0
  · have HX : Hid (R = false) := Lib.hid (by rw [HR.out, decide_eq_false (show ¬ 0 ≤ sq by omega)]; simp)
    go_wp2_with fail
    go_ret
    rw [HX.out]; exact ⟨rfl, HB.out⟩
  by_cases q4 : 4503599627370496 < sq
  · have HX : Hid (R = false) := Lib.hid (by rw [HR.out, decide_eq_false (show ¬ sq ≤ 4503599627370496 by omega)]; simp)
    go_wp2_with fail
    go_ret
    rw [HX.out]; exact ⟨rfl, HB.out⟩
  by_cases q5 : (1024 : Int) < (n : Int)
  · have HX : Hid (R = false) := Lib.hid (by rw [HR.out, decide_eq_false (show ¬ A.length ≤ 1024 by have := HN.out; omega)]; simp)
    go_wp2_with fail
    go_ret
    rw [HX.out]; exact ⟨rfl, HB.out⟩
  have HR2 : Hid (R = (isNm nx (bl l) && (A.all (fun s => isNm nx (bl s)) && decide (bl l ∉ A.map bl ∧ (A.map bl).Nodup)))) := Lib.hid (by
    rw [HR.out, decide_eq_true (show 1 ≤ nx by omega), decide_eq_true (show nx ≤ 4503599627370496 by omega), decide_eq_true (show 0 ≤ sq by omega), decide_eq_true (show sq ≤ 4503599627370496 by omega), decide_eq_true (show A.length ≤ 1024 by have := HN.out; omega)]
    rfl)
  clear HR
  cases hnl : isNm nx (bl l) with
  | false =>
    rw [hnl] at CL HR2
    have HX : Hid (R = false) := Lib.hid (by rw [HR2.out]; rfl)
    clear hnl
    go_wp2_with (first | (go_at_call 114; refine (CL.out _).mono ?_; rintro e w1 ⟨rfl, rfl⟩))
    go_ret
    rw [HX.out]; exact ⟨rfl, HB.out⟩
  | true =>
    rw [hnl] at CL HR2
    have HR3 : Hid (R = (A.all (fun s => isNm nx (bl s)) && decide (bl l ∉ A.map bl ∧ (A.map bl).Nodup))) := Lib.hid (by rw [HR2.out]; rfl)
    clear hnl HR2
    go_wp2_with (first | (go_at_call 114; refine (CL.out _).mono ?_; rintro e w1 ⟨rfl, rfl⟩))
    generalize w.alloc (.cells #[.slice p n c, .string l, .int .i64 nx, .int .i64 sq] 61) = W0 at *
    clear d0 d1 d2 d3 CL
    go_loopw [3] (fun i wr => ∃ k : Nat, k ≤ n ∧ i = .int .i64 k ∧ Hid (∀ j, j < k → segOk nx l A j) ∧ Below (w.heap.size + 1) W0 wr) (fun i _ => n - (intOf i).toNat)
    case atStart => exact ⟨0, Nat.zero_le _, rfl, Lib.hid (fun j hj => by omega), Below.refl _ _⟩
    case round =>
      obtain ⟨i, hk, rfl, HA, hb2⟩ := hrel
      have HB2 := Lib.hid hb2
      have HBF : Hid (Below w.heap.size w wr) := Lib.hid (HB.out.trans (hb2.mono (by omega)))
      obtain ⟨d0, d1, d2, d3⟩ := of_cells4 (HW.out wr hb2)
      clear hb2
      obtain ⟨wo, rfl⟩ : ∃ wo : World, wo = wr := ⟨_, rfl⟩
      by_cases hlt : i < n
      · have hla : i < A.length := by rw [← HN.out]; exact hlt
        obtain ⟨g, off, rfl, hc⟩ := txs_cell HT.out hla
        have ca := hc wo HBF.out
        have hx : A[i]? = some A[i] := List.getElem?_eq_getElem hla
        have hxs := HM3.out A[i] (List.getElem_mem hla)
        generalize A[i] = x at ca hx hxs
        have HX := Lib.hid hx
        have C1 := Lib.hid (fun W => CN.out x W hxs)
        have hxl := str_eq x l
        clear hc hla hx hxs
        cases hnm : isNm nx (bl x) with
        | false =>
          rw [hnm] at C1
          have HV : Hid (R = false) := Lib.hid (by rw [HR3.out]; exact segs_bad HX.out (.inl hnm))
          clear hnm hxl
          go_wp2_with fail
          go_quiet (first | (go_at_call 114; refine Calls.quiet_of_same (C1.out _)))
          go_wp2_with fail
          go_ret
          rw [HV.out]; exact ⟨rfl, below_q HBF.out _⟩
        | true =>
          rw [hnm] at C1
          by_cases hl : bl x = bl l
          · rw [decide_eq_true hl] at hxl
            have HV : Hid (R = false) := Lib.hid (by rw [HR3.out]; exact segs_bad HX.out (.inr (.inl hl)))
            clear hnm hl
            go_wp2_with fail
            go_quiet (first | (go_at_call 114; refine Calls.quiet_of_same (C1.out _)))
            go_wp2_with fail
            go_ret
            rw [HV.out]; exact ⟨rfl, below_q HBF.out _⟩
          · rw [decide_eq_false hl] at hxl
            have HNL := Lib.hid hl
            have HNM := Lib.hid hnm
            clear hl hnm
            go_wp2_with fail
            go_quiet (first | (go_at_call 114; refine Calls.quiet_of_same (C1.out _)))
            go_wp2_with fail
            clear d0 d1 d2 d3 ca hxl C1
            go_loopw [4] (fun z wr => ∃ j : Nat, j ≤ i ∧ z = .int .i64 j ∧ Hid (∀ k, k < j → ∀ y, A[k]? = some y → bl y ≠ bl x) ∧ Below (w.heap.size + 1) W0 wr) (fun z _ => i - (intOf z).toNat)
            case atStart => exact ⟨0, Nat.zero_le _, rfl, Lib.hid (fun k hk => by omega), below_q HB2.out _⟩
            case round =>
              obtain ⟨j, hj, rfl, HJ, hb3⟩ := hrel
              have HB3 := Lib.hid hb3
              have HBG : Hid (Below w.heap.size w wr) := Lib.hid (HB.out.trans (hb3.mono (by omega)))
              obtain ⟨d0, d1, d2, d3⟩ := of_cells4 (HW.out wr hb3)
              clear hb3
              obtain ⟨wq, rfl⟩ : ∃ wq : World, wq = wr := ⟨_, rfl⟩
              by_cases hlt2 : j < i
              · have hla : j < A.length := by rw [← HN.out]; omega
                have hlb : i < A.length := by rw [← HN.out]; omega
                obtain ⟨g1, off1, e1, hc1⟩ := txs_cell HT.out hla
                obtain ⟨g2, off2, e2, hc2⟩ := txs_cell HT.out hlb
                injection e1 with e1
                injection e1 with e1 e1'
                injection e2 with e2
                injection e2 with e2 e2'
                subst e1; subst e1'; subst e2; subst e2'
                have ca := hc1 wq HBG.out
                have cb := hc2 wq HBG.out
                have hy : A[j]? = some A[j] := List.getElem?_eq_getElem hla
                have hxi : A[i] = x := by
                  have h1 := HX.out
                  rw [List.getElem?_eq_getElem hlb] at h1
                  injection h1
                rw [hxi] at cb
                generalize A[j] = y at ca hy
                have HY := Lib.hid hy
                have hyx := str_eq y x
                have hjn : (j : Int) < (n : Int) := by omega
                clear hc1 hc2 hla hlb hy hxi
                by_cases q : bl y = bl x
                · rw [decide_eq_true q] at hyx
                  have HV : Hid (R = false) := Lib.hid (by rw [HR3.out]; exact segs_bad HX.out (.inr (.inr ⟨j, y, hlt2, HY.out, q⟩)))
                  clear q
                  go_wp2_with fail
                  go_quiet (fail)
                  go_wp2_with fail
                  go_ret
                  rw [HV.out]; exact ⟨rfl, below_q HBG.out _⟩
                · rw [decide_eq_false q] at hyx
                  have HJN : Hid (∀ k, k < j + 1 → ∀ y, A[k]? = some y → bl y ≠ bl x) := Lib.hid (fun k hk y' hy' => by
                    rcases Nat.lt_or_ge k j with c | c
                    · exact HJ.out k c y' hy'
                    · have : k = j := by omega
                      subst this
                      have := HY.out.symm.trans hy'
                      injection this with this
                      rw [← this]; exact q)
                  clear q
                  go_wp2_with fail
                  go_quiet (fail)
                  go_wp2_with fail
                  go_roundw
                  case rel => exact ⟨j + 1, by omega, congrArg _ (show (j : Int) + 1 = ((j + 1 : Nat) : Int) by omega), HJN, below_q HB3.out _⟩
                  case measure =>
                    simp only [intOf]; omega
              · obtain rfl : j = i := by omega
                have HAN : Hid (∀ k, k < j + 1 → segOk nx l A k) := Lib.hid (fun k hk => by
                  rcases Nat.lt_or_ge k j with c | c
                  · exact HA.out k c
                  · have : k = j := by omega
                    subst this
                    intro x' hx'
                    have := HX.out.symm.trans hx'
                    injection this with this
                    subst this
                    exact ⟨HNM.out, HNL.out, fun k hk y hy => HJ.out k hk y hy⟩)
                go_wp2_with fail
                go_roundw
                case rel => exact ⟨j + 1, by omega, congrArg _ (show (j : Int) + 1 = ((j + 1 : Nat) : Int) by omega), HAN, HB3.out⟩
                case measure =>
                  simp only [intOf]; omega
      · obtain rfl : i = n := by omega
        have HV : Hid (R = true) := Lib.hid (by
          rw [HR3.out]
          exact segs_good (fun j hj => HA.out j (by rw [HN.out]; exact hj)))
        go_wp2_with fail
        go_ret
        rw [HV.out]; exact ⟨rfl, HBF.out⟩
end Mf
end Go.Proofs.YtkbdokakoapooaaGreatDoor
