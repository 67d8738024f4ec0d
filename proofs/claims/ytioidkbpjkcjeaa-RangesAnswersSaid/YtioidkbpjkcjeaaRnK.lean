/- The document's Ints; the chapter's example. Conditions: those that each theorem names. -/
import Derived.Test.YtioidkbpjkcjeaaRnJ
import Derived.Test.YtioidkbpjkcjeaaIdD
namespace Go.Proofs.Ytioidkbpjkcjeaa
set_option linter.unusedVariables false
open Go Go.RowKit Go.Shelf Go.Sort Ids
namespace Rn
set_option maxHeartbeats 1000000 in
theorem ints_any (a b : List Int) (u v : Value) (w : World) (hu : IntsAt w u a) (hv : IntsAt w v b) (ha : a.length ≤ maxLen) (hb : b.length ≤ maxLen) :
    Calls Try.prog 14 #[u, v] w fun e w' => e = .returned (.bool (eqB a b)) ∧ Below w.heap.size w w' := by
  unfold eqB
  by_cases hl : a.length = b.length
  · rcases hu with ⟨rfl, q, c, rfl⟩ | ⟨b1, o1, c1, rfl, hb1, hc1⟩
    · obtain rfl : b = [] := by cases b with | nil => rfl | cons _ _ => simp at hl
      obtain ⟨p2, c2, rfl⟩ := hv.form
      clear hv
      go_enter Try.func14, Try.ntmps14
      go_wp2
      go_loop [5] (fun i => i = .int .i64 0) (fun _ => 0)
      case atStart => rfl
      case round =>
        subst hrel
        go_wp2
        go_ret
        exact ⟨rfl, Below.refl _ _⟩
    · rcases hv with ⟨rfl, q, c, rfl⟩ | ⟨b2, o2, c2, rfl, hb2, hc2⟩
      · obtain rfl : a = [] := by cases a with | nil => rfl | cons _ _ => simp at hl
        go_enter Try.func14, Try.ntmps14
        go_wp2
        go_loop [5] (fun i => i = .int .i64 0) (fun _ => 0)
        case atStart => rfl
        case round =>
          subst hrel
          go_wp2
          go_ret
          exact ⟨rfl, Below.refl _ _⟩
      · have H1 := Lib.hid hc1
        have H2 := Lib.hid hc2
        have HL := Lib.hid hl
        have HS := Lib.hid ha
        clear hc1 hc2 ha hb
        rw [← hl]
        clear hl
        go_enter Try.func14, Try.ntmps14
        go_wp2
        go_loopw [5] (fun i wr => ∃ k : Nat, k ≤ a.length ∧ i = .int .i64 k ∧ Hid (a.take k = b.take k) ∧ Qt w wr) (fun i _ => a.length - (intOf i).toNat)
        case atStart => exact ⟨0, Nat.zero_le _, rfl, Lib.hid rfl, Qt.refl _⟩
        case round =>
          obtain ⟨k, hk, rfl, HT, hq⟩ := hrel
          have HQ := Lib.hid hq
          clear hq
          obtain ⟨wo, rfl⟩ : ∃ wo : World, wo = wr := ⟨_, rfl⟩
          by_cases hlt : k < a.length
          · have hlt2 : k < b.length := HL.out ▸ hlt
            have g1 := H1.out wo (HQ.out.block _) k hlt
            have g2 := H2.out wo (HQ.out.block _) k hlt2
            have hta : a.take (k + 1) = a.take k ++ [a[k]] := by rw [List.take_add_one, List.getElem?_eq_getElem hlt]; rfl
            have htb : b.take (k + 1) = b.take k ++ [b[k]] := by rw [List.take_add_one, List.getElem?_eq_getElem hlt2]; rfl
            have hne : a[k] ≠ b[k] → a ≠ b := fun h e => by subst e; exact h rfl
            have HNE := Lib.hid hne
            have HTA := Lib.hid hta
            have HTB := Lib.hid htb
            clear hta htb hne
            generalize a[k] = x at *
            generalize b[k] = y at *
            by_cases hxy : x = y
            · subst hxy
              go_wp2
              go_quiet (fail)
              go_wp2
              go_roundw
              case rel => exact ⟨k + 1, by omega, congrArg _ (wrap_s HS.out hlt), Lib.hid (by rw [HTA.out, HTB.out, HT.out]), HQ.out.drewN _⟩
              case measure =>
                rw [wrap_s HS.out hlt]
                exact int_less hlt
            · have hf : decide (a = b) = false := by simp [HNE.out hxy]
              have HF := Lib.hid hf
              clear hf
              go_wp2
              go_quiet (fail)
              go_wp2
              go_ret
              exact ⟨by rw [HF.out]; rfl, (HQ.out.drewN _).2⟩
          · obtain rfl : k = a.length := by omega
            have hf : decide (a = b) = true := by
              have h := HT.out
              rw [List.take_length, HL.out, List.take_length] at h
              simp [h]
            have HF := Lib.hid hf
            clear hf
            go_wp2
            go_ret
            exact ⟨by rw [HF.out]; rfl, HQ.out.2⟩
  · obtain ⟨p1, c1, rfl⟩ := hu.form
    obtain ⟨p2, c2, rfl⟩ := hv.form
    have hf : decide (a = b) = false := by simp; rintro rfl; exact hl rfl
    rw [hf]
    have hl' : ((a.length : Int) == (b.length : Int)) = false := by simp; omega
    clear hu hv hf
    generalize a.length = n at *
    generalize b.length = m at *
    go_enter Try.func14, Try.ntmps14
    go_wp2_with fail
    go_ret
    exact ⟨rfl, Below.refl _ _⟩
/-! ### The chapter's example -/
def exE : List En := [(5, 1), (3, 2), (5, 1), (7, 2)]
abbrev exO : Obj := .cells #[.int .i64 5, .int .i64 1, .int .i64 3, .int .i64 2, .int .i64 5, .int .i64 1, .int .i64 7, .int .i64 2] 24
theorem ex_at (w : World) : HsAt (w.alloc exO) (.slice (some ⟨w.heap.size, 0, none⟩) 4 4) exE := by
  refine .inr ⟨w.heap.size, 0, 4, rfl, by simp, fun W hW j hj => ?_⟩
  have hh := hW.trans (heap_last w exO)
  have hj4 : j < 4 := hj
  rw [Lib.cell_of_heap hh, Lib.cell_of_heap hh]
  rcases (by omega : j = 0 ∨ j = 1 ∨ j = 2 ∨ j = 3) with rfl | rfl | rfl | rfl <;> exact ⟨rfl, rfl⟩
theorem ex_can : can exE = [(3, 2), (5, 1), (7, 2)] := by decide +kernel
theorem ex_seg : seg 3 5 [(3, 2), (5, 1), (7, 2)] = [(3, 2), (5, 1)] := by decide +kernel
theorem ex_seg2 : (seg 5 9 [(3, 2), (5, 1), (7, 2)]).length = 2 := by decide +kernel
theorem ex_ids : idsE [(3, 2), (5, 1)] = [1, 2] := by decide +kernel
theorem ex_ok : ∀ e ∈ exE, okE e := by
  intro e he
  simp [exE] at he
  unfold okE
  rcases he with rfl | rfl | rfl | rfl <;> simp
theorem ex_good : Good [(3, 2), (5, 1), (7, 2)] := ex_can ▸ can_good ex_ok (by decide)
theorem new_two (w : World) (a b : Int) : IntsAt (w.alloc (.cells #[.int .i64 a, .int .i64 b] 3)) (.slice (some ⟨w.heap.size, 0, none⟩) 2 2) [a, b] := by
  refine .inr ⟨w.heap.size, 0, 2, rfl, by simp, fun W hW j hj => ?_⟩
  have hh := hW.trans (heap_last w _)
  have hj4 : j < 2 := hj
  rw [Lib.cell_of_heap hh]
  rcases (by omega : j = 0 ∨ j = 1) with rfl | rfl <;> rfl
set_option maxHeartbeats 2000000 in
set_option maxRecDepth 100000 in
theorem awake_yes (w : World) : Calls Try.prog 19 #[] w fun e w' => e = .returned (.bool true) ∧ Below w.heap.size w w' := by
  have HB := Lib.hid (build_any exE _ _ (ex_at w) (by decide))
  rw [ex_can] at HB
  have HW := Lib.hid (fresh_alloc w exO)
  obtain ⟨C, hC⟩ : ∃ C : List En, C = [(3, 2), (5, 1), (7, 2)] := ⟨_, rfl⟩
  rw [← hC] at HB
  have HLE := Lib.hid (fun (B K : Nat) (W : World) (h : IxO W B K C) => least_any W h)
  have HLN := Lib.hid (fun (B K : Nat) (W : World) (h : IxO W B K C) => len_any W h)
  have HBT := Lib.hid (fun (B K : Nat) (W : World) (h : IxO W B K C) => between_any 3 5 W h (hC ▸ ex_good))
  have HCT := Lib.hid (fun (B K : Nat) (W : World) (h : IxO W B K C) => count_any 5 9 W h (hC ▸ ex_good))
  have e1 : ((C.head?.map (fun x => x.1)).getD 0) = 3 ∧ (!C.isEmpty) = true ∧ C.length = 3 ∧ idsE (seg 3 5 C) = [1, 2] ∧ (seg 5 9 C).length = 2 := by
    subst hC
    exact ⟨rfl, rfl, rfl, by rw [ex_seg, ex_ids], ex_seg2⟩
  obtain ⟨e1, e2, e3, e4, e5⟩ := e1
  rw [e1, e2] at HLE
  rw [e3] at HLN
  rw [e4] at HBT
  rw [e5] at HCT
  have HI := Lib.hid (fun (u v : Value) (W : World) (hu : IntsAt W u [1, 2]) (hv : IntsAt W v [1, 2]) => ints_any [1, 2] [1, 2] u v W hu hv (by unfold maxLen; simp) (by unfold maxLen; simp))
  have e6 : eqB [1, 2] [1, 2] = true := eqB_same _
  rw [e6] at HI
  clear hC e1 e2 e3 e4 e5 e6
  go_enter Try.func19, Try.ntmps19
  go_wp2_with fail
  refine HB.out.mono ?_
  rintro e w1 ⟨K, rfl, hx, hb⟩
  obtain ⟨B0, hB0⟩ : ∃ B0, B0 = (w.alloc exO).heap.size := ⟨_, rfl⟩
  rw [← hB0] at hx hb
  have HX1 := Lib.hid hx
  have HB1 := Lib.hid (HW.out.trans (hb.mono (by rw [hB0]; exact HW.out.size)))
  clear hx hb hB0 HB
  go_wp2_with fail
  refine (HLE.out _ _ _ HX1.out).mono ?_
  rintro e w2 ⟨rfl, hg⟩
  have HX2 := Lib.hid (HX1.out.below hg.below)
  have HB2 := Lib.hid (HB1.out.trans (hg.below.mono HB1.out.size))
  clear hg HLE
  go_wp2_with fail
  refine (HLN.out _ _ _ HX2.out).mono ?_
  rintro e w3 ⟨rfl, hg⟩
  have HX3 := Lib.hid (HX2.out.below hg.below)
  have HB3 := Lib.hid (HB2.out.trans (hg.below.mono HB2.out.size))
  clear hg HLN
  go_wp2_with fail
  refine (HBT.out _ _ _ HX3.out).mono ?_
  rintro e w4 ⟨u, rfl, ho, hb⟩
  have HX4 := Lib.hid (HX3.out.below hb)
  have HB4 := Lib.hid (HB3.out.trans (hb.mono HB3.out.size))
  obtain ⟨p, c, rfl⟩ := (Own.at ho).form
  have HI4 := Lib.hid (HI.out _ _ _ ((Own.at ho).below (fresh_alloc w4 (.cells #[.int .i64 1, .int .i64 2] 3))) (new_two w4 1 2))
  clear ho hb HBT
  go_wp2_with fail
  refine HI4.out.mono ?_
  rintro e w5 ⟨rfl, hb⟩
  have hb5 := (fresh_alloc w4 (.cells #[.int .i64 1, .int .i64 2] 3)).trans (hb.mono (by simp))
  have HX5 := Lib.hid (HX4.out.below hb5)
  have HB5 := Lib.hid (HB4.out.trans (hb5.mono HB4.out.size))
  clear hb hb5 HI4
  go_wp2_with fail
  refine (HCT.out _ _ _ HX5.out).mono ?_
  rintro e w6 ⟨rfl, hg⟩
  have HB6 := Lib.hid (HB5.out.trans (hg.below.mono HB5.out.size))
  clear hg HCT
  go_wp2_with fail
  go_ret
  exact ⟨rfl, HB6.out⟩
end Rn
end Go.Proofs.Ytioidkbpjkcjeaa
