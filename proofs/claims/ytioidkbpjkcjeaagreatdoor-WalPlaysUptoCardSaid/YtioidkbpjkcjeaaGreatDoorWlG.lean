/- The examples of a log's records are as they should be. Conditions: those that each theorem names. -/
import Derived.Test.YtioidkbpjkcjeaaGreatDoorWlE
namespace Go.Proofs.YtioidkbpjkcjeaaGreatDoor
set_option linter.unusedVariables false
open Go Go.RowKit Wl
def abL : List UInt8 := [97, 98]
theorem abL_tx : tx abL = ⟨#[97, 98]⟩ := rfl
theorem awake_scan : scan 0 (frameL 1 abL ++ (frameL 1 abL).take 3) = ⟨[(1, abL)], 22, 91⟩ := by
  have h1 := one_frame 1 abL ((frameL 1 abL).take 3) (by decide) (by decide) (by decide)
  have hl : ((frameL 1 abL).take 3).length = 3 := by rw [List.length_take, frameL_len]; rfl
  have hne : (frameL 1 abL).take 3 ≠ [] := by intro e; rw [e] at hl; cases hl
  rw [scan_next (frame_ne _ _ _) h1 (by simp), frame_drop, scan_torn hne (one_short (by omega))]
  rfl
theorem row_one (w : World) (x : Rc) : RcsAt (w.alloc (robj x)) (.slice (some ⟨w.heap.size, 0, none⟩) 1 1) [x] := by
  refine .inr ⟨w.heap.size, 0, 1, rfl, by simp, fun W hW j hj => ?_⟩
  obtain rfl : j = 0 := by simpa using hj
  exact robj_cells (x := x) (hW.trans (heap_alloc_new w (robj x)))
theorem RcsAt.old {w : World} {v : Value} {L : List Rc} (h : RcsAt w v L) (o : Obj) : RcsAt (w.alloc o) v L := h.below (below_new w o)
set_option maxHeartbeats 4000000 in
set_option maxRecDepth 100000 in
theorem awake_yes (w : World) : Calls Tryz.prog 5 #[] w fun e w' => e = .returned (.bool true) ∧ Below w.heap.size w w' := by
  have C1 : Hid (∀ W, Calls Tryz.prog 12 #[.agg #[.int .i64 1, .string ⟨#[97, 98]⟩]] W fun e w' => e = .returned (.tuple #[.string (frB 1 ⟨#[97, 98]⟩), .int .i64 0]) ∧ Below W.heap.size W w') := Lib.hid (fun W => frame_yes 1 ⟨#[97, 98]⟩ W (by decide) (by decide) (by decide))
  have hz : (frB 1 ⟨#[97, 98]⟩).size = 22 := frB_size _ _
  have hl : (frB 1 ⟨#[97, 98]⟩ ++ (frB 1 ⟨#[97, 98]⟩).extract 0 3).data.toList = frameL 1 abL ++ (frameL 1 abL).take 3 := by
    rw [app_list, ext_any]
    have : (frB 1 ⟨#[97, 98]⟩).data.toList = frameL 1 abL := by unfold frB; rw [tx_list]; rfl
    rw [this]; simp
  have C2 := Lib.hid (fun W => scan_any (frB 1 ⟨#[97, 98]⟩ ++ (frB 1 ⟨#[97, 98]⟩).extract 0 3) W (by rw [ByteArray.size_append, ByteArray.size_extract]; omega))
  rw [hl] at C2
  generalize frB 1 ⟨#[97, 98]⟩ = s at *
  have h22 : (s.size : Int) = 22 := by omega
  have h3 : (3 : Int) ≤ (s.size : Int) := by omega
  have h22' : ((s.size : Int) != 22) = false := by simp [h22]
  have m1 : s.size + (s.extract 0 3).size ≤ 9223372036854775807 := by rw [ByteArray.size_extract]; omega
  clear hz hl
  go_enter Tryz.func5, Tryz.ntmps5
  go_wp2_with fail
  refine (C1.out _).mono ?_
  rintro e w1 ⟨rfl, hb1⟩
  have HB1 := Lib.hid hb1
  clear hb1
  go_wp2_with fail
  refine (C2.out _).mono ?_
  rintro e w2 ⟨v, rfl, ho, hb2⟩
  rw [awake_scan] at ho ⊢
  have HO := Lib.hid (own_rcs ho)
  have HB2 := Lib.hid (HB1.out.trans (hb2.mono HB1.out.size))
  obtain ⟨p, c, rfl⟩ := (own_rcs ho).form
  have CS := Lib.hid (fun (W : World) (h1 : RcsAt W (.slice p [((1 : Nat), abL)].length c) [(1, abL)]) (u : Value) (h2 : RcsAt W u [(1, abL)]) => (by have hx := rsame_any [(1, abL)] [(1, abL)] (.slice p [((1 : Nat), abL)].length c) u W h1 h2 (by decide); rw [decide_eq_true rfl] at hx; exact hx : Calls Tryz.prog 14 #[.slice p [((1 : Nat), abL)].length c, u] W fun e w' => e = .returned (.bool true) ∧ Below W.heap.size W w'))
  have HR := Lib.hid (row_one w2 (1, abL))
  have HO2 := Lib.hid (HO.out.old (robj (1, abL)))
  have HB3 := Lib.hid (HB2.out.alloc HB2.out.size (robj (1, abL)))
  clear ho hb2 C1 C2
  go_wp2_with fail
  refine (CS.out _ HO2.out _ HR.out).mono ?_
  rintro e w3 ⟨rfl, hb3⟩
  have HB4 := Lib.hid (HB3.out.trans (hb3.mono HB3.out.size))
  clear hb3 CS
  go_wp2_with fail
  go_ret
  exact ⟨rfl, HB4.out⟩
end Go.Proofs.YtioidkbpjkcjeaaGreatDoor
