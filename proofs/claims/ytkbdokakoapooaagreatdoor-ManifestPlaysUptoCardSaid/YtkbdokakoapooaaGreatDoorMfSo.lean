/- manifest's call Store: its walks, and over a disk in memory. Conditions: those that each theorem names. -/
import Derived.Test.YtkbdokakoapooaaGreatDoorMfSt
namespace Go.Proofs.YtkbdokakoapooaaGreatDoor
set_option linter.unusedVariables false
open Go Go.RowKit Go.Shelf Go.Sort Dk
namespace Mf
def RemoveC (A : Nat) (w : World) (x : Int) (Q : World → Prop) : Prop :=
  Calls Tryz.prog 37 #[pD A, .string ⟨#[116, 109, 112]⟩] w fun e w' => e = .returned (.int .i64 x) ∧ Q w'
def SyncNamesC (A : Nat) (w : World) (x : Int) (Q : World → Prop) : Prop :=
  Calls Tryz.prog 39 #[pD A] w fun e w' => e = .returned (.int .i64 x) ∧ Q w'
set_option maxHeartbeats 1000000 in
set_option maxRecDepth 100000 in
theorem store_err {A : Nat} {w : World} {m : Mn} {v : Value} {s : ByteArray} {Q0 Q1 : World → Prop} (hv : MnAt w v m)
    (HE : ∀ W, Below w.heap.size w W → Calls Tryz.prog 33 #[v] W fun e w' => e = .returned (.tuple #[.string s, .int .i64 0]) ∧ Below W.heap.size W w')
    (HR : ∀ W, Below w.heap.size w W → RemoveC A W 20 Q0) (HP : ∀ W, Q0 W → PutC A s W 22 Q1) :
    Calls Tryz.prog 16 #[pD A, v] w fun e w' => e = .returned (.int .i64 22) ∧ Q1 w' := by
  obtain ⟨p, c, rfl, _⟩ := hv
  generalize m.segs.length = n at *
  have hb0 := below_new w (.cells #[.slice p n c, .string m.log, .int .i64 m.next, .int .i64 m.seq] 61)
  obtain ⟨d0, d1, d2, d3⟩ := of_cells4 (heap_new w (.cells #[.slice p n c, .string m.log, .int .i64 m.next, .int .i64 m.seq] 61))
  have HB0 := Lib.hid hb0
  clear hb0
  go_enter Tryz.func16, Tryz.ntmps16
  go_wp2_with fail
  generalize w.alloc (.cells #[.slice p n c, .string m.log, .int .i64 m.next, .int .i64 m.seq] 61) = W0 at *
  refine (HE W0 HB0.out).mono ?_
  rintro e w1 ⟨rfl, hb1⟩
  have HB1 := Lib.hid (below_then HB0.out hb1)
  clear hb1 d0 d1 d2 d3
  go_wp2_with fail
  refine (HR w1 HB1.out).mono ?_
  rintro e w2 ⟨rfl, h2⟩
  go_wp2_with fail
  refine (HP w2 h2).mono ?_
  rintro e w3 ⟨rfl, h3⟩
  go_wp2_with fail
  go_ret
  exact ⟨rfl, h3⟩
set_option maxHeartbeats 1000000 in
set_option maxRecDepth 100000 in
theorem store_fin {A : Nat} {w : World} {m : Mn} {v : Value} {s : ByteArray} {Q0 Q1 Q2 : World → Prop} (y : Int) (hv : MnAt w v m)
    (HE : ∀ W, Below w.heap.size w W → Calls Tryz.prog 33 #[v] W fun e w' => e = .returned (.tuple #[.string s, .int .i64 0]) ∧ Below W.heap.size W w')
    (HR : ∀ W, Below w.heap.size w W → RemoveC A W 20 Q0) (HP : ∀ W, Q0 W → PutC A s W 0 Q1) (HN : ∀ W, Q1 W → SyncNamesC A W y Q2) :
    Calls Tryz.prog 16 #[pD A, v] w fun e w' => e = .returned (.int .i64 y) ∧ Q2 w' := by
  obtain ⟨p, c, rfl, _⟩ := hv
  generalize m.segs.length = n at *
  have hb0 := below_new w (.cells #[.slice p n c, .string m.log, .int .i64 m.next, .int .i64 m.seq] 61)
  obtain ⟨d0, d1, d2, d3⟩ := of_cells4 (heap_new w (.cells #[.slice p n c, .string m.log, .int .i64 m.next, .int .i64 m.seq] 61))
  have HB0 := Lib.hid hb0
  clear hb0
  go_enter Tryz.func16, Tryz.ntmps16
  go_wp2_with fail
  generalize w.alloc (.cells #[.slice p n c, .string m.log, .int .i64 m.next, .int .i64 m.seq] 61) = W0 at *
  refine (HE W0 HB0.out).mono ?_
  rintro e w1 ⟨rfl, hb1⟩
  have HB1 := Lib.hid (below_then HB0.out hb1)
  clear hb1 d0 d1 d2 d3
  go_wp2_with fail
  refine (HR w1 HB1.out).mono ?_
  rintro e w2 ⟨rfl, h2⟩
  go_wp2_with fail
  refine (HP w2 h2).mono ?_
  rintro e w3 ⟨rfl, h3⟩
  go_wp2_with fail
  refine (HN w3 h3).mono ?_
  rintro e w4 ⟨rfl, h4⟩
  go_wp2_with fail
  go_ret
  exact ⟨rfl, h4⟩
/-- A manifest that may not be is not stored. -/
theorem store_bad {A : Nat} {w : World} {m : Mn} {v : Value} (hv : MnAt w v m) (hm : Small m) (hmay : may m = false) (G : Gh w) :
    Calls Tryz.prog 16 #[pD A, v] w fun e w' => e = .returned (.int .i64 110) ∧ Below w.heap.size w w' := by
  have HE := Lib.hid (fun W (hW : Below w.heap.size w W) => encode_any m v W (hv.below hW) hm (G.below hW))
  have h1 : encS m = ⟨#[]⟩ := by unfold encS; rw [hmay]; rfl
  have h2 : encE m = 110 := by unfold encE; rw [hmay]; rfl
  rw [h1, h2] at HE
  obtain ⟨p, c, rfl, _⟩ := hv
  clear h1 h2 hm hmay G
  generalize m.segs.length = n at *
  have hb0 := below_new w (.cells #[.slice p n c, .string m.log, .int .i64 m.next, .int .i64 m.seq] 61)
  obtain ⟨d0, d1, d2, d3⟩ := of_cells4 (heap_new w (.cells #[.slice p n c, .string m.log, .int .i64 m.next, .int .i64 m.seq] 61))
  have HB0 := Lib.hid hb0
  clear hb0
  go_enter Tryz.func16, Tryz.ntmps16
  go_wp2_with fail
  generalize w.alloc (.cells #[.slice p n c, .string m.log, .int .i64 m.next, .int .i64 m.seq] 61) = W0 at *
  refine (HE.out W0 HB0.out).mono ?_
  rintro e w1 ⟨rfl, hb1⟩
  have HB1 := Lib.hid (below_then HB0.out hb1)
  clear hb1 d0 d1 d2 d3
  go_wp2_with fail
  go_ret
  exact ⟨rfl, HB1.out⟩
end Mf
end Go.Proofs.YtkbdokakoapooaaGreatDoor
