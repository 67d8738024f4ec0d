/- The law's sure: what must come whatever the input is. Conditions: none. -/
import Derived.Test.YtclmalaomofahaaGreatDoorFtQ
import Derived.Test.YtclmalaomofahaaGreatDoorFtL
namespace Go.Proofs.YtclmalaomofahaaGreatDoor
set_option linter.unusedVariables false
namespace Ft
open Go Go.RowKit Go.Shelf Pq Pq.Pl Px Ids
/-- A row laid as a literal. -/
theorem row_lit {α : Type} {P : Program} {enc : α → List Value} {k T ST b : Nat} (F : Rk.Flat P enc k T ST b) {w : World} {g : Nat} {L : List α} {m : Nat × Nat} (hg : w.heap[g]? = some (.cells (Rk.rowC enc L).toArray T m)) (c : Nat) : Rk.RowAt enc k w (.slice (some ⟨g, 0, none⟩) L.length c) L :=
  .inr ⟨g, 0, c, rfl, Rk.lt_of_block hg, fun W hW j hj i u hu => by
    have hi : i < k := by rw [← F.len L[j]]; exact (List.getElem?_eq_some_iff.1 hu).1
    rw [Nat.zero_add, Lib.cell_of_heap (hW.trans hg), ← hu, ← Rk.rowC_at F L j hj i hi]
    simp⟩
theorem seven (w : World) (o0 o1 o2 o3 o4 o5 o6 : Obj) : ∃ W, W = ((((((w.alloc o0).alloc o1).alloc o2).alloc o3).alloc o4).alloc o5).alloc o6 ∧ Below w.heap.size w W ∧ W.heap[w.heap.size]? = some o0 ∧ W.heap[w.heap.size + 1]? = some o1 ∧ W.heap[w.heap.size + 1 + 1]? = some o2 ∧ W.heap[w.heap.size + 1 + 1 + 1]? = some o3 ∧ W.heap[w.heap.size + 1 + 1 + 1 + 1]? = some o4 ∧ W.heap[w.heap.size + 1 + 1 + 1 + 1 + 1]? = some o5 ∧ W.heap[w.heap.size + 1 + 1 + 1 + 1 + 1 + 1]? = some o6 := by
  have b1 := Rk.fresh_alloc w o0
  have s1 : (w.alloc o0).heap.size = w.heap.size + 1 := by simp
  have l1 := Rk.heap_last w o0
  generalize w.alloc o0 = w1 at *
  have b2 := b1.alloc b1.size o1
  have s2 : (w1.alloc o1).heap.size = w.heap.size + 1 + 1 := by simp [s1]
  have l2 := Rk.heap_last w1 o1
  have k2 := fun b (h : b < w1.heap.size) => Rk.heap_old w1 o1 h
  generalize w1.alloc o1 = w2 at *
  have b3 := b2.alloc b2.size o2
  have s3 : (w2.alloc o2).heap.size = w.heap.size + 1 + 1 + 1 := by simp [s2]
  have l3 := Rk.heap_last w2 o2
  have k3 := fun b (h : b < w2.heap.size) => Rk.heap_old w2 o2 h
  generalize w2.alloc o2 = w3 at *
  have b4 := b3.alloc b3.size o3
  have s4 : (w3.alloc o3).heap.size = w.heap.size + 1 + 1 + 1 + 1 := by simp [s3]
  have l4 := Rk.heap_last w3 o3
  have k4 := fun b (h : b < w3.heap.size) => Rk.heap_old w3 o3 h
  generalize w3.alloc o3 = w4 at *
  have b5 := b4.alloc b4.size o4
  have s5 : (w4.alloc o4).heap.size = w.heap.size + 1 + 1 + 1 + 1 + 1 := by simp [s4]
  have l5 := Rk.heap_last w4 o4
  have k5 := fun b (h : b < w4.heap.size) => Rk.heap_old w4 o4 h
  generalize w4.alloc o4 = w5 at *
  have b6 := b5.alloc b5.size o5
  have s6 : (w5.alloc o5).heap.size = w.heap.size + 1 + 1 + 1 + 1 + 1 + 1 := by simp [s5]
  have l6 := Rk.heap_last w5 o5
  have k6 := fun b (h : b < w5.heap.size) => Rk.heap_old w5 o5 h
  generalize w5.alloc o5 = w6 at *
  have b7 := b6.alloc b6.size o6
  have l7 := Rk.heap_last w6 o6
  have k7 := fun b (h : b < w6.heap.size) => Rk.heap_old w6 o6 h
  rw [s1] at l2
  rw [s2] at l3
  rw [s3] at l4
  rw [s4] at l5
  rw [s5] at l6
  rw [s6] at l7
  refine ⟨_, rfl, b7, ?_, ?_, ?_, ?_, ?_, ?_, l7⟩
  · rw [k7 _ (by omega), k6 _ (by omega), k5 _ (by omega), k4 _ (by omega), k3 _ (by omega), k2 _ (by omega), l1]
  · rw [k7 _ (by omega), k6 _ (by omega), k5 _ (by omega), k4 _ (by omega), k3 _ (by omega), l2]
  · rw [k7 _ (by omega), k6 _ (by omega), k5 _ (by omega), k4 _ (by omega), l3]
  · rw [k7 _ (by omega), k6 _ (by omega), k5 _ (by omega), l4]
  · rw [k7 _ (by omega), k6 _ (by omega), l5]
  · rw [k7 _ (by omega), l6]
/-! ### The conditions and the point -/
def cIn : Cd := .mk 5 ⟨#[97]⟩ v0 5 9 []
def cNot : Cd := .mk 6 ⟨#[]⟩ v0 0 0 [cIn]
def cTwo : Cd := .mk 6 ⟨#[]⟩ v0 0 0 [cIn, cIn]
def cAnd : Cd := .mk 7 ⟨#[]⟩ v0 0 0 []
def cOr : Cd := .mk 8 ⟨#[]⟩ v0 0 0 []
def F0 : List Fld := [⟨⟨#[97]⟩, ⟨1, 5, ⟨#[]⟩⟩⟩]
def P0 : Pt := ⟨1, [], F0⟩
abbrev rIn : Rc := ⟨5, ⟨#[97]⟩, v0, 5, 9, nil0⟩
abbrev rNot (g : Nat) : Rc := ⟨6, ⟨#[]⟩, v0, 0, 0, ⟨some ⟨g, 0, none⟩, 1, 1⟩⟩
abbrev rTwo (g : Nat) : Rc := ⟨6, ⟨#[]⟩, v0, 0, 0, ⟨some ⟨g, 0, none⟩, 2, 2⟩⟩
theorem p_in : pass F0 cIn = true := by decide +kernel
theorem p_not : pass F0 cNot = false := by decide +kernel
theorem p_two : pass F0 cTwo = false := by decide +kernel
theorem p_and : pass F0 cAnd = true := by decide +kernel
theorem p_or : pass F0 cOr = false := by decide +kernel
theorem leaf_at (w : World) (k : Int) (nm : Nm) (lo hi : Int) : CdW (fun _ => True) w (.mk k nm v0 lo hi []) ⟨k, nm, v0, lo, hi, nil0⟩ := by
  unfold CdW
  exact ⟨rfl, rfl, rfl, rfl, rfl, [], .inl ⟨rfl, none, 0, rfl⟩, fun _ _ _ => trivial, by unfold KidsW; rfl⟩
theorem not_at {w : World} {g : Nat} (h : w.heap[g]? = some (cobj rIn)) : CdW (fun _ => True) w cNot (rNot g) := by
  unfold cNot CdW
  refine ⟨rfl, rfl, rfl, rfl, rfl, [rIn], row_lit flatC (L := [rIn]) h 1, fun _ _ _ => trivial, ?_⟩
  exact KidsW.mk rfl fun j h1 h2 => by
    obtain rfl : j = 0 := by simpa using h1
    exact leaf_at w 5 ⟨#[97]⟩ 5 9
theorem two_at {w : World} {g : Nat} (h : w.heap[g]? = some (.cells (Rk.rowC encC [rIn, rIn]).toArray 26 (0, 0))) : CdW (fun _ => True) w cTwo (rTwo g) := by
  unfold cTwo CdW
  refine ⟨rfl, rfl, rfl, rfl, rfl, [rIn, rIn], row_lit flatC (L := [rIn, rIn]) h 2, fun _ _ _ => trivial, ?_⟩
  exact KidsW.mk rfl fun j h1 h2 => by
    have hj : j = 0 ∨ j = 1 := by simp at h1; omega
    rcases hj with rfl | rfl
    · exact leaf_at w 5 ⟨#[97]⟩ 5 9
    · exact leaf_at w 5 ⟨#[97]⟩ 5 9
theorem room0 : (⟨#[]⟩ : ByteArray).size ≤ Room := Nat.zero_le _
theorem room1 (x : UInt8) : (⟨#[x]⟩ : ByteArray).size ≤ Room := by show 1 ≤ Room; unfold Room; omega
theorem big_in : Big cIn := by unfold cIn Big; exact ⟨room1 _, room0, by simp, by unfold BigL; trivial⟩
theorem big_not : Big cNot := by unfold cNot Big; exact ⟨room0, room0, by simp, BigL.mk fun c h => by simp at h; subst h; exact big_in⟩
theorem big_two : Big cTwo := by unfold cTwo Big; exact ⟨room0, room0, by simp, BigL.mk fun c h => by simp at h; subst h; exact big_in⟩
theorem big_and : Big cAnd := by unfold cAnd Big; exact ⟨room0, room0, by simp, by unfold BigL; trivial⟩
theorem big_or : Big cOr := by unfold cOr Big; exact ⟨room0, room0, by simp, by unfold BigL; trivial⟩
theorem f0_ok : FldsOk F0 := ⟨by show 1 ≤ Room; unfold Room; omega, fun x hx => by
  unfold F0 at hx; simp at hx; subst hx; exact ⟨room1 _, room0⟩⟩
theorem f0_at {w : World} {g : Nat} (h : w.heap[g]? = some (.cells #[.string ⟨#[97]⟩, .int .i64 1, .int .i64 5, .string ⟨#[]⟩] 55)) (c : Nat) : FldsAt w (.slice (some ⟨g, 0, none⟩) 1 c) F0 :=
  .inr ⟨g, 0, c, rfl, Rk.lt_of_block h, fun W hW j hj => by
    obtain rfl : j = 0 := by simpa [F0] using hj
    have hx := hW.trans h
    exact ⟨by rw [Lib.cell_of_heap hx]; rfl, by rw [Lib.cell_of_heap hx]; rfl, by rw [Lib.cell_of_heap hx]; rfl, by rw [Lib.cell_of_heap hx]; rfl⟩⟩
theorem size_not : sizeC cNot = 2 := by decide +kernel
theorem depth_not : depthC cNot = 2 := by decide +kernel
theorem ids_two : setL (idsOf cIn [P0, P0]) = [1] := by decide +kernel
end Ft
end Go.Proofs.YtclmalaomofahaaGreatDoor
