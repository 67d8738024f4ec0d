/- The law's not and of. Conditions: those that each theorem names. -/
import Derived.Test.YtclmalaomofahaaGreatDoorFtPl
import Derived.Test.YtclmalaomofahaaGreatDoorFtR
namespace Go.Proofs.YtclmalaomofahaaGreatDoor
set_option linter.unusedVariables false
namespace Ft
open Go Go.RowKit Go.Shelf Pq Pq.Pl Px
theorem three (w : World) (a b c : Obj) : Below w.heap.size w (((w.alloc a).alloc b).alloc c) ∧ (((w.alloc a).alloc b).alloc c).heap[w.heap.size + 1]? = some b ∧ (((w.alloc a).alloc b).alloc c).heap[w.heap.size + 1 + 1]? = some c := by
  have b1 := Rk.fresh_alloc w a
  have b2 := b1.alloc b1.size b
  have s1 : (w.alloc a).heap.size = w.heap.size + 1 := by simp
  have s2 : ((w.alloc a).alloc b).heap.size = w.heap.size + 1 + 1 := by simp
  exact ⟨b2.alloc b2.size c, by rw [Rk.heap_old _ _ (by omega), ← s1, Rk.heap_last], third w a b c⟩
theorem notC_at {c : Cd} {r : Rc} {w w' : World} {g : Nat} (h : CdW (fun _ => True) w c r) (hb : Below w.heap.size w w') (hg : w'.heap[g]? = some (cobj r)) : CdW (fun _ => True) w' (notC c) ⟨6, ⟨#[]⟩, v0, 0, 0, ⟨some ⟨g, 0, none⟩, 1, 1⟩⟩ := by
  unfold notC CdW
  refine ⟨rfl, rfl, rfl, rfl, rfl, [r], row_lit flatC (L := [r]) (by simpa [Rk.rowC, encC] using hg) 1, fun _ _ _ => trivial, ?_⟩
  exact KidsW.mk rfl fun j h1 h2 => by
    obtain rfl : j = 0 := by simpa using h1
    exact h.below hb
theorem big_notC {c : Cd} (h : Big c) : Big (notC c) := by unfold notC Big; exact ⟨room0, room0, by simp, BigL.mk fun x hx => by simp at hx; subst hx; exact h⟩
set_option maxHeartbeats 1000000 in
set_option maxRecDepth 100000 in
theorem not_any (r : Rc) (w : World) : Calls Tryz.prog 19 #[cv r] w fun e w' => ∃ g, e = .returned (cv ⟨6, ⟨#[]⟩, v0, 0, 0, ⟨some ⟨g, 0, none⟩, 1, 1⟩⟩) ∧ w'.heap[g]? = some (cobj r) ∧ Below w.heap.size w w' := by
  obtain ⟨HA, hz2, hz3⟩ := three w (cobj r) (cobj ⟨6, ⟨#[]⟩, v0, 0, 0, ⟨some ⟨w.heap.size + 1 + 1, 0, none⟩, 1, 1⟩⟩) (cobj r)
  have HH := Lib.hid HA
  have HZ := Lib.hid hz3
  obtain ⟨d0, d1, d2, d3, d4, d5, d6, d7⟩ := cells8 hz2
  obtain ⟨k0, k1, ⟨k2, k3, k4⟩, k5, k6, ⟨k7, k8, k9⟩⟩ := r
  clear HA hz2 hz3
  go_enter Tryz.func19, Tryz.ntmps19
  go_wp2_with fail
  refine bodyPost_ret (v := cv ⟨6, ⟨#[]⟩, v0, 0, 0, ⟨some ⟨w.heap.size + 1 + 1, 0, none⟩, 1, 1⟩⟩) (by simp [results, Tryz.results19, go_sem, d0, d1, d2, d3, d4, d5, d6, d7]) rfl ?_
  exact ⟨_, rfl, HZ.out, HH.out⟩
set_option maxHeartbeats 1000000 in
set_option maxRecDepth 100000 in
theorem of_any (k : Int) (p : Option Addr) (n c : Nat) (w : World) : Calls Tryz.prog 20 #[.int .i64 k, .slice p n c] w fun e w' => e = .returned (cv ⟨k, ⟨#[]⟩, v0, 0, 0, ⟨p, n, c⟩⟩) ∧ w' = w.alloc (cobj ⟨k, ⟨#[]⟩, v0, 0, 0, ⟨p, n, c⟩⟩) := by
  obtain ⟨d0, d1, d2, d3, d4, d5, d6, d7⟩ := cells8 (Rk.heap_last w (cobj ⟨k, ⟨#[]⟩, v0, 0, 0, ⟨p, n, c⟩⟩))
  go_enter Tryz.func20, Tryz.ntmps20
  go_wp2_with fail
  refine bodyPost_ret (v := cv ⟨k, ⟨#[]⟩, v0, 0, 0, ⟨p, n, c⟩⟩) (by simp [results, Tryz.results20, go_sem, d0, d1, d2, d3, d4, d5, d6, d7]) rfl ?_
  exact ⟨rfl, rfl⟩
end Ft
end Go.Proofs.YtclmalaomofahaaGreatDoor
