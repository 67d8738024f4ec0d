/- The library's Clone and Sort over rows of whole numbers. Conditions: those that each theorem names. -/
import Derived.Test.YtmkilmglmeohmaaRowX
import Derived.Lib.OwnBridge
import Derived.Sort.Grow
namespace Go.Proofs.Ytmkilmglmeohmaa
set_option linter.unusedVariables false
open Go Go.RowKit Go.Sort
namespace Rx
theorem ints_map (L : List Int) : ints L = L.map (Value.int .i64) := rfl
theorem clone_own (L : List Int) (v : Value) (w : World) (h : IntsAt w v L) (hl : L.length * 8 ≤ 140737488355328) :
    Calls Try.prog 26 #[v] w fun e w' => ∃ u, e = .returned u ∧ Own w' w.heap.size u L ∧ Below w.heap.size w w' := by
  rcases h with ⟨rfl, q, c, rfl⟩ | ⟨b, off, c, rfl, hb, hc⟩
  · cases q with
    | none =>
      refine (Try.slices_Clone_int_nil 0 c w).mono ?_
      rintro e w' ⟨rfl, rfl⟩
      exact ⟨_, rfl, own_nil _ _, Below.refl _ _⟩
    | some a =>
      refine (Try.slices_Clone_int_zero a c w).mono ?_
      rintro e w' ⟨u, rfl, h1, _, h2⟩
      exact ⟨_, rfl, h1, h2⟩
  · refine (Try.slices_Clone_int b off L.length c L w (Nat.le_refl _) hl (fun j hj => by rw [hc w rfl j hj]; simp [hj])).mono ?_
    rintro e w' ⟨u, rfl, h1, _, h2⟩
    rw [List.take_length] at h1
    exact ⟨_, rfl, h1, h2⟩
theorem below_grow {w : World} {os : Array Obj} (B : Nat) (hB : B ≤ w.heap.size) : Below B w (grow w os) :=
  ⟨rfl, rfl, rfl, by simp, fun k hk => heap_grow_old _ _ (by omega)⟩
def srtL (L : List Int) : List Int := L.mergeSort fun x y => decide (x ≤ y)
theorem srtL_length (L : List Int) : (srtL L).length = L.length := List.length_mergeSort L
theorem sort_own (L : List Int) (u : Value) (base : Nat) (w : World) (h : Own w base u L) (hb : base ≤ w.heap.size) (hl : L.length < 4611686018427387904) :
    Calls Try.prog 27 #[u] w fun e w' => e = .returned (.tuple #[]) ∧ Own w' base u (srtL L) ∧ Below base w w' := by
  by_cases hu : u = .slice none 0 0
  · subst hu
    refine (Try.slices_Sort_int_none none 0 w).mono ?_
    rintro e w' ⟨rfl, rfl⟩
    have hL : L = [] := by
      rcases h.2 with ⟨_, h0⟩ | ⟨g, cap, cur, h0, _⟩
      · exact List.length_eq_zero_iff.mp h0
      · cases h0
    subst hL
    have e : srtL [] = [] := by simp [srtL]
    exact ⟨rfl, by rw [e]; exact h, Below.refl _ _⟩
  · obtain ⟨g, cap, rfl, hbg, hgl, hncap, hcm, hlen, hH⟩ := Lib.holds_of_ownsRow (zs := L) h hu
    refine (Try.slices_Sort_int g 0 cap L w hH hgl hl).mono ?_
    rintro e w' ⟨rfl, n, os, rfl⟩
    have h2 := Lib.ownsRow_putRow (q := n) (k := L.length) (ys := srtL L) h (srtL_length L) (Nat.le_refl _)
    rw [List.take_of_length_le (by rw [srtL_length]; exact Nat.le_refl _)] at h2
    have hs : (putRow (Value.int .i64) (Sort.ahead w n) g 0 (srtL L).toArray).heap.size = w.heap.size := by simp [putRow, mapBlock, Sort.ahead]
    have hB1 := Lib.below_putRow (q := n) (d := (srtL L).toArray) (enc := Value.int .i64) (Below.refl base w) hbg
    have hB2 := below_grow (w := putRow (Value.int .i64) (Sort.ahead w n) g 0 (srtL L).toArray) (os := os) _ (Nat.le_refl _)
    have h3 : Own (putRow (Value.int .i64) (Sort.ahead w n) g 0 (srtL L).toArray) base (.slice (some ⟨g, 0, none⟩) L.length cap) (srtL L) := by unfold Own; rw [srtL_length]; exact h2
    exact ⟨rfl, own_below h3 hB2, hB1.trans (hB2.mono (by rw [hs]; exact hb))⟩
end Rx
end Go.Proofs.Ytmkilmglmeohmaa
