/- The library's Clone, Sort, Compact over rows of one's own; the program's rising. Conditions: those that each theorem names. -/
import Derived.Test.YtioidkbpjkcjeaaIdA
import Derived.Lib.OwnBridge
import Derived.Sort.Grow
namespace Go.Proofs.Ytioidkbpjkcjeaa
set_option linter.unusedVariables false
open Go Go.RowKit Go.Sort Ids
theorem ints_map (L : List Int) : ints L = L.map (Value.int .i64) := rfl
theorem own_nil (w : World) (base : Nat) : Own w base (.slice none 0 0) [] := World.ownsRow_nil _ _ _ _
theorem clone_own (L : List Int) (v : Value) (w : World) (h : IntsAt w v L) (hl : L.length * 8 ≤ 140737488355328) :
    Calls Try.prog 60 #[v] w fun e w' => ∃ u, e = .returned u ∧ Own w' w.heap.size u L ∧ Below w.heap.size w w' := by
  rcases h with ⟨rfl, q, c, rfl⟩ | ⟨b, off, c, rfl, hb, hc⟩
  · cases q with
    | none =>
      refine (Try.slices_Clone_int_nil 0 c w).mono ?_
      rintro e w' ⟨rfl, rfl⟩
      exact ⟨_, rfl, own_nil _ _, Below.refl _ _⟩
    | some a =>
      refine (Try.slices_Clone_int_zero a c w).mono ?_
      rintro e w' ⟨u, rfl, h1, _, h2⟩
      exact ⟨_, rfl, h1, h2⟩
  · refine (Try.slices_Clone_int b off L.length c L w (Nat.le_refl _) hl (fun j hj => by rw [hc w rfl j hj]; simp [hj])).mono ?_
    rintro e w' ⟨u, rfl, h1, _, h2⟩
    rw [List.take_length] at h1
    exact ⟨_, rfl, h1, h2⟩
theorem below_grow {w : World} {os : Array Obj} (B : Nat) (hB : B ≤ w.heap.size) : Below B w (grow w os) :=
  ⟨rfl, rfl, rfl, by simp, fun k hk => heap_grow_old _ _ (by omega)⟩
def srtL (L : List Int) : List Int := L.mergeSort fun x y => decide (x ≤ y)
theorem srtL_length (L : List Int) : (srtL L).length = L.length := List.length_mergeSort L
theorem sort_own (L : List Int) (u : Value) (base : Nat) (w : World) (h : Own w base u L) (hb : base ≤ w.heap.size) (hl : L.length < 4611686018427387904) :
    Calls Try.prog 61 #[u] w fun e w' => e = .returned (.tuple #[]) ∧ Own w' base u (srtL L) ∧ Below base w w' := by
  by_cases hu : u = .slice none 0 0
  · subst hu
    refine (Try.slices_Sort_int_none none 0 w).mono ?_
    rintro e w' ⟨rfl, rfl⟩
    have hL : L = [] := by
      rcases h.2 with ⟨_, h0⟩ | ⟨g, cap, cur, h0, _⟩
      · exact List.length_eq_zero_iff.mp h0
      · cases h0
    subst hL
    have e : srtL [] = [] := by simp [srtL]
    exact ⟨rfl, by rw [e]; exact h, Below.refl _ _⟩
  · obtain ⟨g, cap, rfl, hbg, hgl, hncap, hcm, hlen, hH⟩ := Lib.holds_of_ownsRow (zs := L) h hu
    refine (Try.slices_Sort_int g 0 cap L w hH hgl hl).mono ?_
    rintro e w' ⟨rfl, n, os, rfl⟩
    have h2 := Lib.ownsRow_putRow (q := n) (k := L.length) (ys := srtL L) h (srtL_length L) (Nat.le_refl _)
    rw [List.take_of_length_le (by rw [srtL_length]; exact Nat.le_refl _)] at h2
    have hs : (putRow (Value.int .i64) (Sort.ahead w n) g 0 (srtL L).toArray).heap.size = w.heap.size := by simp [putRow, mapBlock, Sort.ahead]
    have hB1 := Lib.below_putRow (q := n) (d := (srtL L).toArray) (enc := Value.int .i64) (Below.refl base w) hbg
    have hB2 := below_grow (w := putRow (Value.int .i64) (Sort.ahead w n) g 0 (srtL L).toArray) (os := os) _ (Nat.le_refl _)
    have h3 : Own (putRow (Value.int .i64) (Sort.ahead w n) g 0 (srtL L).toArray) base (.slice (some ⟨g, 0, none⟩) L.length cap) (srtL L) := by unfold Own; rw [srtL_length]; exact h2
    exact ⟨rfl, own_below h3 hB2, hB1.trans (hB2.mono (by rw [hs]; exact hb))⟩
theorem compact_own (L : List Int) (u : Value) (base : Nat) (w : World) (h : Own w base u L) (hb : base ≤ w.heap.size) (hl : L.length < 4611686018427387904) :
    Calls Try.prog 62 #[u] w fun e w' => ∃ u', e = .returned u' ∧ Own w' base u' (Lib.compact L) ∧ Below base w w' := by
  by_cases hu : u = .slice none 0 0
  · subst hu
    refine (Try.slices_Compact_int_empty none 0 w).mono ?_
    rintro e w' ⟨rfl, rfl⟩
    have hL : L = [] := by
      rcases h.2 with ⟨_, h0⟩ | ⟨g, cap, cur, h0, _⟩
      · exact List.length_eq_zero_iff.mp h0
      · cases h0
    subst hL
    exact ⟨_, rfl, h, Below.refl _ _⟩
  · obtain ⟨g, cap, rfl, hbg, hgl, hncap, hcm, hlen, hH⟩ := Lib.holds_of_ownsRow (zs := L) h hu
    refine (Try.slices_Compact_int g 0 cap L w hH (by omega) hncap).mono ?_
    rintro e w' ⟨rfl, q, rfl⟩
    have hle := Lib.compact_length_le L
    have h2 := Lib.ownsRow_putRow (q := q) (k := (Lib.compact L).length) (ys := Lib.compact L ++ List.replicate (L.length - (Lib.compact L).length) 0) h (by simp; omega) hle
    rw [List.take_left] at h2
    exact ⟨_, rfl, h2, Lib.below_putRow (Below.refl base w) hbg⟩
theorem rising_is (L : List Int) : Lib.compact (srtL L) = setL L := compact_sort L
set_option maxHeartbeats 1000000 in
theorem rising_any (L : List Int) (v : Value) (w : World) (h : IntsAt w v L) (hl : L.length * 8 ≤ 140737488355328) :
    Calls Try.prog 51 #[v] w fun e w' => ∃ u, e = .returned u ∧ Own w' w.heap.size u (setL L) ∧ Below w.heap.size w w' := by
  have C1 := Lib.hid (clone_own L v w h hl)
  have HL := Lib.hid hl
  clear h hl
  go_enter Try.func51, Try.ntmps51
  go_wp2_with (first
    | (go_at_call 60; refine C1.out.mono ?_; rintro e w1 ⟨u, rfl, h1, b1⟩; have C2 := Lib.hid (sort_own L u w.heap.size w1 h1 b1.size (by have := HL.out; omega)); have B1 := Lib.hid b1; clear h1 b1)
    | (go_at_call 61; refine C2.out.mono ?_; rintro e w2 ⟨rfl, h2, b2⟩; have C3 := Lib.hid (compact_own (srtL L) u w.heap.size w2 h2 (Nat.le_trans B1.out.size b2.size) (by rw [srtL_length]; have := HL.out; omega)); have B2 := Lib.hid (B1.out.trans b2); clear h2 b2)
    | (go_at_call 62; refine C3.out.mono ?_; rintro e w3 ⟨u', rfl, h3, b3⟩; rw [rising_is] at h3; have B3 := Lib.hid (B2.out.trans b3); clear b3))
  go_ret
  exact ⟨_, rfl, h3, B3.out⟩
end Go.Proofs.Ytioidkbpjkcjeaa
