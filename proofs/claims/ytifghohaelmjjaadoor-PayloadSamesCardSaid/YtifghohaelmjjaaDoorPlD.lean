/- The order of values: payload's Compare. Conditions: those that each theorem names. -/
import Derived.Test.YtifghohaelmjjaaDoorPlC
import Derived.Deep.RegionHeld3
namespace Go.Proofs.YtifghohaelmjjaaDoor
set_option linter.unusedVariables false
open Go Go.RowKit Go.Shelf Pl
set_option maxHeartbeats 4000000 in
set_option maxRecDepth 100000 in
theorem compare_any (k n k' n' : Int) (t t' : ByteArray) (w : World) :
    Calls Tryd.prog 21 #[.agg #[.int .i64 k, .int .i64 n, .string t], .agg #[.int .i64 k', .int .i64 n', .string t']] w fun e w' => e = .returned (.int .i64 (orL [Lib.compareInt k k', Lib.compareInt n n', Lib.compareBytes t.data.toList t'.data.toList])) ∧ Below w.heap.size w w' := by
  have z := heap_last w (.cells #[.int .i64 k, .int .i64 n, .string t] 51)
  obtain ⟨a0, a1, a2⟩ := cells3_new z (.cells #[.int .i64 k', .int .i64 n', .string t'] 51)
  have z2 := heap_last (w.alloc (.cells #[.int .i64 k, .int .i64 n, .string t] 51)) (.cells #[.int .i64 k', .int .i64 n', .string t'] 51)
  rw [show (w.alloc (.cells #[.int .i64 k, .int .i64 n, .string t] 51)).heap.size = w.heap.size + 1 by simp] at z2
  obtain ⟨b0, b1, b2⟩ := cells3_of z2
  have HB := Lib.hid ((fresh_alloc w (.cells #[.int .i64 k, .int .i64 n, .string t] 51)).alloc (by simp) (.cells #[.int .i64 k', .int .i64 n', .string t'] 51))
  obtain ⟨f, hf⟩ : ∃ f, f = Lib.compareInt := ⟨_, rfl⟩
  obtain ⟨r3, hr3⟩ : ∃ r, r = Lib.compareBytes t.data.toList t'.data.toList := ⟨_, rfl⟩
  have HT := Lib.hid (fun W => Tryd.strings_Compare t t' W)
  have H1 := Lib.hid (fun x y W => Tryd.cmp_Compare_int x y W)
  rw [← hf] at H1
  rw [← hr3] at HT
  rw [← hf, ← hr3]
  have HO := Lib.hid (fun g W hc => or_any [f k k', f n n', r3] g 3 W hc (by simp))
  clear z z2 hf hr3
  go_enter Tryd.func21, Tryd.ntmps21
  go_wp2_with fail
  have hbd := HB.out.drew
  have HOG := Lib.hid (fun (W : World) => HO.out W.heap.size (W.alloc (.cells #[.int .i64 (f k k'), .int .i64 (f n n'), .int .i64 r3] 3)).drew (by
    intro j hj
    have hh := heap_last W (.cells #[.int .i64 (f k k'), .int .i64 (f n n'), .int .i64 r3] 3)
    have hj3 : j < 3 := hj
    rw [Lib.cell_of_heap (w := (W.alloc (.cells #[.int .i64 (f k k'), .int .i64 (f n n'), .int .i64 r3] 3)).drew) hh]
    have : j = 0 ∨ j = 1 ∨ j = 2 := by omega
    rcases this with rfl | rfl | rfl <;> rfl))
  have HZ : Hid (w.heap.size + 2 ≤ ((w.alloc (.cells #[.int .i64 k, .int .i64 n, .string t] 51)).alloc (.cells #[.int .i64 k', .int .i64 n', .string t'] 51)).heap.size) := Lib.hid (by simp)
  generalize (w.alloc (.cells #[.int .i64 k, .int .i64 n, .string t] 51)).alloc (.cells #[.int .i64 k', .int .i64 n', .string t'] 51) = W0 at *
  clear HB HO
  have hS0 : W0.drew.cell? ⟨w.heap.size, 0, none⟩ = some (.int .i64 k) ∧ W0.drew.cell? ⟨w.heap.size, 1, none⟩ = some (.int .i64 n) ∧ W0.drew.cell? ⟨w.heap.size, 2, none⟩ = some (.string t) ∧ W0.drew.cell? ⟨w.heap.size + 1, 0, none⟩ = some (.int .i64 k') ∧ W0.drew.cell? ⟨w.heap.size + 1, 1, none⟩ = some (.int .i64 n') ∧ W0.drew.cell? ⟨w.heap.size + 1, 2, none⟩ = some (.string t') ∧ Below w.heap.size w W0.drew := ⟨a0, a1, a2, b0, b1, b2, hbd⟩
  have hz : w.heap.size + 2 ≤ W0.heap.size := HZ.out
  have old : ∀ g i v, g < W0.heap.size → W0.cell? ⟨g, i, none⟩ = v → (W0.alloc (.cells #[.int .i64 (f k k'), .int .i64 (f n n'), .int .i64 r3] 3)).drew.cell? ⟨g, i, none⟩ = v := fun g i v hg h => by
    rw [← h]
    exact World.cell?_of_block (w := W0) (heap_old W0 (.cells #[.int .i64 (f k k'), .int .i64 (f n n'), .int .i64 r3] 3) hg)
  have hS1 : (W0.alloc (.cells #[.int .i64 (f k k'), .int .i64 (f n n'), .int .i64 r3] 3)).drew.cell? ⟨w.heap.size, 0, none⟩ = some (.int .i64 k) ∧ (W0.alloc (.cells #[.int .i64 (f k k'), .int .i64 (f n n'), .int .i64 r3] 3)).drew.cell? ⟨w.heap.size, 1, none⟩ = some (.int .i64 n) ∧ (W0.alloc (.cells #[.int .i64 (f k k'), .int .i64 (f n n'), .int .i64 r3] 3)).drew.cell? ⟨w.heap.size, 2, none⟩ = some (.string t) ∧ (W0.alloc (.cells #[.int .i64 (f k k'), .int .i64 (f n n'), .int .i64 r3] 3)).drew.cell? ⟨w.heap.size + 1, 0, none⟩ = some (.int .i64 k') ∧ (W0.alloc (.cells #[.int .i64 (f k k'), .int .i64 (f n n'), .int .i64 r3] 3)).drew.cell? ⟨w.heap.size + 1, 1, none⟩ = some (.int .i64 n') ∧ (W0.alloc (.cells #[.int .i64 (f k k'), .int .i64 (f n n'), .int .i64 r3] 3)).drew.cell? ⟨w.heap.size + 1, 2, none⟩ = some (.string t') ∧ Below w.heap.size w (W0.alloc (.cells #[.int .i64 (f k k'), .int .i64 (f n n'), .int .i64 r3] 3)).drew :=
    ⟨old _ _ _ (by omega) a0, old _ _ _ (by omega) a1, old _ _ _ (by omega) a2, old _ _ _ (by omega) b0, old _ _ _ (by omega) b1, old _ _ _ (by omega) b2, (hbd.alloc (by show w.heap.size ≤ W0.heap.size; omega) _)⟩
  have HBZ := Lib.hid hS1.2.2.2.2.2.2
  clear a0 a1 a2 b0 b1 b2 hbd old hz
  go_region_held3 (fun x => x.cell? ⟨w.heap.size, 0, none⟩ = some (.int .i64 k) ∧ x.cell? ⟨w.heap.size, 1, none⟩ = some (.int .i64 n) ∧ x.cell? ⟨w.heap.size, 2, none⟩ = some (.string t) ∧ x.cell? ⟨w.heap.size + 1, 0, none⟩ = some (.int .i64 k') ∧ x.cell? ⟨w.heap.size + 1, 1, none⟩ = some (.int .i64 n') ∧ x.cell? ⟨w.heap.size + 1, 2, none⟩ = some (.string t') ∧ Below w.heap.size w x)
    (first | assumption | go_keep)
    (first
      | (go_at_call 62; refine (H1.out _ _ _).mono ?_; rintro e w1 ⟨rfl, rfl⟩)
      | (go_at_call 61; refine (HOG.out _).mono ?_; rintro e w1 ⟨rfl, rfl⟩)
      | (go_at_call 63; refine (HT.out _).mono ?_; rintro e w1 ⟨rfl, rfl⟩))
  go_wp2_with fail
  go_ret
  exact ⟨rfl, HBZ.out⟩
end Go.Proofs.YtifghohaelmjjaaDoor
