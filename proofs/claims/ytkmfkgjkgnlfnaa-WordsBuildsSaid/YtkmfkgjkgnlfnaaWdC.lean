/- The program's order of values, as the library's sort asks it; sorted values. Conditions: those that each theorem names. -/
import Derived.Test.YtkmfkgjkgnlfnaaWdA
import Derived.Deep.RegionHeld3
namespace Go.Proofs.Ytkmfkgjkgnlfnaa
set_option linter.unusedVariables false
namespace Wd
open Go Go.RowKit Go.Shelf Go.Sort Pq Pq.Pl Rk
set_option maxHeartbeats 4000000 in
set_option maxRecDepth 100000 in
theorem compareG_any (k n k' n' : Int) (t t' : ByteArray) (w : World) :
    Calls Try.prog 36 #[.agg #[.int .i64 k, .int .i64 n, .string t], .agg #[.int .i64 k', .int .i64 n', .string t']] w fun e w' => e = .returned (.int .i64 (orL [Lib.compareInt k k', Lib.compareInt n n', Lib.compareBytes t.data.toList t'.data.toList])) ∧ Gn w w' := by
  have z := Pq.heap_last w (.cells #[.int .i64 k, .int .i64 n, .string t] 24)
  obtain ⟨a0, a1, a2⟩ := cells3_new z (.cells #[.int .i64 k', .int .i64 n', .string t'] 24)
  have z2 := Pq.heap_last (w.alloc (.cells #[.int .i64 k, .int .i64 n, .string t] 24)) (.cells #[.int .i64 k', .int .i64 n', .string t'] 24)
  rw [show (w.alloc (.cells #[.int .i64 k, .int .i64 n, .string t] 24)).heap.size = w.heap.size + 1 by simp] at z2
  obtain ⟨b0, b1, b2⟩ := cells3_of z2
  have HB := Lib.hid (((Gn.refl w).alloc (.cells #[.int .i64 k, .int .i64 n, .string t] 24)).alloc (.cells #[.int .i64 k', .int .i64 n', .string t'] 24))
  obtain ⟨f, hf⟩ : ∃ f, f = Lib.compareInt := ⟨_, rfl⟩
  obtain ⟨r3, hr3⟩ : ∃ r, r = Lib.compareBytes t.data.toList t'.data.toList := ⟨_, rfl⟩
  have HT := Lib.hid (fun W => Try.strings_Compare t t' W)
  have H1 := Lib.hid (fun x y W => Try.cmp_Compare_int x y W)
  rw [← hf] at H1
  rw [← hr3] at HT
  rw [← hf, ← hr3]
  have HO := Lib.hid (fun g W hc => or_any [f k k', f n n', r3] g 3 W hc (by simp))
  clear z z2 hf hr3
  go_enter Try.func36, Try.ntmps36
  go_wp2_with fail
  have hbd := HB.out.drew
  have HOG := Lib.hid (fun (W : World) => HO.out W.heap.size (W.alloc (.cells #[.int .i64 (f k k'), .int .i64 (f n n'), .int .i64 r3] 3)).drew (by
    intro j hj
    have hh := Pq.heap_last W (.cells #[.int .i64 (f k k'), .int .i64 (f n n'), .int .i64 r3] 3)
    have hj3 : j < 3 := hj
    rw [Lib.cell_of_heap (w := (W.alloc (.cells #[.int .i64 (f k k'), .int .i64 (f n n'), .int .i64 r3] 3)).drew) hh]
    have : j = 0 ∨ j = 1 ∨ j = 2 := by omega
    rcases this with rfl | rfl | rfl <;> rfl))
  have HZ : Hid (w.heap.size + 2 ≤ ((w.alloc (.cells #[.int .i64 k, .int .i64 n, .string t] 24)).alloc (.cells #[.int .i64 k', .int .i64 n', .string t'] 24)).heap.size) := Lib.hid (by simp)
  generalize (w.alloc (.cells #[.int .i64 k, .int .i64 n, .string t] 24)).alloc (.cells #[.int .i64 k', .int .i64 n', .string t'] 24) = W0 at *
  have HBA := Lib.hid (HB.out.alloc (.cells #[.int .i64 (f k k'), .int .i64 (f n n'), .int .i64 r3] 3))
  clear HB HO
  have hS0 : W0.drew.cell? ⟨w.heap.size, 0, none⟩ = some (.int .i64 k) ∧ W0.drew.cell? ⟨w.heap.size, 1, none⟩ = some (.int .i64 n) ∧ W0.drew.cell? ⟨w.heap.size, 2, none⟩ = some (.string t) ∧ W0.drew.cell? ⟨w.heap.size + 1, 0, none⟩ = some (.int .i64 k') ∧ W0.drew.cell? ⟨w.heap.size + 1, 1, none⟩ = some (.int .i64 n') ∧ W0.drew.cell? ⟨w.heap.size + 1, 2, none⟩ = some (.string t') ∧ Gn w W0.drew := ⟨a0, a1, a2, b0, b1, b2, hbd⟩
  have hz : w.heap.size + 2 ≤ W0.heap.size := HZ.out
  have old : ∀ g i v, g < W0.heap.size → W0.cell? ⟨g, i, none⟩ = v → (W0.alloc (.cells #[.int .i64 (f k k'), .int .i64 (f n n'), .int .i64 r3] 3)).drew.cell? ⟨g, i, none⟩ = v := fun g i v hg h => by
    rw [← h]
    exact World.cell?_of_block (w := W0) (Pq.heap_old W0 (.cells #[.int .i64 (f k k'), .int .i64 (f n n'), .int .i64 r3] 3) hg)
  have hS1 : (W0.alloc (.cells #[.int .i64 (f k k'), .int .i64 (f n n'), .int .i64 r3] 3)).drew.cell? ⟨w.heap.size, 0, none⟩ = some (.int .i64 k) ∧ (W0.alloc (.cells #[.int .i64 (f k k'), .int .i64 (f n n'), .int .i64 r3] 3)).drew.cell? ⟨w.heap.size, 1, none⟩ = some (.int .i64 n) ∧ (W0.alloc (.cells #[.int .i64 (f k k'), .int .i64 (f n n'), .int .i64 r3] 3)).drew.cell? ⟨w.heap.size, 2, none⟩ = some (.string t) ∧ (W0.alloc (.cells #[.int .i64 (f k k'), .int .i64 (f n n'), .int .i64 r3] 3)).drew.cell? ⟨w.heap.size + 1, 0, none⟩ = some (.int .i64 k') ∧ (W0.alloc (.cells #[.int .i64 (f k k'), .int .i64 (f n n'), .int .i64 r3] 3)).drew.cell? ⟨w.heap.size + 1, 1, none⟩ = some (.int .i64 n') ∧ (W0.alloc (.cells #[.int .i64 (f k k'), .int .i64 (f n n'), .int .i64 r3] 3)).drew.cell? ⟨w.heap.size + 1, 2, none⟩ = some (.string t') ∧ Gn w (W0.alloc (.cells #[.int .i64 (f k k'), .int .i64 (f n n'), .int .i64 r3] 3)).drew :=
    ⟨old _ _ _ (by omega) a0, old _ _ _ (by omega) a1, old _ _ _ (by omega) a2, old _ _ _ (by omega) b0, old _ _ _ (by omega) b1, old _ _ _ (by omega) b2, HBA.out.drew⟩
  have HBZ := Lib.hid hS1.2.2.2.2.2.2
  clear a0 a1 a2 b0 b1 b2 hbd old hz
  go_region_held3 (fun x => x.cell? ⟨w.heap.size, 0, none⟩ = some (.int .i64 k) ∧ x.cell? ⟨w.heap.size, 1, none⟩ = some (.int .i64 n) ∧ x.cell? ⟨w.heap.size, 2, none⟩ = some (.string t) ∧ x.cell? ⟨w.heap.size + 1, 0, none⟩ = some (.int .i64 k') ∧ x.cell? ⟨w.heap.size + 1, 1, none⟩ = some (.int .i64 n') ∧ x.cell? ⟨w.heap.size + 1, 2, none⟩ = some (.string t') ∧ Gn w x)
    (assumption)
    (first
      | (go_at_call 48; refine (H1.out _ _ _).mono ?_; rintro e w1 ⟨rfl, rfl⟩)
      | (go_at_call 47; refine (HOG.out _).mono ?_; rintro e w1 ⟨rfl, rfl⟩)
      | (go_at_call 49; refine (HT.out _).mono ?_; rintro e w1 ⟨rfl, rfl⟩))
  go_wp2_with fail
  go_ret
  exact ⟨rfl, HBZ.out⟩
theorem compareG_is (x y : Val) (w : World) :
    Calls Try.prog 36 #[vv x, vv y] w fun e w' => e = .returned (.int .i64 (cmpV x y)) ∧ Gn w w' := by
  have h := compareG_any x.kind x.n y.kind y.n x.text y.text w
  rwa [or_cmp] at h
theorem compare_enters : ∀ args w, (callFunc 36 args).run Try.prog w = .ok (.enter 36 args) w := enters_of Try.func36 (by kernel_rfl) rfl
theorem cmp_lays (g n : Nat) (w : World) : CmpLays Try.prog 36 #[] encV 3 cmpV g 0 n w := by
  intro q os dk hs x y
  rw [Array.append_empty]
  exact compareG_is x y _
/-- Values sorted: unlike ones rise. -/
theorem sortvals_any (L : List Val) (v : Value) (base : Nat) (w : World) (h : Rk.Own encV 3 24 w base v L) (hB : base ≤ w.heap.size) (hl : L.length < 4611686018427387904) :
    Calls Try.prog 35 #[v, .func (.func 36) #[] #[]] w fun e w' => e = .returned (.tuple #[]) ∧ Rk.Own encV 3 24 w' base v (L.mergeSort fun x y => !(ltOf cmpV) y x) ∧ Below base w w' := by
  have hcon := sortfunc Try.sortV flatV Try.isAgg24 Try.sizeOf24 cmpV swoV totV 36 #[] L v base w compare_enters (fun g _ _ => cmp_lays g _ w) h hB hl
  exact hcon
end Wd
end Go.Proofs.Ytkmfkgjkgnlfnaa
