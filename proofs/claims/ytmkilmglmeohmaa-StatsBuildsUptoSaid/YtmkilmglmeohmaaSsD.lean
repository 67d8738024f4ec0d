/- The program's bucket, and its histogram. Conditions: those that each theorem names. -/
import Derived.Test.YtmkilmglmeohmaaSsC
import Derived.Test.YtmkilmglmeohmaaSsB
import Derived.Deep.RegionHeld3
import Derived.BigQuiet
namespace Go.Proofs.Ytmkilmglmeohmaa
set_option linter.unusedVariables false
open Go Go.RowKit Go.Sort
namespace Ss
/-- A bucket's cells nought. -/
def zB : Obj := .cells #[.int .i64 0, .int .i64 0, .int .i64 0, .int .i64 0] 36
theorem piece_get {X : List Int} {off m j : Nat} (h : j < m) (ho : off + m ≤ X.length) : ∃ x, ((X.drop off).take m).getD j 0 = x ∧ X[off + j]? = some x := by
  refine ⟨X[off + j]'(by omega), ?_, List.getElem?_eq_getElem (by omega)⟩
  rw [List.getD_eq_getElem?_getD, List.getElem?_take, if_pos h, List.getElem?_drop, List.getElem?_eq_getElem (by omega)]
  rfl
theorem grown_at {w w' : World} {g k : Nat} (h : w.grownBy w' (some g)) (hk : k < w.heap.size) (hne : ¬ k = g) : w'.heap[k]? = w.heap[k]? := h.block k hk (fun e => hne (by injection e))
theorem grown_then {w w1 w2 : World} {g : Nat} (h : w.grownBy w1 (some g)) (h2 : w1.grownBy w2 (some g)) : w.grownBy w2 (some g) :=
  ⟨h2.os.trans h.os, h2.tape.trans h.tape, h2.output.trans h.output, Nat.le_trans h.size h2.size, fun k hk hne => (h2.block k (Nat.lt_of_lt_of_le hk h.size) hne).trans (h.block k hk hne)⟩
theorem grown_set {w w' : World} {g : Nat} {p : Addr} {x : Value} (h : w.grownBy w' (some g)) (hp : w.heap.size ≤ p.block) : w.grownBy (w'.setCell p x) (some g) :=
  ⟨h.os, h.tape, h.output, by simpa using h.size, fun k hk hne => by
    rw [heap_setCell_other _ _ _ _ (by omega)]
    exact h.block k hk hne⟩
set_option maxHeartbeats 2000000 in
set_option maxRecDepth 100000 in
theorem bucket_any (X : List Int) (base g n cap off m : Nat) (w : World) (h : Own w base (.slice (some ⟨g, 0, none⟩) n cap) X) (hm : 1 ≤ m) (ho : off + m ≤ X.length) (hX : X.length < 4611686018427387904) :
    Calls Try.prog 28 #[.slice (some ⟨g, off, none⟩) m m] w fun e w' => e = .returned (.agg (encB (bkOf ((X.drop off).take m))).toArray) ∧ (∃ X', Own w' base (.slice (some ⟨g, 0, none⟩) n cap) X' ∧ X'.length = X.length ∧ X'.drop (off + m) = X.drop (off + m)) ∧ w.grownBy w' (some g) := by
  have hlt := (h.block g rfl).2
  have hlp : ((X.drop off).take m).length = m := by simp; omega
  obtain ⟨k, hk⟩ : ∃ k, k = m - 1 := ⟨_, rfl⟩
  obtain ⟨x0, e0, hx0⟩ := piece_get (X := X) (off := off) (m := m) (j := 0) (by omega) ho
  obtain ⟨x1, e1, hx1⟩ := piece_get (X := X) (off := off) (m := m) (j := k) (by omega) ho
  rw [Nat.add_zero] at hx0
  have c0 := (own_cell h off _ hx0).1
  have c1 := (own_cell h (off + k) _ hx1).1
  have hkk : wrap64 ((m : Int) - 1) = (k : Int) := by rw [wrap64_in _ (by omega)]; omega
  have hkm : (k : Int) < m := by omega
  have H0 := Lib.hid e0
  have H1 := Lib.hid e1
  have HK := Lib.hid hk
  have HL := Lib.hid hlp
  have HH := Lib.hid h
  have HO := Lib.hid ho
  have HX := Lib.hid hX
  have HG := Lib.hid hlt
  clear e0 e1 hk hlp h ho hX
  clear hx0 hx1
  go_enter Try.func28, Try.ntmps28
  have a0 : ∀ o, (w.alloc o).cell? ⟨g, off, none⟩ = some (.int .i64 x0) := fun o => by rw [← c0]; exact World.cell?_of_block (Rk.heap_old w o HG.out)
  have a1 : ∀ o, (w.alloc o).cell? ⟨g, off + k, none⟩ = some (.int .i64 x1) := fun o => by rw [← c1]; exact World.cell?_of_block (Rk.heap_old w o HG.out)
  have b0 : ∀ o o', ((w.alloc o).alloc o').cell? ⟨g, off, none⟩ = some (.int .i64 x0) := fun o o' => by rw [← a0 o]; exact World.cell?_of_block (Rk.heap_old (w.alloc o) o' (by simp; have := HG.out; omega))
  have b1 : ∀ o o', ((w.alloc o).alloc o').cell? ⟨g, off + k, none⟩ = some (.int .i64 x1) := fun o o' => by rw [← a1 o]; exact World.cell?_of_block (Rk.heap_old (w.alloc o) o' (by simp; have := HG.out; omega))
  go_wp2
  go_region
  have hG1 : w.grownBy ((w.alloc (.cells #[.int .i64 0, .int .i64 0, .int .i64 0, .int .i64 0] 36)).alloc (.cells #[.int .i64 x0, .int .i64 x1, .int .i64 (m : Int), .int .i64 0] 36)).drew (some g) := ⟨rfl, rfl, rfl, by simp [World.drew]; omega, fun q hq _ => by
    show ((w.alloc _).alloc _).heap[q]? = _
    rw [Rk.heap_old _ _ (by simp; omega), Rk.heap_old _ _ hq]⟩
  have hO1 := own_below (own_below HH.out (Rk.fresh_alloc w (.cells #[.int .i64 0, .int .i64 0, .int .i64 0, .int .i64 0] 36))) (Rk.fresh_alloc _ (.cells #[.int .i64 x0, .int .i64 x1, .int .i64 (m : Int), .int .i64 0] 36))
  have hO1 := own_below hO1 (show Below _ _ ((w.alloc (.cells #[.int .i64 0, .int .i64 0, .int .i64 0, .int .i64 0] 36)).alloc (.cells #[.int .i64 x0, .int .i64 x1, .int .i64 (m : Int), .int .i64 0] 36)).drew from ⟨rfl, rfl, rfl, Nat.le_refl _, fun _ _ => rfl⟩)
  have hz1 : ((w.alloc (.cells #[.int .i64 0, .int .i64 0, .int .i64 0, .int .i64 0] 36)).alloc (.cells #[.int .i64 x0, .int .i64 x1, .int .i64 (m : Int), .int .i64 0] 36)).drew.heap[w.heap.size]? = some (.cells #[.int .i64 0, .int .i64 0, .int .i64 0, .int .i64 0] 36 (0, 0)) := by
    show ((w.alloc _).alloc _).heap[_]? = _
    rw [Rk.heap_old _ _ (by simp), Rk.heap_last]
  have hz2 : ((w.alloc (.cells #[.int .i64 0, .int .i64 0, .int .i64 0, .int .i64 0] 36)).alloc (.cells #[.int .i64 x0, .int .i64 x1, .int .i64 (m : Int), .int .i64 0] 36)).drew.heap[w.heap.size + 1]? = some (.cells #[.int .i64 x0, .int .i64 x1, .int .i64 (m : Int), .int .i64 0] 36 (0, 0)) := by
    have := Rk.heap_last (w.alloc (.cells #[.int .i64 0, .int .i64 0, .int .i64 0, .int .i64 0] 36)) (.cells #[.int .i64 x0, .int .i64 x1, .int .i64 (m : Int), .int .i64 0] 36)
    rw [show (w.alloc (.cells #[.int .i64 0, .int .i64 0, .int .i64 0, .int .i64 0] 36)).heap.size = w.heap.size + 1 by simp] at this
    exact this
  generalize ((w.alloc (.cells #[.int .i64 0, .int .i64 0, .int .i64 0, .int .i64 0] 36)).alloc (.cells #[.int .i64 x0, .int .i64 x1, .int .i64 (m : Int), .int .i64 0] 36)).drew = W1 at *
  have hs1 : w.heap.size + 1 < W1.heap.size := Rk.lt_of_block hz2
  have HC := Lib.hid (compact_part X base g n cap off m W1 hO1 HO.out HX.out)
  have HZ1 := Lib.hid hz1
  have HZ2 := Lib.hid hz2
  have HG1 := Lib.hid hG1
  have HS1 := Lib.hid hs1
  clear hz1 hz2 hG1 hO1 hs1 a0 a1 b0 b1 c0 c1
  go_wp2_with fail
  refine HC.out.mono ?_
  rintro e w2 ⟨rfl, ⟨X', hX1, hX2, hX3⟩, hg2⟩
  have hz3 : w2.heap[w.heap.size]? = some (.cells #[.int .i64 0, .int .i64 0, .int .i64 0, .int .i64 0] 36 (0, 0)) := (grown_at hg2 (by have := HS1.out; omega) (by have := HG.out; omega)).trans HZ1.out
  have hz4 : w2.heap[w.heap.size + 1]? = some (.cells #[.int .i64 x0, .int .i64 x1, .int .i64 (m : Int), .int .i64 0] 36 (0, 0)) := (grown_at hg2 (by have := HS1.out; omega) (by have := HG.out; omega)).trans HZ2.out
  have f0 : w2.frozen? ⟨w.heap.size, 0, none⟩ = false := Lib.frozen_of_heap hz3 0
  have f1 : w2.frozen? ⟨w.heap.size, 1, none⟩ = false := Lib.frozen_of_heap hz3 1
  have f2 : w2.frozen? ⟨w.heap.size, 2, none⟩ = false := Lib.frozen_of_heap hz3 2
  have f3 : w2.frozen? ⟨w.heap.size, 3, none⟩ = false := Lib.frozen_of_heap hz3 3
  have q0 : w2.cell? ⟨w.heap.size, 0, none⟩ = some (.int .i64 0) := by rw [Lib.cell_of_heap hz3]; rfl
  have q1 : w2.cell? ⟨w.heap.size, 1, none⟩ = some (.int .i64 0) := by rw [Lib.cell_of_heap hz3]; rfl
  have q2 : w2.cell? ⟨w.heap.size, 2, none⟩ = some (.int .i64 0) := by rw [Lib.cell_of_heap hz3]; rfl
  have q3 : w2.cell? ⟨w.heap.size, 3, none⟩ = some (.int .i64 0) := by rw [Lib.cell_of_heap hz3]; rfl
  have d0 : w2.cell? ⟨w.heap.size + 1, 0, none⟩ = some (.int .i64 x0) := by rw [Lib.cell_of_heap hz4]; rfl
  have d1 : w2.cell? ⟨w.heap.size + 1, 1, none⟩ = some (.int .i64 x1) := by rw [Lib.cell_of_heap hz4]; rfl
  have d2 : w2.cell? ⟨w.heap.size + 1, 2, none⟩ = some (.int .i64 (m : Int)) := by rw [Lib.cell_of_heap hz4]; rfl
  have d3 : w2.cell? ⟨w.heap.size + 1, 3, none⟩ = some (.int .i64 0) := by rw [Lib.cell_of_heap hz4]; rfl
  have f4 : w2.frozen? ⟨w.heap.size + 1, 3, none⟩ = false := Lib.frozen_of_heap hz4 3
  obtain ⟨c, hc⟩ : ∃ c, c = (Lib.compact ((X.drop off).take m)).length := ⟨_, rfl⟩
  rw [← hc]
  have HCC := Lib.hid hc
  have HE : Hid (∃ X', Own w2 base (.slice (some ⟨g, 0, none⟩) n cap) X' ∧ X'.length = X.length ∧ X'.drop (off + m) = X.drop (off + m)) := Lib.hid ⟨X', hX1, hX2, hX3⟩
  have HGG : Hid (w.grownBy w2 (some g)) := Lib.hid (grown_then HG1.out hg2)
  clear hz3 hz4 hc hX1 hX2 hX3 hg2 HH
  go_wp2_with fail
  refine bodyPost_ret (v := .agg #[.int .i64 x0, .int .i64 x1, .int .i64 (m : Int), .int .i64 (c : Int)]) (by simp [results, Try.results28, go_sem, q0, q1, q2, q3]) rfl ⟨?_, ?_, ?_⟩
  · unfold bkOf encB
    rw [H0.out, HL.out, ← HK.out, H1.out, ← HCC.out]
  · obtain ⟨X', h1, h2, h3⟩ := HE.out
    have := HG.out
    have n0 : (Value.slice (some ⟨g, 0, none⟩) n cap).ownBlock ≠ some w.heap.size := by simp [Value.ownBlock]; omega
    have n1 : (Value.slice (some ⟨g, 0, none⟩) n cap).ownBlock ≠ some (w.heap.size + 1) := by simp [Value.ownBlock]; omega
    exact ⟨X', own_set_other (own_set_other (own_set_other (own_set_other (own_set_other h1 _ _ _ n1) _ _ _ n0) _ _ _ n0) _ _ _ n0) _ _ _ n0, h2, h3⟩
  · exact grown_set (grown_set (grown_set (grown_set (grown_set HGG.out (by simp)) (Nat.le_refl _)) (Nat.le_refl _)) (Nat.le_refl _)) (Nat.le_refl _)
end Ss
end Go.Proofs.Ytmkilmglmeohmaa
