/- payload's Same. Conditions: those that each theorem names. -/
import Derived.Test.YtfppemgagifmpaaDoorPlSn
namespace Go.Proofs.YtfppemgagifmpaaDoor
set_option linter.unusedVariables false
open Go Go.RowKit Go.Shelf Pl
theorem pt_eq {a b : Pt} : a = b ↔ a.id = b.id ∧ a.vecs = b.vecs ∧ a.flds = b.flds := by
  obtain ⟨i, v, f⟩ := a
  obtain ⟨j, u, g⟩ := b
  simp only [Pt.mk.injEq]
theorem isB_pt (a b : Pt) : isB (a = b) = ((a.id == b.id) && (isB (a.vecs = b.vecs) && isB (a.flds = b.flds))) := isB_of (by rw [pt_eq]; simp only [Bool.and_eq_true, isB_iff, beq_iff_eq])
/-- A point that lies in a box. -/
theorem three_boxes (w : World) (a b c a' b' c' : Value) (T : TypeId) :
    (((w.alloc (.cells #[a, b, c] T)).alloc (.cells #[a', b', c'] T)).cell? ⟨w.heap.size, 0, none⟩ = some a ∧ ((w.alloc (.cells #[a, b, c] T)).alloc (.cells #[a', b', c'] T)).cell? ⟨w.heap.size, 1, none⟩ = some b ∧ ((w.alloc (.cells #[a, b, c] T)).alloc (.cells #[a', b', c'] T)).cell? ⟨w.heap.size, 2, none⟩ = some c) ∧
    (((w.alloc (.cells #[a, b, c] T)).alloc (.cells #[a', b', c'] T)).cell? ⟨w.heap.size + 1, 0, none⟩ = some a' ∧ ((w.alloc (.cells #[a, b, c] T)).alloc (.cells #[a', b', c'] T)).cell? ⟨w.heap.size + 1, 1, none⟩ = some b' ∧ ((w.alloc (.cells #[a, b, c] T)).alloc (.cells #[a', b', c'] T)).cell? ⟨w.heap.size + 1, 2, none⟩ = some c') ∧
    Below w.heap.size w ((w.alloc (.cells #[a, b, c] T)).alloc (.cells #[a', b', c'] T)) := by
  have h1 := heap_last (w.alloc (.cells #[a, b, c] T)) (.cells #[a', b', c'] T)
  rw [show (w.alloc (.cells #[a, b, c] T)).heap.size = w.heap.size + 1 by simp] at h1
  exact ⟨cells3_of ((heap_old _ _ (by simp)).trans (heap_last _ _)), cells3_of h1, (fresh_alloc w _).alloc (by simp) _⟩
theorem box_later {w W X : World} {g i : Nat} {v : Value} (h : W.cell? ⟨g, i, none⟩ = some v) (hb : Below W.heap.size W X) (hg : g < W.heap.size) : X.cell? ⟨g, i, none⟩ = some v := by
  rw [← h]; exact World.cell?_of_block (w := W) (hb.block g hg)
end Go.Proofs.YtfppemgagifmpaaDoor
