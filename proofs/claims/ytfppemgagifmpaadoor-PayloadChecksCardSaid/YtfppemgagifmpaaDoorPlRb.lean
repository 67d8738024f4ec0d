/- payload's reader: one part, a row of parts. Conditions: those that each theorem names. -/
import Derived.Test.YtfppemgagifmpaaDoorPlRa
import Derived.Test.YtfppemgagifmpaaDoorPlCq
namespace Go.Proofs.YtfppemgagifmpaaDoor
set_option linter.unusedVariables false
open Go Go.RowKit Go.Shelf Pl
/-- One element more behind an own row: the element lies in a new block of its own. -/
theorem append_el {w : World} {base n size bytes : Nat} {t e : TypeId} {z v : Value} {xs cs : List Value} (ht : Tryd.prog.underlying t = some (.slice e)) (hinfo : (Tryd.prog.info? e).map (fun i => (i.zero, i.size, i.bytes)) = some (some z, size, bytes)) (hzs : z.cells.size = size) (hsz : 0 < size)
    (hown : w.ownsRow base e size v n xs) (hcl : cs.length = size) (h1 : ∀ u ∈ cs, u.oneCell' = true) (hb : (n + 1) * bytes ≤ 140737488355328) (hm : n + 1 ≤ maxLen) (hbase : base ≤ w.heap.size) :
    ∃ v' w', (∀ ty, (Builtin.append_ #[t, t] ty #[v, .slice (some ⟨w.heap.size, 0, none⟩) 1 1]).run Tryd.prog (w.alloc (.cells cs.toArray e)) = .ok v' w') ∧ w'.ownsRow base e size v' (n + 1) (xs ++ cs) ∧ Below base w w' ∧
      (∀ j, j < w.heap.size → v.ownBlock ≠ some j → w'.heap[j]? = w.heap[j]?) ∧ w.heap.size < w'.heap.size ∧ (v'.ownBlock = v.ownBlock ∨ ∃ g, v'.ownBlock = some g ∧ w.heap.size < g) := by
  obtain ⟨i0, hi, hz0, hz1, hz2⟩ := info_parts hinfo
  have hg : (w.alloc (.cells cs.toArray e)).heap[w.heap.size]? = some (.cells cs.toArray e (0, 0)) := heap_last w _
  obtain ⟨v', w', hr, h2, h3, _, h5⟩ := run_append_own_at (P := Tryd.prog) (w.alloc (.cells cs.toArray e)) base t t e i0 _ size bytes ht hi hz0 hz1 hz2 hzs hsz v n xs (hown.alloc _) ⟨w.heap.size, 0, none⟩ 1 1 cs (by rw [hcl, Nat.one_mul])
    (fun j u hj => by
      rw [addr_at, Nat.zero_add, Lib.cell_of_heap hg]
      simpa using hj) h1 hm hb (by simp; omega)
  have hs : w.heap.size < w'.heap.size := by have := h3.size; simp at this; omega
  refine ⟨v', w', fun _ => hr, h2, ?_, fun j hj hne => ?_, hs, ?_⟩
  · exact ((Below.refl base w).alloc hbase _).grown h3 (by simp; omega) (fun g hg' => by
      rcases hown.2 with ⟨rfl, _⟩ | ⟨g2, cap, cur, rfl, hb2, _⟩
      · cases hg'
      · simp [Value.ownBlock] at hg'; omega)
  · rw [h3.block j (by simp; omega) (fun e => hne e.symm), heap_old w _ hj]
  · rcases h5 with h | h
    · exact .inl h
    · refine .inr ⟨_, h, by simp⟩
theorem many_step {α : Type} {f : Rs → α × Rs} {n j : Nat} {r1 rs : Rs} {done : List α} (h : manyR f n r1 = (done ++ (manyR f (n - j) rs).1, (manyR f (n - j) rs).2)) (hj : j < n) :
    manyR f n r1 = ((done ++ [(f rs).1]) ++ (manyR f (n - (j + 1)) (f rs).2).1, (manyR f (n - (j + 1)) (f rs).2).2) := by
  rw [h, show n - j = (n - (j + 1)) + 1 by omega]
  simp [manyR]
theorem partR_rest (r : Rs) : (partR r).2.rest.length ≤ r.rest.length := numR_rest 2 r
theorem manyR_len {α : Type} (f : Rs → α × Rs) : ∀ (n : Nat) (r : Rs), (manyR f n r).1.length = n
  | 0, _ => rfl
  | n + 1, r => by simp [manyR, manyR_len f n]
end Go.Proofs.YtfppemgagifmpaaDoor
