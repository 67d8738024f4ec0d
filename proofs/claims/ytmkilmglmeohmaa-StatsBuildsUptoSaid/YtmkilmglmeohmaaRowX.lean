/- Rows of whole numbers: where the numbers lie, one number appended. Conditions: those that each theorem names. -/
import Derived.Test.YtmkilmglmeohmaaRowI
namespace Go.Proofs.Ytmkilmglmeohmaa
set_option linter.unusedVariables false
open Go Go.RowKit
namespace Rx
/-- Where the numbers of a row lie, in every world that keeps it. -/
theorem row_cells {w : World} {p : Option Addr} {c n : Nat} {L : List Int} (h : IntsAt w (.slice p n c) L) : ∀ k (hk : k < L.length), ∃ b off, p = some ⟨b, off, none⟩ ∧ b < w.heap.size ∧ ∀ wr, Below w.heap.size w wr → wr.cell? ⟨b, off + k, none⟩ = some (.int .i64 L[k]) := by
  intro k hk
  rcases h with ⟨h0, _⟩ | ⟨b, off, c2, e, hb, hc⟩
  · subst h0; simp at hk
  · injection e with e1
    exact ⟨b, off, e1, hb, fun wr hw => hc wr (hw.block b hb) k hk⟩
theorem own_nil (w : World) (base : Nat) : Own w base (.slice none 0 0) [] := World.ownsRow_nil _ _ _ _
theorem one_int (w : World) (x : Int) : IntsAt (w.alloc (.cells #[.int .i64 x] 3)) (.slice (some ⟨w.heap.size, 0, none⟩) 1 1) [x] := new_ints w [x] 1 rfl
/-- One number behind an own row. -/
theorem append_one {w : World} {base : Nat} {v : Value} {A : List Int} (x : Int) (h : Own w base v A) (hb : (A.length + 1) * 8 ≤ 140737488355328) (hbase : base ≤ w.heap.size) :
    ∃ v' w', (∀ ty, (Builtin.append_ #[22, 22] ty #[v, .slice (some ⟨w.heap.size, 0, none⟩) 1 1]).run Try.prog (w.alloc (.cells #[.int .i64 x] 3)) = .ok v' w') ∧ Own w' base v' (A ++ [x]) ∧ Below base w w' := by
  obtain ⟨v', w', hr, ho, hg⟩ := append_ints (own_below h (below_new w (.cells #[.int .i64 x] 3))) (one_int w x) (by simpa using hb) (by simp; omega)
  exact ⟨v', w', hr, ho, ((Below.refl base w).alloc hbase _).grown hg (by simp; omega) (fun j hj => (h.block j hj).1)⟩
end Rx
end Go.Proofs.Ytmkilmglmeohmaa
