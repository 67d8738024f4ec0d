/- The program's Union, Inter, Diff over any rows. Conditions: those that each theorem names. -/
import Derived.Test.YtioidkbpjkcjeaaIdK
namespace Go.Proofs.Ytioidkbpjkcjeaa
set_option linter.unusedVariables false
open Go Go.RowKit Ids
set_option maxHeartbeats 1000000 in
theorem union_any (a b : List Int) (u v : Value) (w : World) (hu : IntsAt w u a) (hv : IntsAt w v b) (hl : a.length + b.length ≤ 17592186044415) :
    Calls Try.prog 27 #[u, v] w fun e w' => ∃ x, e = .returned x ∧ Own w' w.heap.size x (uniL a b) ∧ Below w.heap.size w w' := by
  have hb := below_new w (.cells #[.int .i64 1, .int .i64 2, .int .i64 3] 3)
  have C := pick_any a b [1, 2, 3] u v (.slice (some ⟨w.heap.size, 0, none⟩) 3 3) (w.alloc (.cells #[.int .i64 1, .int .i64 2, .int .i64 3] 3)) (hu.below hb) (hv.below hb) (new_ints w [1, 2, 3] 3 rfl) hl (by unfold maxLen; simp)
  rw [pick_union] at C
  have HC := Lib.hid C
  have HB := Lib.hid hb
  clear C hb hu hv hl
  go_enter Try.func27, Try.ntmps27
  go_wp2_with (go_at_call 34; refine HC.out.mono ?_; rintro e w' ⟨x, rfl, h1, h2⟩)
  go_ret
  exact ⟨_, rfl, own_base h1 (by simp), HB.out.trans (h2.mono HB.out.size)⟩
end Go.Proofs.Ytioidkbpjkcjeaa
