/- What the package-level variables hold, as payload's calls ask it, and that it stays; the size of a kind. Conditions: those that each theorem names. -/
import Derived.Test.YtfppemgagifmpaaDoorPlN
import Derived.Lib.SmallJoins
import Derived.Shelf.Unicode.ValidAny
namespace Go.Proofs.YtfppemgagifmpaaDoor
set_option linter.unusedVariables false
open Go Go.RowKit Go.Shelf Pl

noncomputable def gN : Nat := Tryd.prog.globals.size
def Same8 (w W : World) : Prop := ∀ b, b < gN → W.heap[b]? = w.heap[b]?
/-- Of a kind: how many bytes its number has, its least and greatest number, how long its text is at most. -/
def szT : Nat → Int × Int × Int × Int
  | 1 => (8, -4503599627370496, 4503599627370496, 0)
  | 2 => (2, 0, 0, 256)
  | 3 => (1, 0, 1, 0)
  | _ => (0, 0, 0, 0)
structure Gp (w : World) : Prop where
  size : gN ≤ w.heap.size
  tab : ∀ W, Same8 w W → ∀ k, k < 4 → W.cell? ⟨0, k * 4, none⟩ = some (.int .i64 (szT k).1) ∧ W.cell? ⟨0, k * 4 + 1, none⟩ = some (.int .i64 (szT k).2.1) ∧
    W.cell? ⟨0, k * 4 + 2, none⟩ = some (.int .i64 (szT k).2.2.1) ∧ W.cell? ⟨0, k * 4 + 3, none⟩ = some (.int .i64 (szT k).2.2.2)
  utf : ∀ W, Same8 w W → Lib.Utf8Tabs 1 2 W
theorem Gp.keep {w w' : World} (h : Gp w) (hs : w.heap.size ≤ w'.heap.size) (hb : Same8 w w') : Gp w' := by
  obtain ⟨h0, h1, h2⟩ := h
  exact ⟨Nat.le_trans h0 hs, fun W hW => h1 W fun b hb' => (hW b hb').trans (hb b hb'), fun W hW => h2 W fun b hb' => (hW b hb').trans (hb b hb')⟩
theorem Gp.below {B : Nat} {w w' : World} (h : Gp w) (g : Below B w w') (hB : gN ≤ B) : Gp w' := h.keep g.size fun b hb => g.block b (Nat.lt_of_lt_of_le hb hB)
theorem Gp.fresh {w w' : World} (h : Gp w) (g : Below w.heap.size w w') : Gp w' := h.below g h.size
theorem Gp.drewN {w : World} (h : Gp w) (n : Nat) : Gp (w.drewN n) := h.keep (Nat.le_refl _) fun _ _ => rfl
theorem Gp.alloc {w : World} (h : Gp w) (o : Obj) : Gp (w.alloc o) := h.keep (by simp) fun b hb => Below.heap_alloc _ _ _ (Nat.lt_of_lt_of_le hb h.size)
theorem g_lt : 0 < gN := of_decide_eq_true (by kernel_rfl)
theorem heap_last (w : World) (o : Obj) : (w.alloc o).heap[w.heap.size]? = some o := by show (w.heap.push o)[w.heap.size]? = some o; simp
theorem cells4 (w : World) (a b c d : Value) (T : TypeId) : (w.alloc (.cells #[a, b, c, d] T)).cell? ⟨w.heap.size, 0, none⟩ = some a ∧ (w.alloc (.cells #[a, b, c, d] T)).cell? ⟨w.heap.size, 1, none⟩ = some b ∧
    (w.alloc (.cells #[a, b, c, d] T)).cell? ⟨w.heap.size, 2, none⟩ = some c ∧ (w.alloc (.cells #[a, b, c, d] T)).cell? ⟨w.heap.size, 3, none⟩ = some d := by
  have h := heap_last w (.cells #[a, b, c, d] T)
  refine ⟨?_, ?_, ?_, ?_⟩ <;> rw [Lib.cell_of_heap h] <;> rfl
set_option maxHeartbeats 1000000 in
set_option maxRecDepth 100000 in
theorem size_kind (k : Nat) (h1 : 1 ≤ k) (h3 : k < 4) (w : World) (G : Gp w) :
    Calls Tryd.prog 42 #[.int .i64 k] w fun e w' => e = .returned (.tuple #[.agg #[.int .i64 (szT k).1, .int .i64 (szT k).2.1, .int .i64 (szT k).2.2.1, .int .i64 (szT k).2.2.2], .bool true]) ∧ Below w.heap.size w w' := by
  have hc : ∀ o, _ := fun o => (G.alloc o).tab (w.alloc o) (fun _ _ => rfl) k h3
  generalize szT k = q at *
  obtain ⟨a, b, c, d⟩ := q
  have c0 : ∀ o, _ := fun o => (hc o).1
  have c1 : ∀ o, _ := fun o => (hc o).2.1
  have c2 : ∀ o, _ := fun o => (hc o).2.2.1
  have c3 : ∀ o, _ := fun o => (hc o).2.2.2
  clear hc
  have g1 := Nat.lt_of_lt_of_le g_lt G.size
  go_enter Tryd.func42, Tryd.ntmps42
  go_wp2_with fail
  obtain ⟨e0, e1, e2, e3⟩ := cells4 w (.int .i64 a) (.int .i64 b) (.int .i64 c) (.int .i64 d) 87
  refine bodyPost_ret (v := .tuple #[.agg #[.int .i64 a, .int .i64 b, .int .i64 c, .int .i64 d], .bool true]) (by simp [results, Tryd.results42, go_sem, e0, e1, e2, e3]) rfl ?_
  exact ⟨rfl, Below.alloc (Below.refl _ w) (Nat.le_refl _) _⟩
set_option maxHeartbeats 1000000 in
set_option maxRecDepth 100000 in
theorem size_none (k : Int) (h : k < 1 ∨ 4 ≤ k) (w : World) :
    Calls Tryd.prog 42 #[.int .i64 k] w fun e w' => e = .returned (.tuple #[.agg #[.int .i64 0, .int .i64 0, .int .i64 0, .int .i64 0], .bool false]) ∧ Below w.heap.size w w' := by
  obtain ⟨e0, e1, e2, e3⟩ := cells4 w (.int .i64 0) (.int .i64 0) (.int .i64 0) (.int .i64 0) 87
  rcases h with h | h
  all_goals
    go_enter Tryd.func42, Tryd.ntmps42
    go_wp2_with fail
    refine bodyPost_ret (v := .tuple #[.agg #[.int .i64 0, .int .i64 0, .int .i64 0, .int .i64 0], .bool false]) (by simp [results, Tryd.results42, go_sem, e0, e1, e2, e3]) rfl ?_
    exact ⟨rfl, Below.alloc (Below.refl _ w) (Nat.le_refl _) _⟩
end Go.Proofs.YtfppemgagifmpaaDoor
