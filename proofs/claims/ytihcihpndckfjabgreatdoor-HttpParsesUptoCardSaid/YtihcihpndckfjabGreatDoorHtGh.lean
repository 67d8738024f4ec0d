/- What the package-level variables of Go's library hold, as http's calls ask it, and that it stays. Conditions: none. -/
import Derived.Test.YtihcihpndckfjabGreatDoorHtE
import Derived.Lib.SmallJoins
namespace Go.Proofs.YtihcihpndckfjabGreatDoor
set_option linter.unusedVariables false
open Go Go.RowKit

noncomputable def gN : Nat := Tryz.prog.globals.size
def Same8 (w W : World) : Prop := ∀ b, b < gN → W.heap[b]? = w.heap[b]?
structure Gh (w : World) : Prop where
  size : gN ≤ w.heap.size
  mx : ∃ m, ∀ W, Same8 w W → W.cell? ⟨0, 0, none⟩ = some (.int .i64 m)
  syn : ∃ t p, ∀ W, Same8 w W → W.cell? ⟨3, 0, none⟩ = some (.iface t p)
  rng : ∃ t p, ∀ W, Same8 w W → W.cell? ⟨4, 0, none⟩ = some (.iface t p)
  pow : ∀ W, Same8 w W → Lib.TabIs Tryz.prog W "internal/strconv.uint64pow10" .u64 Lib.pow10Tab
theorem Gh.keep {w w' : World} (h : Gh w) (hs : w.heap.size ≤ w'.heap.size) (hb : Same8 w w') : Gh w' := by
  obtain ⟨h0, ⟨m, h5⟩, ⟨t, p, h1⟩, ⟨t', p', h2⟩, h3⟩ := h
  exact ⟨Nat.le_trans h0 hs, ⟨m, fun W hW => h5 W fun b hb' => (hW b hb').trans (hb b hb')⟩, ⟨t, p, fun W hW => h1 W fun b hb' => (hW b hb').trans (hb b hb')⟩, ⟨t', p', fun W hW => h2 W fun b hb' => (hW b hb').trans (hb b hb')⟩,
    fun W hW => h3 W fun b hb' => (hW b hb').trans (hb b hb')⟩
theorem Gh.below {w w' : World} (h : Gh w) (g : Below w.heap.size w w') : Gh w' := h.keep g.size fun b hb => g.block b (Nat.lt_of_lt_of_le hb h.size)
theorem Gh.drewN {w : World} (h : Gh w) (n : Nat) : Gh (w.drewN n) := h.keep (Nat.le_refl _) fun _ _ => rfl
theorem below_drewN (w : World) (n : Nat) : Below w.heap.size w (w.drewN n) := ⟨rfl, rfl, rfl, Nat.le_refl _, fun _ _ => rfl⟩
theorem below_then {w w1 w2 : World} (h : Below w.heap.size w w1) (k : Below w1.heap.size w1 w2) : Below w.heap.size w w2 := h.trans (k.mono h.size)
theorem below_grow (w : World) (k : Nat) (os : Array Obj) : Below w.heap.size w (Go.Sort.grow (w.drewN k) os) := by
  refine ⟨rfl, rfl, rfl, by show w.heap.size ≤ (w.heap ++ os).size; simp, fun b hb => ?_⟩
  show (w.heap ++ os)[b]? = w.heap[b]?
  rw [Array.getElem?_append_left hb]
end Go.Proofs.YtihcihpndckfjabGreatDoor
