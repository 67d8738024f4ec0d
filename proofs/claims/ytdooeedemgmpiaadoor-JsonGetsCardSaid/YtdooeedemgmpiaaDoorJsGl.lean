/- What the package-level variables of Go's library hold, and that it stays. Conditions: none. -/
import Derived.Test.YtdooeedemgmpiaaDoorJsRd
import Derived.Lib.SmallJoins
import Derived.Shelf.Unicode.ValidAny
namespace Go.Proofs.YtdooeedemgmpiaaDoor
set_option linter.unusedVariables false
open Go Go.RowKit

/-- How many variables there are: the first blocks of memory. -/
noncomputable def gN : Nat := Tryd.prog.globals.size
def Same8 (w W : World) : Prop := ∀ b, b < gN → W.heap[b]? = w.heap[b]?
structure Gl (w : World) : Prop where
  size : gN ≤ w.heap.size
  syn : ∃ t p, ∀ W, Same8 w W → W.cell? ⟨4, 0, none⟩ = some (.iface t p)
  rng : ∃ t p, ∀ W, Same8 w W → W.cell? ⟨5, 0, none⟩ = some (.iface t p)
  pow : ∀ W, Same8 w W → Lib.TabIs Tryd.prog W "internal/strconv.uint64pow10" .u64 Lib.pow10Tab
  utf : ∀ W, Same8 w W → Lib.Utf8Tabs 0 1 W
theorem Gl.keep {w w' : World} (h : Gl w) (hs : w.heap.size ≤ w'.heap.size) (hb : Same8 w w') : Gl w' := by
  obtain ⟨h0, ⟨t, p, h1⟩, ⟨t', p', h2⟩, h3, h4⟩ := h
  exact ⟨Nat.le_trans h0 hs, ⟨t, p, fun W hW => h1 W fun b hb' => (hW b hb').trans (hb b hb')⟩, ⟨t', p', fun W hW => h2 W fun b hb' => (hW b hb').trans (hb b hb')⟩,
    fun W hW => h3 W fun b hb' => (hW b hb').trans (hb b hb'), fun W hW => h4 W fun b hb' => (hW b hb').trans (hb b hb')⟩
theorem Gl.gr {S : Nat → Prop} {w w' : World} (h : Gl w) (g : Gr S w w') (hS : ∀ b, b < gN → ¬ S b) : Gl w' :=
  h.keep g.size fun b hb => g.block b (Nat.lt_of_lt_of_le hb h.size) (hS b hb)
theorem Gl.one {R : Nat} {w w' : World} (h : Gl w) (g : Gr (one' R) w w') (hR : gN ≤ R) : Gl w' := h.gr g fun b hb e => by unfold one' at e; omega
theorem Gl.weak {w w' : World} (h : Gl w) (g : Gr none' w w') : Gl w' := h.gr g fun b hb e => e
theorem Gl.drewN {w : World} (h : Gl w) (n : Nat) : Gl (w.drewN n) := h.keep (Nat.le_refl _) fun _ _ => rfl
theorem Gl.alloc {w : World} (h : Gl w) (o : Obj) : Gl (w.alloc o) := h.keep (by simp) fun b hb => Below.heap_alloc _ _ _ (Nat.lt_of_lt_of_le hb h.size)
end Go.Proofs.YtdooeedemgmpiaaDoor
