/- payload's reader: take, number, text. Conditions: those that each theorem names. -/
import Derived.Test.YtfppemgagifmpaaDoorPlRp
import Derived.Test.YtfppemgagifmpaaDoorPlAp
import Derived.Test.YtfppemgagifmpaaDoorTx
namespace Go.Proofs.YtfppemgagifmpaaDoor
set_option linter.unusedVariables false
open Go Go.RowKit Go.Shelf Pl
/-- Only block R, of those that were there, has turned. -/
structure Kr (R : Nat) (w w' : World) : Prop where
  os : w'.os = w.os
  tape : w'.tape = w.tape
  output : w'.output = w.output
  size : w.heap.size ≤ w'.heap.size
  block : ∀ b, b < w.heap.size → b ≠ R → w'.heap[b]? = w.heap[b]?
theorem Kr.refl (R : Nat) (w : World) : Kr R w w := ⟨rfl, rfl, rfl, Nat.le_refl _, fun _ _ _ => rfl⟩
theorem Kr.trans {R : Nat} {w w1 w2 : World} (h : Kr R w w1) (k : Kr R w1 w2) : Kr R w w2 :=
  ⟨k.os.trans h.os, k.tape.trans h.tape, k.output.trans h.output, Nat.le_trans h.size k.size, fun b hb hn => (k.block b (Nat.lt_of_lt_of_le hb h.size) hn).trans (h.block b hb hn)⟩
theorem Kr.of {R : Nat} {w w' : World} (h : Below w.heap.size w w') : Kr R w w' := ⟨h.os, h.tape, h.output, h.size, fun b hb _ => h.block b hb⟩
theorem Kr.below {R : Nat} {w w' : World} (h : Kr R w w') {B : Nat} (hB : B ≤ R) (hs : B ≤ w.heap.size) : Below B w w' := ⟨h.os, h.tape, h.output, h.size, fun b hb => h.block b (Nat.lt_of_lt_of_le hb hs) (by omega)⟩
theorem setCell_row {w : World} {g k : Nat} {cs : Array Value} {T : TypeId} (h : w.heap[g]? = some (.cells cs T (0, 0))) (v : Value) : (w.setCell ⟨g, k, none⟩ v).heap[g]? = some (.cells (cs.setIfInBounds k v) T (0, 0)) := heap_setCell_same w g k cs T v h
theorem Kr.set {R : Nat} {w w' : World} (h : Kr R w w') (k : Nat) (v : Value) : Kr R w (w'.setCell ⟨R, k, none⟩ v) :=
  ⟨h.os, h.tape, h.output, by rw [show (w'.setCell ⟨R, k, none⟩ v).heap.size = w'.heap.size by simp [World.setCell]]; exact h.size, fun b hb hn => (heap_setCell_other _ _ _ _ (fun (e : b = R) => hn e)).trans (h.block b hb hn)⟩
theorem wrap_small {n : Nat} (h : n < 18446744073709551616) : IntKind.u64.wrap (n : Int) = (n : Int) := IntWalk.u64_in _ (by omega)
theorem numR_rest (K : Nat) (r : Rs) : (numR K r).2.rest.length ≤ r.rest.length := by
  unfold numR takeR
  by_cases c : r.rest.length < K
  · rw [if_pos c]; simp
  · rw [if_neg c]; simp
theorem takeR_len (K : Nat) (r : Rs) : (takeR K r).1.length ≤ r.rest.length ∧ (takeR K r).1.length ≤ K := by
  unfold takeR
  by_cases c : r.rest.length < K
  · rw [if_pos c]; simp
  · rw [if_neg c]; simp; omega
theorem numR_lt (K : Nat) (r : Rs) : (numR K r).1 < 256 ^ K := by
  have h1 := unfL_lt (takeR K r).1
  have h2 := (takeR_len K r).2
  have h3 : 256 ^ (takeR K r).1.length ≤ 256 ^ K := Nat.pow_le_pow_right (by decide) h2
  unfold numR
  simp only; omega
theorem i64_small {n : Nat} (h : n < 65536) : i64N n = (n : Int) := by unfold i64N; exact IntWalk.i64_in _ (by omega)
end Go.Proofs.YtfppemgagifmpaaDoor
