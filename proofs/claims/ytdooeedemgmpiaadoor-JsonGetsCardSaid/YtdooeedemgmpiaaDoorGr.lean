/- Which blocks of memory a call may turn: a frame over a set of blocks. Conditions: those that each theorem names. -/
import Derived.Test.YtdooeedemgmpiaaDoorRows
import Derived.WalkKit
import Derived.WalkSpells
import Derived.WalkLawsBesides
import Derived.Laws.Rows
import Derived.Lib.Hide
import Derived.BigRegion
import Derived.BigQuiet
import Derived.Deep.QuietTactic
import Derived.Outline
import Derived.StillTailTactics
import Derived.Deep.RegionHeld3
import Derived.Deep.LoopGhost
namespace Go.Proofs.YtdooeedemgmpiaaDoor
open Go Go.RowKit

structure Gr (S : Nat → Prop) (w w' : World) : Prop where
  os : w'.os = w.os
  tape : w'.tape = w.tape
  output : w'.output = w.output
  size : w.heap.size ≤ w'.heap.size
  block : ∀ b, b < w.heap.size → ¬ S b → w'.heap[b]? = w.heap[b]?
section
variable {S S' : Nat → Prop} {w w' w2 : World}
theorem Gr.refl (S : Nat → Prop) (w : World) : Gr S w w := ⟨rfl, rfl, rfl, Nat.le_refl _, fun _ _ _ => rfl⟩
theorem Gr.mono (h : Gr S w w') (hs : ∀ b, b < w.heap.size → S b → S' b) : Gr S' w w' := ⟨h.os, h.tape, h.output, h.size, fun b hb hn => h.block b hb (fun x => hn (hs b hb x))⟩
theorem Gr.trans (h : Gr S w w') (k : Gr S w' w2) : Gr S w w2 :=
  ⟨k.os.trans h.os, k.tape.trans h.tape, k.output.trans h.output, Nat.le_trans h.size k.size, fun b hb hn => (k.block b (Nat.lt_of_lt_of_le hb h.size) hn).trans (h.block b hb hn)⟩
theorem Gr.trans' (h : Gr S w w') (k : Gr S' w' w2) (hs : ∀ b, b < w.heap.size → S' b → S b) : Gr S w w2 :=
  ⟨k.os.trans h.os, k.tape.trans h.tape, k.output.trans h.output, Nat.le_trans h.size k.size, fun b hb hn => (k.block b (Nat.lt_of_lt_of_le hb h.size) (fun x => hn (hs b hb x))).trans (h.block b hb hn)⟩
theorem Gr.drew (h : Gr S w w') : Gr S w w'.drew := ⟨h.os, h.tape, h.output, h.size, h.block⟩
theorem drewN_heap (w : World) (n : Nat) : (w.drewN n).heap = w.heap := by rfl
theorem Gr.drewN (h : Gr S w w') (n : Nat) : Gr S w (w'.drewN n) := ⟨h.os, h.tape, h.output, h.size, h.block⟩
theorem Gr.alloc (h : Gr S w w') (o : Obj) : Gr S w (w'.alloc o) :=
  ⟨h.os, h.tape, h.output, by have := h.size; simp; omega, fun b hb hn => (Below.heap_alloc _ _ _ (Nat.lt_of_lt_of_le hb h.size)).trans (h.block b hb hn)⟩
theorem Gr.setCell (h : Gr S w w') {a : Addr} (ha : a.block < w.heap.size → S a.block) (u : Value) : Gr S w (w'.setCell a u) := by
  have hs : (w'.setCell a u).heap.size = w'.heap.size := by simp
  refine ⟨?_, ?_, ?_, by rw [hs]; exact h.size, fun b hb hn => ?_⟩
  · rw [← h.os]; unfold World.setCell; split <;> rfl
  · rw [← h.tape]; unfold World.setCell; split <;> rfl
  · rw [← h.output]; unfold World.setCell; split <;> rfl
  · rw [Below.heap_setCell _ _ _ _ (fun e => by subst e; exact hn (ha hb))]; exact h.block b hb hn
theorem Gr.grown (h : Gr S w w') {row : Option Nat} (hg : w'.grownBy w2 row) (hr : ∀ k, row = some k → k < w.heap.size → S k) : Gr S w w2 := by
  refine ⟨hg.os.trans h.os, hg.tape.trans h.tape, hg.output.trans h.output, Nat.le_trans h.size hg.size, fun b hb hn => ?_⟩
  exact (hg.block b (Nat.lt_of_lt_of_le hb h.size) (fun e => hn (hr b e.symm hb))).trans (h.block b hb hn)
theorem Gr.cell (h : Gr S w w') {p : Addr} (hp : p.block < w.heap.size) (hn : ¬ S p.block) : w'.cell? p = w.cell? p := World.cell?_of_block (w := w) (h.block p.block hp hn)
theorem Gr.frozen (h : Gr S w w') {p : Addr} (hp : p.block < w.heap.size) (hn : ¬ S p.block) : w'.frozen? p = w.frozen? p := World.frozen?_of_block (w := w) (h.block p.block hp hn)
theorem Gr.below (h : Gr S w w') {B : Nat} (hB : ∀ b, b < B → ¬ S b) (hs : B ≤ w.heap.size) : Below B w w' :=
  ⟨h.os, h.tape, h.output, h.size, fun k hk => h.block k (Nat.lt_of_lt_of_le hk hs) (hB k hk)⟩
theorem Gr.of_below {B : Nat} (h : Below B w w') (hs : ∀ b, B ≤ b → b < w.heap.size → S b) : Gr S w w' :=
  ⟨h.os, h.tape, h.output, h.size, fun b hb hn => h.block b (Nat.lt_of_not_le fun x => hn (hs b x hb))⟩
/-- A frame seen from a later world's start: what is new since then may turn. -/
theorem Gr.new (h : Gr S w w') (k : Gr (fun b => S b ∨ w.heap.size ≤ b) w' w2) : Gr S w w2 :=
  h.trans' k (fun b hb hs => hs.elim id fun x => absurd hb (Nat.not_lt.2 x))
end
/-- Nothing that was there turns. -/
def none' : Nat → Prop := fun _ => False
/-- One block may turn. -/
def one' (R : Nat) : Nat → Prop := fun b => b = R
theorem Gr.weak {S : Nat → Prop} {w w' : World} (h : Gr none' w w') : Gr S w w' := h.mono fun _ _ x => x.elim
end Go.Proofs.YtdooeedemgmpiaaDoor
