/- A new row of structs, all of them nought. Conditions: those that each theorem names. -/
import Derived.Test.YtfgmkdghpdpdkaaRk
import Derived.Laws.MakeOwn
namespace Go.Proofs.Ytfgmkdghpdpdkaa
set_option linter.unusedVariables false
open Go Go.RowKit
namespace Rk
section
variable {α : Type} {P : Program} {enc : α → List Value} {k T ST b : Nat}
theorem made_cells (F : Flat P enc k T ST b) (x : α) (z : Array Value) (hz : z.toList = enc x) (n : Nat) : madeCells z (n * k) = (rowC enc (List.replicate n x)).toArray := by
  have hk : z.size = k := by rw [← Array.length_toList, hz, F.len]
  apply Array.ext_getElem?
  intro j
  rcases Nat.lt_or_ge j (n * k) with hj | hj
  · obtain ⟨q, r, hr, hq, rfl⟩ := place hj
    have h1 : (q * k + r) % k = r := by rw [Nat.mul_comm, Nat.mul_add_mod, Nat.mod_eq_of_lt hr]
    have h2 := rowC_at F (List.replicate n x) q (by simpa using hq) r hr
    have h3 : (rowC enc (List.replicate n x)).toArray[q * k + r]? = (rowC enc (List.replicate n x))[q * k + r]? := by simp
    rw [h3, h2]
    have hrz : r < z.size := by omega
    have hre : r < (enc x).length := by rw [F.len]; exact hr
    have e : z[r] = (enc x)[r] := by simp only [← hz, Array.getElem_toList]
    simp [madeCells, hj, hk, h1, getElem!_pos z r hrz, hr, e, hre]
  · rw [Array.getElem?_eq_none (by rw [size_madeCells]; exact hj), Array.getElem?_eq_none (by rw [List.size_toArray, rowC_len F]; simpa using hj)]
/-- make of so many. -/
theorem make_own (F : Flat P enc k T ST b) (i0 : TypeInfo) (z : Value) (hi : P.info? T = some i0) (hz0 : i0.zero = some z) (hz1 : i0.size = k) (hz2 : i0.bytes = b) (x : α) (hx : z.cells.toList = enc x) (n : Nat) (hb : b * n ≤ 281474976710656) (hm : n ≤ maxLen) (w : World) (base : Nat) (hbase : base ≤ w.heap.size) :
    ∃ o, (Instr.makeSlice ST (.int .i64 (n : Int)) (.int .i64 (n : Int))).run P w = .ok (.slice (some ⟨w.heap.size, 0, none⟩) n n) (w.alloc o) ∧ Own enc k T (w.alloc o) base (.slice (some ⟨w.heap.size, 0, none⟩) n n) (List.replicate n x) := by
  have hm' : (n : Int) ≤ 9223372036854775807 := by unfold maxLen at hm; omega
  have hr := run_make (P := P) w ST T i0 z F.under hi hz0 .i64 .i64 n n (by omega) (Int.le_refl _) (by rw [hz2, ← Int.natCast_mul]; omega) hm'
  rw [hz1, Int.toNat_natCast, made_cells F x _ hx] at hr
  refine ⟨_, hr, ?_⟩
  have hl : (rowC enc (List.replicate n x)).length = n * k := by rw [rowC_len F]; simp
  show World.ownsRow _ _ _ _ _ _ _
  rw [List.length_replicate]
  refine ⟨hl, .inr ⟨w.heap.size, n, (rowC enc (List.replicate n x)).toArray, rfl, hbase, heap_last w _, Nat.le_refl _, hm, by simpa using hl, ?_⟩⟩
  rw [List.take_of_length_le (by simp; omega)]
theorem own_put (F : Flat P enc k T ST b) {w : World} {base g n cap : Nat} {L : List α} (h : Own enc k T w base (.slice (some ⟨g, 0, none⟩) n cap) L) (i : Nat) (hi : i < L.length) (x : α) :
    Own enc k T (w.setCells g (i * k) (enc x)) base (.slice (some ⟨g, 0, none⟩) n cap) (L.set i x) := by
  obtain rfl : n = L.length := by
    rcases h.2 with ⟨e, _⟩ | ⟨g2, cap2, cur, e, _⟩
    · cases e
    · injection e
  exact own_set F h i hi x
end
end Rk
end Go.Proofs.Ytfgmkdghpdpdkaa
