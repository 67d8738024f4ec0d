/- Rows of texts in memory, one's own and whoever's; a manifest as a value. Conditions: those that each theorem names. -/
import Derived.Test.YtkbdokakoapooaaGreatDoorMfA
import Derived.Test.YtkbdokakoapooaaGreatDoorMfNd
import Derived.Test.YtkbdokakoapooaaGreatDoorGaB
import Derived.WalkSpells
import Derived.WalkLawsBesides
import Derived.Laws.Rows
import Derived.Lib.Hide
import Derived.Lib.OwnBridge
import Derived.OwnWalk
import Derived.Maps.AppendAt
import Derived.Sort.EncStr
namespace Go.Proofs.YtkbdokakoapooaaGreatDoor
set_option linter.unusedVariables false
open Go Go.RowKit Go.Shelf Go.Sort
namespace Mf
theorem heap_new (w : World) (o : Obj) : (w.alloc o).heap[w.heap.size]? = some o := by show (w.heap.push o)[w.heap.size]? = some o; simp
theorem heap_old (w : World) (o : Obj) {k : Nat} (hk : k < w.heap.size) : (w.alloc o).heap[k]? = w.heap[k]? := Below.heap_alloc _ _ _ hk
theorem addr_at (g off j : Nat) : (⟨g, off, none⟩ : Addr).add j = ⟨g, off + j, none⟩ := by unfold Addr.add; split <;> simp_all
theorem wrap_up {n k : Nat} (h : n ≤ maxLen) (hk : k < n) : wrap64 ((k : Int) + 1) = ((k + 1 : Nat) : Int) := by
  unfold maxLen at h; unfold wrap64; omega
theorem int_down {n k : Nat} (h : k < n) : n - (intOf (.int .i64 ((k + 1 : Nat) : Int))).toNat < n - (intOf (.int .i64 (k : Int))).toNat := by
  simp only [intOf, Int.toNat_natCast]; omega
/-- A row of texts, whoever's it is. -/
def TxsAt (w : World) (v : Value) (L : List ByteArray) : Prop :=
  (L = [] ∧ ∃ p c, v = .slice p 0 c) ∨ ∃ g off c, v = .slice (some ⟨g, off, none⟩) L.length c ∧ g < w.heap.size ∧ L.length ≤ c ∧
    ∀ W : World, W.heap[g]? = w.heap[g]? → ∀ j (h : j < L.length), W.cell? ⟨g, off + j, none⟩ = some (.string L[j])
theorem TxsAt.below {w w' : World} {v : Value} {L : List ByteArray} (h : TxsAt w v L) (g : Below w.heap.size w w') : TxsAt w' v L := by
  rcases h with h | ⟨b, off, c, rfl, hb, hle, hc⟩
  · exact .inl h
  · exact .inr ⟨b, off, c, rfl, Nat.lt_of_lt_of_le hb g.size, hle, fun W hW => hc W (hW.trans (g.block b hb))⟩
theorem TxsAt.form {w : World} {v : Value} {L : List ByteArray} (h : TxsAt w v L) : ∃ p c, v = .slice p L.length c := by
  rcases h with ⟨rfl, p, c, rfl⟩ | ⟨g, off, c, rfl, _⟩
  · exact ⟨p, c, rfl⟩
  · exact ⟨_, c, rfl⟩
theorem txs_cell {w : World} {p : Option Addr} {n c : Nat} {L : List ByteArray} (h : TxsAt w (.slice p n c) L) {j : Nat} (hj : j < L.length) :
    ∃ g off, p = some ⟨g, off, none⟩ ∧ ∀ W, Below w.heap.size w W → W.cell? ⟨g, off + j, none⟩ = some (.string L[j]) := by
  rcases h with ⟨rfl, _⟩ | ⟨g, off, c2, hs, hg, hle, hc⟩
  · cases hj
  · injection hs with e1 e2 e3
    exact ⟨g, off, e1, fun W hW => hc W (hW.block g hg) j hj⟩
theorem infoTx : (Tryz.prog.info? 9).map (fun i => (i.zero, i.size, i.bytes)) = some (some (.string ⟨#[]⟩), 1, 16) := by kernel_rfl
def txs (L : List ByteArray) : List Value := L.map fun s => .string s
theorem txs_len (L : List ByteArray) : (txs L).length = L.length := by simp [txs]
theorem txs_enc (L : List ByteArray) : txs L = (L.map bl).map encStr := by
  unfold txs
  rw [List.map_map]
  refine List.map_congr_left fun s _ => ?_
  show Value.string s = Value.string ⟨(bl s).toArray⟩
  rw [mk_bl]
/-- A row of texts of one's own. -/
abbrev OwnT (w : World) (base : Nat) (v : Value) (L : List ByteArray) : Prop := w.ownsRow base 9 1 v L.length (txs L)
theorem OwnT.at {w : World} {base : Nat} {v : Value} {L : List ByteArray} (h : OwnT w base v L) : TxsAt w v L := by
  rcases h.2 with ⟨rfl, h0⟩ | ⟨g, cap, cur, rfl, hb, hg, h1, h2, h3, h4⟩
  · exact .inl ⟨List.length_eq_zero_iff.mp h0, none, 0, rfl⟩
  · refine .inr ⟨g, 0, cap, rfl, ?_, h1, fun W hW j hj => ?_⟩
    · rcases Nat.lt_or_ge g w.heap.size with c | c
      · exact c
      · rw [Array.getElem?_eq_none c] at hg; cases hg
    · rw [cell_of_row _ _ _ _ _ _ (hW.trans hg), Nat.zero_add]
      have hj1 : j < L.length * 1 := by omega
      have e : (cur.toList.take (L.length * 1))[j]? = (txs L)[j]? := by rw [h4]
      rw [List.getElem?_take, if_pos hj1] at e
      rw [Array.getElem?_toList] at e
      rw [e]
      simp [txs, hj]
theorem ownT_nil (w : World) (base : Nat) : OwnT w base (.slice none 0 0) [] := World.ownsRow_nil _ _ _ _
theorem append_no (w : World) (base : Nat) (v : Value) (n c : Nat) (xs : List Value) (hown : w.ownsRow base 9 1 v n xs) (ty : TypeId) :
    (Builtin.append_ #[59, 59] ty #[v, .slice none 0 c]).run Tryz.prog w = .ok v w := by
  obtain ⟨i0, hi, hz0, hz1, hz2⟩ := info_parts infoTx
  rcases hown.2 with ⟨rfl, rfl⟩ | ⟨g, cap, cur, rfl, _, _, hnc, _⟩
  · simp [Builtin.append_, run_underlying Tryz.underlying59, sizeOf, typeInfo, hi, Builtin.lenOf, Builtin.firstCells]
  · simp [Builtin.append_, run_underlying Tryz.underlying59, sizeOf, typeInfo, hi, Builtin.lenOf, Builtin.firstCells, hnc, storeCells]
/-- Behind an own row all of another row. -/
theorem append_row {w : World} {base : Nat} {v x : Value} {A B : List ByteArray} (h : OwnT w base v A) (hx : TxsAt w x B) (hb : A.length + B.length ≤ 4194304) (hbase : base ≤ w.heap.size) :
    ∃ v' w', (∀ ty, (Builtin.append_ #[59, 59] ty #[v, x]).run Tryz.prog w = .ok v' w') ∧ OwnT w' base v' (A ++ B) ∧ w.grownBy w' v.ownBlock ∧ (v'.ownBlock = v.ownBlock ∨ v'.ownBlock = some w.heap.size) := by
  obtain ⟨i0, hi, hz0, hz1, hz2⟩ := info_parts infoTx
  have key : ∀ (a : Addr) (c : Nat), (∀ j u, (txs B)[j]? = some u → w.cell? (a.add j) = some u) →
      ∃ v' w', (∀ ty, (Builtin.append_ #[59, 59] ty #[v, .slice (some a) B.length c]).run Tryz.prog w = .ok v' w') ∧ OwnT w' base v' (A ++ B) ∧ w.grownBy w' v.ownBlock ∧ (v'.ownBlock = v.ownBlock ∨ v'.ownBlock = some w.heap.size) := fun a c hc => by
    obtain ⟨v', w', hr, h2, h3, _, h5⟩ := run_append_own_at (P := Tryz.prog) w base 59 59 9 i0 _ 1 16 Tryz.underlying59 hi hz0 hz1 hz2 rfl (by decide) v A.length (txs A) h a B.length c (txs B) (by rw [txs_len, Nat.mul_one]) hc (fun u hu => by
      simp only [txs, List.mem_map] at hu
      obtain ⟨s, _, rfl⟩ := hu
      rfl) (by unfold maxLen; omega) (by omega) hbase
    refine ⟨v', w', fun _ => hr, ?_, h3, h5⟩
    show World.ownsRow _ _ _ _ _ _ _
    rw [List.length_append]
    simpa [txs] using h2
  rcases hx with ⟨rfl, p, c, rfl⟩ | ⟨g, off, c, rfl, hg, hle, hc⟩
  · cases p with
    | none =>
      refine ⟨v, w, fun ty => append_no w base v A.length c _ h ty, by rw [List.append_nil]; exact h, ⟨rfl, rfl, rfl, Nat.le_refl _, fun _ _ _ => rfl⟩, .inl rfl⟩
    | some a => exact key a c (fun j u hj => by cases hj)
  · exact key ⟨g, off, none⟩ c (fun j u hj => by
      rw [addr_at]
      have hj' : j < B.length := by
        have := (List.getElem?_eq_some_iff.1 hj).1
        rwa [txs_len] at this
      rw [hc w rfl j hj']
      simp [txs, hj'] at hj
      rw [hj])
/-- One text more behind an own row: the text lies in a new block of its own. -/
theorem append_text {w : World} {base : Nat} {v : Value} {A : List ByteArray} (x : ByteArray) (h : OwnT w base v A) (hb : A.length ≤ 2097152) (hbase : base ≤ w.heap.size) :
    ∃ v' w', (∀ ty, (Builtin.append_ #[59, 59] ty #[v, .slice (some ⟨w.heap.size, 0, none⟩) 1 1]).run Tryz.prog (w.alloc (.cells #[.string x] 9)) = .ok v' w') ∧ OwnT w' base v' (A ++ [x]) ∧ Below base w w' ∧
      (∀ j, j < w.heap.size → v.ownBlock ≠ some j → w'.heap[j]? = w.heap[j]?) ∧ w.heap.size < w'.heap.size ∧ (v'.ownBlock = v.ownBlock ∨ ∃ g, v'.ownBlock = some g ∧ w.heap.size < g) := by
  have hx : TxsAt (w.alloc (.cells #[.string x] 9)) (.slice (some ⟨w.heap.size, 0, none⟩) 1 1) [x] := by
    refine .inr ⟨w.heap.size, 0, 1, rfl, by simp, Nat.le_refl _, fun W hW j hj => ?_⟩
    have hj0 : j = 0 := by simpa using hj
    subst hj0
    rw [Lib.cell_of_heap (hW.trans (heap_new w _))]
    rfl
  obtain ⟨v', w', hr, h2, h3, h5⟩ := append_row (World.ownsRow.alloc h _) hx (by simp; omega) (by simp; omega)
  have hs : w.heap.size < w'.heap.size := by have := h3.size; simp at this; omega
  refine ⟨v', w', hr, h2, ?_, fun j hj hne => ?_, hs, ?_⟩
  · exact ((Below.refl base w).alloc hbase _).grown h3 (by simp; omega) (fun g hg' => by
      rcases h.2 with ⟨rfl, _⟩ | ⟨g2, cap, cur, rfl, hb2, _⟩
      · cases hg'
      · simp [Value.ownBlock] at hg'; omega)
  · rw [h3.block j (by simp; omega) (fun e => hne e.symm), heap_old w _ hj]
  · rcases h5 with h | h
    · exact .inl h
    · refine .inr ⟨_, h, by simp⟩
/-- A manifest as a value. -/
def MnAt (w : World) (v : Value) (m : Mn) : Prop := ∃ p c, v = .agg #[.slice p m.segs.length c, .string m.log, .int .i64 m.next, .int .i64 m.seq] ∧ TxsAt w (.slice p m.segs.length c) m.segs
theorem MnAt.below {w w' : World} {v : Value} {m : Mn} (h : MnAt w v m) (g : Below w.heap.size w w') : MnAt w' v m := by
  obtain ⟨p, c, e, h1⟩ := h
  exact ⟨p, c, e, h1.below g⟩
/-- What a manifest's parts may be as great as. -/
structure Small (m : Mn) : Prop where
  rows : m.segs.length ≤ 1048576
  log : m.log.size ≤ 16777215
  each : ∀ s ∈ m.segs, s.size ≤ 16777215
  n0 : -9223372036854775808 ≤ m.next
  n1 : m.next ≤ 9223372036854775807
  s0 : -9223372036854775808 ≤ m.seq
  s1 : m.seq ≤ 9223372036854775807
end Mf
end Go.Proofs.YtkbdokakoapooaaGreatDoor
