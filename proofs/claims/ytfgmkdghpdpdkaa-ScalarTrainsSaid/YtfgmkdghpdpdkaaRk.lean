/- Rows of structs of k cells in memory, whoever's and one's own: reading, appends, stores, cuts. Conditions: those that each theorem names. -/
import Derived.Test.YtfgmkdghpdpdkaaProg
import Derived.WalkKit
import Derived.WalkSpells
import Derived.WalkLawsBesides
import Derived.Laws.Rows
import Derived.Laws.OwnMore
import Derived.Lib.Hide
import Derived.OwnWalk
import Derived.Maps.AppendAt
import Derived.Lib.SmallJoins
namespace Go.Proofs.Ytfgmkdghpdpdkaa
set_option linter.unusedVariables false
open Go Go.RowKit
namespace Rk
theorem heap_last (w : World) (o : Obj) : (w.alloc o).heap[w.heap.size]? = some o := by show (w.heap.push o)[w.heap.size]? = some o; simp
theorem heap_old (w : World) (o : Obj) {k : Nat} (hk : k < w.heap.size) : (w.alloc o).heap[k]? = w.heap[k]? := Below.heap_alloc _ _ _ hk
theorem fresh_alloc (w : World) (o : Obj) : Below w.heap.size w (w.alloc o) := Below.alloc (Below.refl _ w) (Nat.le_refl _) o
theorem lt_of_block {w : World} {g : Nat} {o : Obj} (h : w.heap[g]? = some o) : g < w.heap.size := (Array.getElem?_eq_some_iff.1 h).1
theorem addr_at (g off j : Nat) : (⟨g, off, none⟩ : Addr).add j = ⟨g, off + j, none⟩ := by unfold Addr.add; split <;> simp_all
/-- How an element of a row lies: enc its cells, k how many, T its type, ST the slice's, b its bytes. -/
structure Flat {α : Type} (P : Program) (enc : α → List Value) (k T ST b : Nat) : Prop where
  under : P.underlying ST = some (.slice T)
  info : ∃ i0 z, P.info? T = some i0 ∧ i0.zero = some z ∧ i0.size = k ∧ i0.bytes = b ∧ z.cells.size = k
  pos : 0 < k
  len : ∀ x, (enc x).length = k
  one : ∀ x, ∀ u ∈ enc x, u.oneCell' = true
theorem info_of {P : Program} {e : TypeId} {z : Value} {n b : Nat} (h : (P.info? e).map (fun i => (i.zero, i.size, i.bytes)) = some (some z, n, b)) (hz : z.cells.size = n) : ∃ i z, P.info? e = some i ∧ i.zero = some z ∧ i.size = n ∧ i.bytes = b ∧ z.cells.size = n := by
  cases hi : P.info? e with
  | none => rw [hi] at h; cases h
  | some i =>
    rw [hi] at h
    simp only [Option.map_some, Option.some.injEq, Prod.mk.injEq] at h
    exact ⟨i, z, rfl, h.1, h.2.1, h.2.2, hz⟩
section
variable {α : Type} {P : Program} {enc : α → List Value} {k T ST b : Nat}
def rowC (enc : α → List Value) (L : List α) : List Value := L.flatMap enc
theorem rowC_add (A B : List α) : rowC enc (A ++ B) = rowC enc A ++ rowC enc B := by simp [rowC]
theorem rowC_cons (x : α) (B : List α) : rowC enc (x :: B) = enc x ++ rowC enc B := by simp [rowC]
theorem rowC_len (F : Flat P enc k T ST b) (L : List α) : (rowC enc L).length = L.length * k := by
  induction L with
  | nil => simp [rowC]
  | cons p r ih => rw [rowC_cons, List.length_append, ih, F.len, List.length_cons, Nat.add_mul]; omega
theorem rowC_one (F : Flat P enc k T ST b) (L : List α) : ∀ u ∈ rowC enc L, u.oneCell' = true := fun u hu => by
  simp only [rowC, List.mem_flatMap] at hu
  obtain ⟨f, _, hf⟩ := hu
  exact F.one f u hf
theorem rowC_at (F : Flat P enc k T ST b) : ∀ (L : List α) (j : Nat) (h : j < L.length) (i : Nat), i < k → (rowC enc L)[j * k + i]? = (enc L[j])[i]?
  | x :: r, 0, _, i, hi => by
    rw [rowC_cons, Nat.zero_mul, Nat.zero_add, List.getElem?_append_left (by rw [F.len]; exact hi)]; rfl
  | x :: r, j + 1, h, i, hi => by
    rw [rowC_cons, List.getElem?_append_right (by rw [F.len, Nat.add_mul]; omega), F.len, show (j + 1) * k + i - k = j * k + i by rw [Nat.add_mul]; omega, rowC_at F r j (by simpa using h) i hi]
    rfl
theorem place {j n k : Nat} (h : j < n * k) : ∃ q r, r < k ∧ q < n ∧ j = q * k + r := by
  have hk : 0 < k := by
    rcases Nat.eq_zero_or_pos k with h0 | h0
    · subst h0; simp at h
    · exact h0
  have h1 := Nat.mod_lt j hk
  have h2 := Nat.div_add_mod j k
  rw [Nat.mul_comm] at h2
  exact ⟨j / k, j % k, h1, (Nat.div_lt_iff_lt_mul hk).2 h, h2.symm⟩
/-- A row. -/
def RowAt (enc : α → List Value) (k : Nat) (w : World) (v : Value) (L : List α) : Prop :=
  (L = [] ∧ ∃ p c, v = .slice p 0 c) ∨ ∃ g off c, v = .slice (some ⟨g, off, none⟩) L.length c ∧ g < w.heap.size ∧
    ∀ W : World, W.heap[g]? = w.heap[g]? → ∀ j (h : j < L.length) i u, (enc L[j])[i]? = some u → W.cell? ⟨g, off + j * k + i, none⟩ = some u
theorem RowAt.below {w w' : World} {v : Value} {L : List α} (h : RowAt enc k w v L) (g : Below w.heap.size w w') : RowAt enc k w' v L := by
  rcases h with h | ⟨b, off, c, rfl, hb, hc⟩
  · exact .inl h
  · exact .inr ⟨b, off, c, rfl, Nat.lt_of_lt_of_le hb g.size, fun W hW => hc W (hW.trans (g.block b hb))⟩
theorem RowAt.kept {w w' : World} {v : Value} {L : List α} (h : RowAt enc k w v L) (hs : w.heap.size ≤ w'.heap.size) (g : ∀ b, v.ownBlock = some b → b < w.heap.size → w'.heap[b]? = w.heap[b]?) : RowAt enc k w' v L := by
  rcases h with h | ⟨b, off, c, rfl, hb, hc⟩
  · exact .inl h
  · exact .inr ⟨b, off, c, rfl, Nat.lt_of_lt_of_le hb hs, fun W hW => hc W (hW.trans (g b rfl hb))⟩
theorem RowAt.form {w : World} {v : Value} {L : List α} (h : RowAt enc k w v L) : ∃ p c, v = .slice p L.length c := by
  rcases h with ⟨rfl, p, c, rfl⟩ | ⟨g, off, c, rfl, hg, _⟩
  · exact ⟨p, c, rfl⟩
  · exact ⟨_, c, rfl⟩
/-- A row of one's own. -/
abbrev Own (enc : α → List Value) (k T : Nat) (w : World) (base : Nat) (v : Value) (L : List α) : Prop := w.ownsRow base T k v L.length (rowC enc L)
theorem own_form {w : World} {base : Nat} {v : Value} {L : List α} (h : Own enc k T w base v L) (h0 : 0 < L.length) : ∃ g cap, v = .slice (some ⟨g, 0, none⟩) L.length cap ∧ base ≤ g ∧ g < w.heap.size := by
  rcases h.2 with ⟨_, h1⟩ | ⟨g, cap, cur, rfl, hb, hg, _⟩
  · omega
  · exact ⟨g, cap, rfl, hb, lt_of_block hg⟩
theorem own_row (F : Flat P enc k T ST b) {w : World} {base : Nat} {v : Value} {L : List α} (h : Own enc k T w base v L) : RowAt enc k w v L := by
  rcases h.2 with ⟨rfl, h0⟩ | ⟨g, cap, cur, rfl, hb, hg, h1, h2, h3, h4⟩
  · exact .inl ⟨List.length_eq_zero_iff.mp h0, _, _, rfl⟩
  · refine .inr ⟨g, 0, cap, rfl, lt_of_block hg, fun W hW j hj i u hu => ?_⟩
    have hi : i < k := by rw [← F.len L[j]]; exact (List.getElem?_eq_some_iff.1 hu).1
    have hlt : j * k + i < L.length * k := by have := Nat.mul_le_mul_right k (show j + 1 ≤ L.length from hj); rw [Nat.add_mul] at this; omega
    rw [cell_of_row _ _ _ _ _ _ (hW.trans hg), Nat.zero_add, ← hu, ← rowC_at F L j hj i hi, ← h4, List.getElem?_take, if_pos hlt, Array.getElem?_toList]
theorem own_block {w : World} {base : Nat} {v : Value} {L : List α} (h : Own enc k T w base v L) (g : Nat) (hg : v.ownBlock = some g) : base ≤ g ∧ g < w.heap.size := h.lt g hg
theorem own_le {w : World} {base b2 : Nat} {v : Value} {L : List α} (h : Own enc k T w base v L) (hb : b2 ≤ base) : Own enc k T w b2 v L := Go.Joins.ownsRow_le h hb
theorem own_keep {w w' : World} {base : Nat} {v : Value} {L : List α} (h : Own enc k T w base v L) (hk : ∀ g, v.ownBlock = some g → g < w.heap.size → w'.heap[g]? = w.heap[g]?) : Own enc k T w' base v L := by
  refine ⟨h.1, ?_⟩
  rcases h.2 with h0 | ⟨g, cap, cur, rfl, h1, hg, h2⟩
  · exact .inl h0
  · exact .inr ⟨g, cap, cur, rfl, h1, (hk g rfl (lt_of_block hg)).trans hg, h2⟩
theorem own_below {w w' : World} {base : Nat} {v : Value} {L : List α} (h : Own enc k T w base v L) (hb : Below w.heap.size w w') : Own enc k T w' base v L := own_keep h fun g _ hg => hb.block g hg
theorem own_none (w : World) (base : Nat) : Own enc k T w base (.slice none 0 0) [] := World.ownsRow_nil _ _ _ _
/-- The cells of a row, one by one. -/
theorem row_cells (F : Flat P enc k T ST b) {w : World} {L : List α} {g off : Nat} (hc : ∀ j (h : j < L.length) i u, (enc L[j])[i]? = some u → w.cell? ⟨g, off + j * k + i, none⟩ = some u) :
    ∀ j u, (rowC enc L)[j]? = some u → w.cell? ⟨g, off + j, none⟩ = some u := by
  intro j u hj
  have hjl := (List.getElem?_eq_some_iff.1 hj).1
  rw [rowC_len F] at hjl
  obtain ⟨q, r, hr, hq, rfl⟩ := place hjl
  rw [rowC_at F L q hq r hr] at hj
  rw [← Nat.add_assoc]
  exact hc q hq r u hj
/-- A row behind one's own. -/
theorem append_row (F : Flat P enc k T ST b) {w : World} {base : Nat} {v src : Value} {A B : List α} (hown : Own enc k T w base v A) (hs : RowAt enc k w src B) (hb : (A.length + B.length) * b ≤ 140737488355328) (hm : A.length + B.length ≤ maxLen) (hbase : base ≤ w.heap.size) :
    ∃ v' w', (∀ ty, (Builtin.append_ #[ST, ST] ty #[v, src]).run P w = .ok v' w') ∧ Own enc k T w' base v' (A ++ B) ∧ w.grownBy w' v.ownBlock ∧ (v'.ownBlock = v.ownBlock ∨ v'.ownBlock = some w.heap.size) ∧ (v' = .slice none 0 0 → v = .slice none 0 0 ∧ B = []) := by
  obtain ⟨i0, z, hi, hz0, hz1, hz2, hz3⟩ := F.info
  have hfrom : ∀ (ad : Addr) (c : Nat), (∀ j u, (rowC enc B)[j]? = some u → w.cell? (ad.add j) = some u) → ∃ v' w', (∀ ty, (Builtin.append_ #[ST, ST] ty #[v, .slice (some ad) B.length c]).run P w = .ok v' w') ∧ Own enc k T w' base v' (A ++ B) ∧ w.grownBy w' v.ownBlock ∧ (v'.ownBlock = v.ownBlock ∨ v'.ownBlock = some w.heap.size) ∧ (v' = .slice none 0 0 → v = .slice none 0 0 ∧ B = []) := by
    intro ad c hc
    obtain ⟨v', w', hr, h2, h3, h4, h5⟩ := run_append_own_at (P := P) w base ST ST T i0 z k b F.under hi hz0 hz1 hz2 hz3 F.pos v A.length (rowC enc A) hown ad B.length c (rowC enc B) (rowC_len F B) hc (rowC_one F B) hm hb hbase
    exact ⟨v', w', fun _ => hr, by show w'.ownsRow _ _ _ _ _ _; rw [rowC_add, List.length_append]; exact h2, h3, h5, fun e => ⟨(h4.1 e).1, List.length_eq_zero_iff.mp (h4.1 e).2⟩⟩
  rcases hs with ⟨rfl, q, c, rfl⟩ | ⟨g, off, c, rfl, hg, hc⟩
  · cases q with
    | none =>
      refine ⟨v, w, fun ty => ?_, by simpa using hown, ⟨rfl, rfl, rfl, Nat.le_refl _, fun _ _ _ => rfl⟩, .inl rfl, fun e => ⟨e, rfl⟩⟩
      rcases hown.2 with ⟨rfl, h0⟩ | ⟨g, cap, cur, rfl, _, hg, h1, _⟩
      · simp [Builtin.append_, run_underlying F.under, sizeOf, typeInfo, hi, Builtin.lenOf, Builtin.firstCells]
      · simp [Builtin.append_, run_underlying F.under, sizeOf, typeInfo, hi, Builtin.lenOf, Builtin.firstCells, storeCells, h1]
    | some ad => exact hfrom ad c (fun j u hj => by simp [rowC] at hj)
  · exact hfrom ⟨g, off, none⟩ c (fun j u hj => by rw [addr_at]; exact row_cells F (hc w rfl) j u hj)
/-- One element behind one's own row: it lies in a block of its own. -/
theorem row_one (F : Flat P enc k T ST b) {w : World} {g : Nat} {x : α} {m : Nat × Nat} (hg : w.heap[g]? = some (.cells (enc x).toArray T m)) (c : Nat) : RowAt enc k w (.slice (some ⟨g, 0, none⟩) 1 c) [x] :=
  .inr ⟨g, 0, c, rfl, lt_of_block hg, fun W hW j hj i u hu => by
    obtain rfl : j = 0 := by simpa using hj
    rw [Lib.cell_of_heap (hW.trans hg)]
    simpa using hu⟩
theorem append_el (F : Flat P enc k T ST b) {w : World} {base g : Nat} {v : Value} {A : List α} {x : α} {m : Nat × Nat} (hown : Own enc k T w base v A) (hg : w.heap[g]? = some (.cells (enc x).toArray T m))
    (hb : (A.length + 1) * b ≤ 140737488355328) (hm : A.length + 1 ≤ maxLen) (hbase : base ≤ w.heap.size) :
    ∃ v' w', (∀ ty, (Builtin.append_ #[ST, ST] ty #[v, .slice (some ⟨g, 0, none⟩) 1 1]).run P w = .ok v' w') ∧ Own enc k T w' base v' (A ++ [x]) ∧ w.grownBy w' v.ownBlock ∧ (v'.ownBlock = v.ownBlock ∨ v'.ownBlock = some w.heap.size) ∧ ∃ g' cap, v' = .slice (some ⟨g', 0, none⟩) (A.length + 1) cap ∧ base ≤ g' ∧ g' < w'.heap.size := by
  obtain ⟨v', w', hr, h2, h3, h4, _⟩ := append_row F hown (row_one F hg 1) (B := [x]) hb hm hbase
  obtain ⟨g', cap, h5, h6, h7⟩ := own_form h2 (by simp)
  exact ⟨v', w', hr, h2, h3, h4, g', cap, by simpa using h5, h6, h7⟩
/-- What stands in a row of one's own. -/
theorem own_cell (F : Flat P enc k T ST b) {w : World} {base g n cap : Nat} {L : List α} (h : Own enc k T w base (.slice (some ⟨g, 0, none⟩) n cap) L) (j : Nat) (hj : j < L.length) {i : Nat} {u : Value} (hu : (enc L[j])[i]? = some u) :
    w.cell? ⟨g, j * k + i, none⟩ = some u ∧ w.frozen? ⟨g, j * k + i, none⟩ = false := by
  obtain rfl : n = L.length := by
    rcases h.2 with ⟨e, _⟩ | ⟨g2, cap2, cur, e, _⟩
    · cases e
    · injection e
  have hi : i < k := by rw [← F.len L[j]]; exact (List.getElem?_eq_some_iff.1 hu).1
  have hlt : j * k + i < L.length * k := by have := Nat.mul_le_mul_right k (show j + 1 ≤ L.length from hj); rw [Nat.add_mul] at this; omega
  exact ⟨by rw [h.cellAt _ hlt, rowC_at F L j hj i hi]; exact hu, h.frozenAt _⟩
/-- Stores of an element's cells. -/
theorem own_stored {base g n cap : Nat} : ∀ (vs : List Value) (o : Nat) (w : World) (xs : List Value), w.ownsRow base T k (.slice (some ⟨g, 0, none⟩) n cap) n xs → ∃ ys, (w.setCells g o vs).ownsRow base T k (.slice (some ⟨g, 0, none⟩) n cap) n ys ∧ (∀ j, j < o → ys[j]? = xs[j]?) ∧ (∀ j, j < vs.length → o + j < xs.length → ys[o + j]? = vs[j]?) ∧ (∀ j, o + vs.length ≤ j → ys[j]? = xs[j]?)
  | [], o, w, xs, h => ⟨xs, h, fun _ _ => rfl, fun j hj => absurd hj (by simp), fun _ _ => rfl⟩
  | v :: r, o, w, xs, h => by
    obtain ⟨h1, -⟩ := h.stored o v
    obtain ⟨ys, a, b, c, d⟩ := own_stored r (o + 1) _ _ h1
    refine ⟨ys, a, fun j hj => by rw [b j (by omega), List.getElem?_set, if_neg (by omega)], fun j hj hx => ?_, fun j hj => by rw [d j (by simp at hj; omega), List.getElem?_set, if_neg (by simp at hj; omega)]⟩
    cases j with
    | zero => rw [Nat.add_zero, b o (by omega), List.getElem?_set, if_pos rfl, if_pos (by simpa using hx)]; rfl
    | succ j => rw [show o + (j + 1) = o + 1 + j by omega, c j (by simpa using hj) (by simp; omega)]; rfl
theorem own_set (F : Flat P enc k T ST b) {w : World} {base g cap : Nat} {L : List α} (h : Own enc k T w base (.slice (some ⟨g, 0, none⟩) L.length cap) L) (i : Nat) (hi : i < L.length) (x : α) :
    Own enc k T (w.setCells g (i * k) (enc x)) base (.slice (some ⟨g, 0, none⟩) L.length cap) (L.set i x) := by
  obtain ⟨ys, h1, h2, h3, h4⟩ := own_stored (enc x) (i * k) w (rowC enc L) h
  have e : ys = rowC enc (L.set i x) := by
    apply List.ext_getElem?
    intro j
    have hl := rowC_len F L
    have hl2 := rowC_len F (L.set i x)
    rw [List.length_set] at hl2
    have hly := h1.1
    have hik := Nat.mul_le_mul_right k (show i + 1 ≤ L.length from hi)
    rw [Nat.add_mul, Nat.one_mul] at hik
    rcases Nat.lt_or_ge j (L.length * k) with hj | hj
    · obtain ⟨q, r, hr, hq, rfl⟩ := place hj
      rw [rowC_at F _ q (by simpa using hq) r hr, List.getElem_set]
      by_cases hqi : i = q
      · subst hqi
        rw [if_pos rfl, h3 r (by rw [F.len]; exact hr) (by omega)]
      · rw [if_neg hqi, ← rowC_at F L q hq r hr]
        rcases Nat.lt_or_ge q i with c | c
        · have := Nat.mul_le_mul_right k (show q + 1 ≤ i from c)
          rw [Nat.add_mul, Nat.one_mul] at this
          exact h2 _ (by omega)
        · have := Nat.mul_le_mul_right k (show i + 1 ≤ q by omega)
          rw [Nat.add_mul, Nat.one_mul] at this
          exact h4 _ (by rw [F.len]; omega)
    · rw [List.getElem?_eq_none (by omega), List.getElem?_eq_none (by omega)]
  show World.ownsRow _ _ _ _ _ _ _
  rw [List.length_set, ← e]
  exact h1
/-- A row cut to its first elements, and one cut behind them. -/
theorem row_take {w : World} {g off c n : Nat} {L : List α} (hg : g < w.heap.size) (hc : ∀ W : World, W.heap[g]? = w.heap[g]? → ∀ j (h : j < L.length) i u, (enc L[j])[i]? = some u → W.cell? ⟨g, off + j * k + i, none⟩ = some u) (hn : n ≤ L.length) :
    RowAt enc k w (.slice (some ⟨g, off, none⟩) n c) (L.take n) :=
  .inr ⟨g, off, c, by rw [List.length_take, Nat.min_eq_left hn], hg, fun W hW j hj i u hu => by
    rw [List.length_take] at hj
    rw [List.getElem_take] at hu
    exact hc W hW j (by omega) i u hu⟩
theorem row_drop {w : World} {g off c n : Nat} {L : List α} (hg : g < w.heap.size) (hc : ∀ W : World, W.heap[g]? = w.heap[g]? → ∀ j (h : j < L.length) i u, (enc L[j])[i]? = some u → W.cell? ⟨g, off + j * k + i, none⟩ = some u) (hn : n ≤ L.length) :
    RowAt enc k w (.slice (some ⟨g, off + n * k, none⟩) (L.length - n) c) (L.drop n) :=
  .inr ⟨g, off + n * k, c, by rw [List.length_drop], hg, fun W hW j hj i u hu => by
    rw [List.length_drop] at hj
    rw [List.getElem_drop] at hu
    have := hc W hW (n + j) (by omega) i u hu
    rw [Nat.add_mul] at this
    rw [← this]
    congr 2
    omega⟩
end
end Rk
end Go.Proofs.Ytfgmkdghpdpdkaa
