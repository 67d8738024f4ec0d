/- Appends to rows of one's own: fields, numbers, a vector. Conditions: those that each theorem names. -/
import Derived.Test.YtfppemgagifmpaaDoorPlSo
import Derived.Test.YtfppemgagifmpaaDoorRun
import Derived.OwnWalk
import Derived.Maps.AppendAt
namespace Go.Proofs.YtfppemgagifmpaaDoor
set_option linter.unusedVariables false
open Go Go.RowKit Go.Shelf Pl
def iCells (L : List Int) : List Value := L.map fun n => .int .i64 n
def fCells (L : List Fld) : List Value := L.flatMap fun f => [.string f.name, .int .i64 f.val.kind, .int .i64 f.val.n, .string f.val.text]
def vCells (L : List (Nm × Value)) : List Value := L.flatMap fun x => [.string x.1, x.2]
theorem iCells_len (L : List Int) : (iCells L).length = L.length := by simp [iCells]
theorem fCells_len (L : List Fld) : (fCells L).length = L.length * 4 := by
  induction L with
  | nil => rfl
  | cons p r ih => show (fCells r).length + 1 + 1 + 1 + 1 = _; rw [ih, List.length_cons]; omega
theorem vCells_len (L : List (Nm × Value)) : (vCells L).length = L.length * 2 := by
  induction L with
  | nil => rfl
  | cons p r ih => show (vCells r).length + 1 + 1 = _; rw [ih, List.length_cons]; omega
theorem fCells_at : ∀ (L : List Fld) (j : Nat) (h : j < L.length), (fCells L)[j * 4]? = some (.string (L[j]).name) ∧ (fCells L)[j * 4 + 1]? = some (.int .i64 (L[j]).val.kind) ∧ (fCells L)[j * 4 + 2]? = some (.int .i64 (L[j]).val.n) ∧ (fCells L)[j * 4 + 3]? = some (.string (L[j]).val.text)
  | x :: r, 0, _ => ⟨rfl, rfl, rfl, rfl⟩
  | x :: r, j + 1, h => by
    obtain ⟨h0, h1, h2, h3⟩ := fCells_at r j (by simpa using h)
    have e : fCells (x :: r) = [.string x.name, .int .i64 x.val.kind, .int .i64 x.val.n, .string x.val.text] ++ fCells r := rfl
    have g : ∀ i, ([Value.string x.name, .int .i64 x.val.kind, .int .i64 x.val.n, .string x.val.text] ++ fCells r)[(j + 1) * 4 + i]? = (fCells r)[j * 4 + i]? := fun i => by
      rw [List.getElem?_append_right (by simp; omega)]
      congr 1
      simp; omega
    rw [e]
    exact ⟨(g 0).trans h0, (g 1).trans h1, (g 2).trans h2, (g 3).trans h3⟩
theorem vCells_at : ∀ (L : List (Nm × Value)) (j : Nat) (h : j < L.length), (vCells L)[j * 2]? = some (.string (L[j]).1) ∧ (vCells L)[j * 2 + 1]? = some (L[j]).2
  | x :: r, 0, _ => ⟨rfl, rfl⟩
  | x :: r, j + 1, h => by
    obtain ⟨h0, h1⟩ := vCells_at r j (by simpa using h)
    have e : vCells (x :: r) = [.string x.1, x.2] ++ vCells r := rfl
    have g : ∀ i, ([Value.string x.1, x.2] ++ vCells r)[(j + 1) * 2 + i]? = (vCells r)[j * 2 + i]? := fun i => by
      rw [List.getElem?_append_right (by simp; omega)]
      congr 1
      simp; omega
    rw [e]
    exact ⟨(g 0).trans h0, (g 1).trans h1⟩
theorem infoI : (Tryd.prog.info? 3).map (fun i => (i.zero, i.size, i.bytes)) = some (some (.int .i64 0), 1, 8) := by kernel_rfl
theorem infoF : (Tryd.prog.info? 47).map (fun i => (i.zero, i.size, i.bytes)) = some (some (.agg #[.string ⟨#[]⟩, .int .i64 0, .int .i64 0, .string ⟨#[]⟩]), 4, 48) := by kernel_rfl
theorem infoV : (Tryd.prog.info? 43).map (fun i => (i.zero, i.size, i.bytes)) = some (some (.agg #[.string ⟨#[]⟩, .slice none 0 0]), 2, 40) := by kernel_rfl
/-- What a row of one's own holds at a place. -/
theorem own_at {w : World} {base size n : Nat} {e : TypeId} {v : Value} {xs : List Value} (h : w.ownsRow base e size v n xs) (hn : 0 < n) :
    ∃ g cap, v = .slice (some ⟨g, 0, none⟩) n cap ∧ base ≤ g ∧ g < w.heap.size ∧ ∀ W : World, W.heap[g]? = w.heap[g]? → ∀ i u, i < n * size → xs[i]? = some u → W.cell? ⟨g, i, none⟩ = some u := by
  rcases h.2 with ⟨_, h0⟩ | ⟨g, cap, cur, rfl, hb, hg, h1, h2, h3, h4⟩
  · omega
  · refine ⟨g, cap, rfl, hb, ?_, fun W hW i u hi hu => ?_⟩
    · rcases Nat.lt_or_ge g w.heap.size with c | c
      · exact c
      · rw [Array.getElem?_eq_none c] at hg; cases hg
    · rw [Lib.cell_of_heap (hW.trans hg), ← hu, ← h4, List.getElem?_take, if_pos hi, Array.getElem?_toList]
theorem own_nil {w : World} {base size : Nat} {e : TypeId} {v : Value} {xs : List Value} (h : w.ownsRow base e size v 0 xs) : ∃ p c, v = .slice p 0 c := by
  rcases h.2 with ⟨rfl, _⟩ | ⟨g, cap, cur, rfl, _⟩
  · exact ⟨_, _, rfl⟩
  · exact ⟨_, _, rfl⟩
theorem own_ints {w : World} {base : Nat} {v : Value} {L : List Int} (h : w.ownsRow base 3 1 v L.length (iCells L)) : IntsAt w v L := by
  rcases Nat.eq_zero_or_pos L.length with h0 | h0
  · rw [h0] at h
    obtain ⟨p, c, rfl⟩ := own_nil h
    exact .inl ⟨List.length_eq_zero_iff.mp h0, p, c, rfl⟩
  · obtain ⟨g, cap, rfl, hb, hg, hc⟩ := own_at h h0
    exact .inr ⟨g, 0, cap, rfl, hg, fun W hW j hj => by rw [Nat.zero_add]; exact hc W hW j _ (by omega) (by simp [iCells, hj])⟩
theorem own_flds {w : World} {base : Nat} {v : Value} {L : List Fld} (h : w.ownsRow base 47 4 v L.length (fCells L)) : FldsAt w v L := by
  rcases Nat.eq_zero_or_pos L.length with h0 | h0
  · rw [h0] at h
    obtain ⟨p, c, rfl⟩ := own_nil h
    exact .inl ⟨List.length_eq_zero_iff.mp h0, p, c, rfl⟩
  · obtain ⟨g, cap, rfl, hb, hg, hc⟩ := own_at h h0
    refine .inr ⟨g, 0, cap, rfl, hg, fun W hW j hj => ?_⟩
    obtain ⟨c0, c1, c2, c3⟩ := fCells_at L j hj
    rw [Nat.zero_add]
    exact ⟨hc W hW _ _ (by omega) c0, hc W hW _ _ (by omega) c1, hc W hW _ _ (by omega) c2, hc W hW _ _ (by omega) c3⟩
/-- All of a row behind none. -/
theorem append_none {w : World} {base size bytes : Nat} {t e : TypeId} {z : Value} {xs : List Value} {n c : Nat} {q : Option Addr} (ht : Tryd.prog.underlying t = some (.slice e)) (hinfo : (Tryd.prog.info? e).map (fun i => (i.zero, i.size, i.bytes)) = some (some z, size, bytes)) (hzs : z.cells.size = size) (hsz : 0 < size)
    (hl : xs.length = n * size) (hs : (n = 0 ∧ q = none) ∨ ∃ ad, q = some ad ∧ ∀ j u, xs[j]? = some u → w.cell? (ad.add j) = some u) (h1 : ∀ u ∈ xs, u.oneCell' = true) (hb : n * bytes ≤ 140737488355328) (hm : n ≤ maxLen) (hbase : base ≤ w.heap.size) :
    ∃ v' w', (∀ ty, (Builtin.append_ #[t, t] ty #[.slice none 0 0, .slice q n c]).run Tryd.prog w = .ok v' w') ∧ w'.ownsRow base e size v' n xs ∧ w.grownBy w' none := by
  obtain ⟨i0, hi, hz0, hz1, hz2⟩ := info_parts hinfo
  rcases hs with ⟨rfl, rfl⟩ | ⟨ad, rfl, hc⟩
  · have hx : xs = [] := List.length_eq_zero_iff.mp (by rw [hl]; omega)
    subst hx
    refine ⟨.slice none 0 0, w, fun ty => ?_, World.ownsRow_nil _ _ _ _, ⟨rfl, rfl, rfl, Nat.le_refl _, fun _ _ _ => rfl⟩⟩
    simp [Builtin.append_, run_underlying ht, sizeOf, typeInfo, hi, Builtin.lenOf, Builtin.firstCells]
  · obtain ⟨v', w', hr, h2, h3, _⟩ := run_append_own_at (P := Tryd.prog) w base t t e i0 _ size bytes ht hi hz0 hz1 hz2 hzs hsz (.slice none 0 0) 0 [] (World.ownsRow_nil _ _ _ _) ad n c xs hl hc h1 (by rw [Nat.zero_add]; exact hm) (by rw [Nat.zero_add]; exact hb) hbase
    exact ⟨v', w', fun _ => hr, by simpa using h2, h3⟩
theorem addr_at (g off j : Nat) : (⟨g, off, none⟩ : Addr).add j = ⟨g, off + j, none⟩ := by unfold Addr.add; split <;> simp_all
theorem append_ints0 {w : World} {base : Nat} {L : List Int} {v : Value} (h : IntsAt w v L) (hl : L.length * 8 ≤ 140737488355328) (hbase : base ≤ w.heap.size) :
    ∃ v' w', (∀ ty, (Builtin.append_ #[41, 41] ty #[.slice none 0 0, v]).run Tryd.prog w = .ok v' w') ∧ w'.ownsRow base 3 1 v' L.length (iCells L) ∧ w.grownBy w' none := by
  have go := fun (q : Option Addr) (c : Nat) hs => append_none (w := w) (base := base) (c := c) (q := q) Tryd.underlying41 infoI rfl (by decide) (xs := iCells L) (n := L.length) (by rw [iCells_len]; omega) hs (fun u hu => by
    simp only [iCells, List.mem_map] at hu
    obtain ⟨n, _, rfl⟩ := hu
    rfl) hl (by unfold maxLen; omega) hbase
  rcases h with ⟨rfl, p, c, rfl⟩ | ⟨g, off, c, rfl, hg, hc⟩
  · cases p with
    | none => exact go none c (.inl ⟨rfl, rfl⟩)
    | some a => exact go (some a) c (.inr ⟨a, rfl, fun j u hj => by simp [iCells] at hj⟩)
  · refine go _ c (.inr ⟨_, rfl, fun j u hj => ?_⟩)
    have hjl : j < L.length := by
      rcases Nat.lt_or_ge j L.length with c | c
      · exact c
      · rw [List.getElem?_eq_none (by rw [iCells_len]; exact c)] at hj; cases hj
    rw [addr_at, hc w rfl j hjl]
    simp [iCells, hjl] at hj
    rw [hj]
theorem append_flds0 {w : World} {base : Nat} {L : List Fld} {v : Value} (h : FldsAt w v L) (hl : L.length * 48 ≤ 140737488355328) (hbase : base ≤ w.heap.size) :
    ∃ v' w', (∀ ty, (Builtin.append_ #[27, 27] ty #[.slice none 0 0, v]).run Tryd.prog w = .ok v' w') ∧ w'.ownsRow base 47 4 v' L.length (fCells L) ∧ w.grownBy w' none := by
  have go := fun (q : Option Addr) (c : Nat) hs => append_none (w := w) (base := base) (c := c) (q := q) Tryd.underlying27 infoF rfl (by decide) (xs := fCells L) (n := L.length) (by rw [fCells_len]) hs (fun u hu => by
    simp only [fCells, List.mem_flatMap] at hu
    obtain ⟨f, _, hf⟩ := hu
    simp at hf
    rcases hf with rfl | rfl | rfl | rfl <;> rfl) hl (by unfold maxLen; omega) hbase
  rcases h with ⟨rfl, p, c, rfl⟩ | ⟨g, off, c, rfl, hg, hc⟩
  · cases p with
    | none => exact go none c (.inl ⟨rfl, rfl⟩)
    | some a => exact go (some a) c (.inr ⟨a, rfl, fun j u hj => by simp [fCells] at hj⟩)
  · refine go _ c (.inr ⟨_, rfl, fun j u hj => ?_⟩)
    obtain ⟨q, r, hr, rfl⟩ : ∃ q r, r < 4 ∧ j = q * 4 + r := ⟨j / 4, j % 4, by omega, by omega⟩
    have hq : q < L.length := by
      rcases Nat.lt_or_ge (q * 4 + r) (L.length * 4) with c | c
      · omega
      · rw [List.getElem?_eq_none (by rw [fCells_len]; exact c)] at hj; cases hj
    obtain ⟨a0, a1, a2, a3⟩ := fCells_at L q hq
    obtain ⟨b0, b1, b2, b3⟩ := hc w rfl q hq
    rw [addr_at, ← Nat.add_assoc, ← hj]
    match r, hr with
    | 0, _ => exact b0.trans a0.symm
    | 1, _ => exact b1.trans a1.symm
    | 2, _ => exact b2.trans a2.symm
    | 3, _ => exact b3.trans a3.symm
/-- One more vector behind an own row: it lies in a new block of its own. -/
theorem append_vec {w : World} {base g : Nat} {v : Value} {A : List (Nm × Value)} {n : Nm} {s : Value} (hown : w.ownsRow base 43 2 v A.length (vCells A)) (hg : w.heap[g]? = some (.cells #[.string n, s] 43 (0, 0)))
    (hs1 : s.oneCell' = true) (hb : (A.length + 1) * 40 ≤ 140737488355328) (hbase : base ≤ w.heap.size) :
    ∃ v' w', (∀ ty, (Builtin.append_ #[26, 26] ty #[v, .slice (some ⟨g, 0, none⟩) 1 1]).run Tryd.prog w = .ok v' w') ∧ w'.ownsRow base 43 2 v' (A ++ [(n, s)]).length (vCells (A ++ [(n, s)])) ∧ w.grownBy w' v.ownBlock ∧ (v'.ownBlock = v.ownBlock ∨ v'.ownBlock = some w.heap.size) := by
  obtain ⟨i0, hi, hz0, hz1, hz2⟩ := info_parts infoV
  obtain ⟨c0, c1⟩ := two_cells hg
  obtain ⟨v', w', hr, h2, h3, _, h5⟩ := run_append_own_at (P := Tryd.prog) w base 26 26 43 i0 _ 2 40 Tryd.underlying26 hi hz0 hz1 hz2 rfl (by decide) v A.length (vCells A) hown ⟨g, 0, none⟩ 1 1 [.string n, s] rfl
    (fun j u hj => by
      rw [addr_at, Nat.zero_add]
      match j, hj with
      | 0, hj => rw [← Option.some.inj hj]; exact c0
      | 1, hj => rw [← Option.some.inj hj]; exact c1
      | j + 2, hj => simp at hj)
    (fun u hu => by
      simp at hu
      rcases hu with rfl | rfl
      · rfl
      · exact hs1) (by unfold maxLen; omega) hb hbase
  have e : vCells (A ++ [(n, s)]) = vCells A ++ [.string n, s] := by simp [vCells]
  exact ⟨v', w', fun _ => hr, by rw [e, List.length_append]; exact h2, h3, h5⟩
end Go.Proofs.YtfppemgagifmpaaDoor
