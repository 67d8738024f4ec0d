/- How a JSON value lies in memory. Conditions: none but those that each theorem names. -/
import Derived.Test.YtdooeedemgmpiaaDoorJsNum
import Derived.Laws.OwnMore
import Derived.Maps.AppendAt
namespace Go.Proofs.YtdooeedemgmpiaaDoor
set_option linter.unusedVariables false
open Go Go.RowKit Js

def NamesAt (S : Nat → Prop) (w : World) (p : Option Addr) (ns : List ByteArray) : Prop :=
  ns = [] ∨ ∃ g off, p = some ⟨g, off, none⟩ ∧ S g ∧ g < w.heap.size ∧ ∀ W : World, W.heap[g]? = w.heap[g]? → ∀ j (h : j < ns.length), W.cell? ⟨g, off + j, none⟩ = some (.string ns[j])
/-- Five cells in a row are the parts of v. -/
def Five (w : World) (g o : Nat) (v : Value) : Prop :=
  ∃ a b c d e, v = .agg #[a, b, c, d, e] ∧ ∀ W : World, W.heap[g]? = w.heap[g]? → W.cell? ⟨g, o, none⟩ = some a ∧ W.cell? ⟨g, o + 1, none⟩ = some b ∧ W.cell? ⟨g, o + 2, none⟩ = some c ∧ W.cell? ⟨g, o + 3, none⟩ = some d ∧ W.cell? ⟨g, o + 4, none⟩ = some e
mutual
def JAt (S : Nat → Prop) (w : World) : J → Value → Prop
  | .mk k n t ns l, v => ∃ np nc lp lc, v = .agg #[.int .i64 k, .int .i64 n, .string t, .slice np ns.length nc, .slice lp l.length lc] ∧ NamesAt S w np ns ∧ KidsAt S w lp 0 l
def KidsAt (S : Nat → Prop) (w : World) (p : Option Addr) : Nat → List J → Prop
  | _, [] => True
  | i, j :: l => (∃ g off v, p = some ⟨g, off, none⟩ ∧ S g ∧ g < w.heap.size ∧ Five w g (off + i * 5) v ∧ JAt S w j v) ∧ KidsAt S w p (i + 1) l
end
section
variable {S S' : Nat → Prop} {w w' : World}
theorem NamesAt.frame {p : Option Addr} {ns : List ByteArray} (h : NamesAt S w p ns) (hs : ∀ b, b < w.heap.size → S b → S' b) (hb : ∀ b, S b → b < w.heap.size → w'.heap[b]? = w.heap[b]?) (hz : w.heap.size ≤ w'.heap.size) : NamesAt S' w' p ns := by
  rcases h with h | ⟨g, off, h1, h2, h3, h4⟩
  · exact .inl h
  · exact .inr ⟨g, off, h1, hs g h3 h2, Nat.lt_of_lt_of_le h3 hz, fun W hW => h4 W (hW.trans (hb g h2 h3))⟩
theorem Five.frame {g o : Nat} {v : Value} (h : Five w g o v) (hb : w'.heap[g]? = w.heap[g]?) : Five w' g o v := by
  obtain ⟨a, b, c, d, e, h1, h2⟩ := h
  exact ⟨a, b, c, d, e, h1, fun W hW => h2 W (hW.trans hb)⟩
mutual
theorem JAt.frame (hs : ∀ b, b < w.heap.size → S b → S' b) (hb : ∀ b, S b → b < w.heap.size → w'.heap[b]? = w.heap[b]?) (hz : w.heap.size ≤ w'.heap.size) : ∀ (j : J) (v : Value), JAt S w j v → JAt S' w' j v
  | .mk k n t ns l, v, h => by
    unfold JAt at h ⊢
    obtain ⟨np, nc, lp, lc, h1, h2, h3⟩ := h
    exact ⟨np, nc, lp, lc, h1, h2.frame hs hb hz, KidsAt.frame hs hb hz lp 0 l h3⟩
theorem KidsAt.frame (hs : ∀ b, b < w.heap.size → S b → S' b) (hb : ∀ b, S b → b < w.heap.size → w'.heap[b]? = w.heap[b]?) (hz : w.heap.size ≤ w'.heap.size) (p : Option Addr) : ∀ (i : Nat) (l : List J), KidsAt S w p i l → KidsAt S' w' p i l
  | _, [], _ => by unfold KidsAt; trivial
  | i, j :: l, h => by
    unfold KidsAt at h ⊢
    obtain ⟨⟨g, off, v, h1, h2, h3, h4, h5⟩, h6⟩ := h
    exact ⟨⟨g, off, v, h1, hs g h3 h2, Nat.lt_of_lt_of_le h3 hz, h4.frame (hb g h2 h3), JAt.frame hs hb hz j v h5⟩, KidsAt.frame hs hb hz p (i + 1) l h6⟩
end
theorem JAt.five {j : J} {v : Value} (h : JAt S w j v) : ∃ np nc lp lc, v = .agg #[.int .i64 j.kind, .int .i64 j.num, .string j.text, .slice np j.names.length nc, .slice lp j.list.length lc] ∧ NamesAt S w np j.names ∧ KidsAt S w lp 0 j.list := by
  cases j with
  | mk k n t ns l => unfold JAt at h; exact h
theorem JAt.leaf (S : Nat → Prop) (w : World) (k n : Int) (t : ByteArray) : JAt S w (.mk k n t [] []) (leaf k n t) := by
  unfold JAt
  exact ⟨none, 0, none, 0, rfl, .inl rfl, by unfold KidsAt; trivial⟩
end

/-! ### rows that a call makes -/
def vcells : Value → List Value | .agg cs => cs.toList | _ => []
/-- The values of a row of one's own; they don't lie in the row's block. -/
def Kids (base : Nat) (w : World) (lv : Value) (js : List J) (cells : List Value) : Prop :=
  ∃ vs : List Value, vs.length = js.length ∧ cells = vs.flatMap vcells ∧ ∀ i (h : i < js.length), ∃ v, vs[i]? = some v ∧ JAt (fun b => base ≤ b ∧ some b ≠ lv.ownBlock) w js[i] v
theorem JAt.cells5 {S : Nat → Prop} {w : World} {j : J} {v : Value} (h : JAt S w j v) : ∃ a b c d e, v = .agg #[a, b, c, d, e] := by
  obtain ⟨np, nc, lp, lc, hv, _⟩ := h.five
  exact ⟨_, _, _, _, _, hv⟩
theorem Kids.nil (base : Nat) (w : World) (lv : Value) : Kids base w lv [] [] := ⟨[], rfl, rfl, fun i h => by simp at h⟩
theorem Kids.frame {base : Nat} {w w' : World} {lv lv' : Value} {js : List J} {cells : List Value} (h : Kids base w lv js cells) (hs : ∀ b, base ≤ b → b < w.heap.size → some b ≠ lv.ownBlock → some b ≠ lv'.ownBlock)
    (hb : ∀ b, base ≤ b → b < w.heap.size → some b ≠ lv.ownBlock → w'.heap[b]? = w.heap[b]?) (hz : w.heap.size ≤ w'.heap.size) : Kids base w' lv' js cells := by
  obtain ⟨vs, h1, h2, h3⟩ := h
  refine ⟨vs, h1, h2, fun i hi => ?_⟩
  obtain ⟨v, hv, hj⟩ := h3 i hi
  exact ⟨v, hv, JAt.frame (fun b hlt hx => ⟨hx.1, hs b hx.1 hlt hx.2⟩) (fun b hx hlt => hb b hx.1 hlt hx.2) hz _ _ hj⟩
theorem Kids.push {base : Nat} {w : World} {lv : Value} {js : List J} {cells : List Value} (h : Kids base w lv js cells) {j : J} {v : Value} (hj : JAt (fun b => base ≤ b ∧ some b ≠ lv.ownBlock) w j v) : Kids base w lv (js ++ [j]) (cells ++ vcells v) := by
  obtain ⟨vs, h1, h2, h3⟩ := h
  refine ⟨vs ++ [v], by simp [h1], by rw [h2]; simp, fun i hi => ?_⟩
  by_cases hlt : i < js.length
  · obtain ⟨u, hu, hj'⟩ := h3 i hlt
    refine ⟨u, by rw [List.getElem?_append_left (by omega)]; exact hu, ?_⟩
    rw [List.getElem_append_left hlt]; exact hj'
  · have : i = js.length := by simp at hi; omega
    subst this
    refine ⟨v, by rw [← h1]; simp, ?_⟩
    simpa using hj
theorem flat5 : ∀ (vs : List Value) (i : Nat) (a b c d e : Value), (∀ v ∈ vs, (vcells v).length = 5) → vs[i]? = some (.agg #[a, b, c, d, e]) →
    (vs.flatMap vcells)[i * 5]? = some a ∧ (vs.flatMap vcells)[i * 5 + 1]? = some b ∧ (vs.flatMap vcells)[i * 5 + 2]? = some c ∧ (vs.flatMap vcells)[i * 5 + 3]? = some d ∧ (vs.flatMap vcells)[i * 5 + 4]? = some e
  | [], i, _, _, _, _, _, _, h => by simp at h
  | v :: vs, 0, a, b, c, d, e, hl, h => by
    simp at h
    subst h
    exact ⟨rfl, rfl, rfl, rfl, rfl⟩
  | v :: vs, i + 1, a, b, c, d, e, hl, h => by
    have hv := hl v (List.mem_cons_self ..)
    have := flat5 vs i a b c d e (fun u hu => hl u (List.mem_cons_of_mem _ hu)) (by simpa using h)
    have e : ∀ k, (vcells v ++ vs.flatMap vcells)[(i + 1) * 5 + k]? = (vs.flatMap vcells)[i * 5 + k]? := fun k => by
      rw [List.getElem?_append_right (by omega), show (i + 1) * 5 + k - (vcells v).length = i * 5 + k by omega]
    simp only [List.flatMap_cons]
    have e0 := e 0
    simp only [Nat.add_zero] at e0
    rw [e0, e 1, e 2, e 3, e 4]
    exact this
theorem Kids.done {base : Nat} {w : World} {lv : Value} {js : List J} {cells : List Value} (h : Kids base w lv js cells) (ho : w.ownsRow base 25 5 lv js.length cells) : ∃ lp lc, lv = .slice lp js.length lc ∧ KidsAt (fun b => base ≤ b) w lp 0 js := by
  obtain ⟨vs, h1, h2, h3⟩ := h
  rcases ho.2 with ⟨rfl, h0⟩ | ⟨g, cap, cur, rfl, hbg, hg, hnc, hcm, hcs, htake⟩
  · have : js = [] := List.eq_nil_of_length_eq_zero h0
    subst this
    exact ⟨none, 0, rfl, by unfold KidsAt; trivial⟩
  · refine ⟨_, _, rfl, ?_⟩
    have hlen : ∀ v ∈ vs, (vcells v).length = 5 := fun v hv => by
      obtain ⟨i, hi, rfl⟩ := List.getElem_of_mem hv
      obtain ⟨u, hu, hj⟩ := h3 i (by omega)
      rw [List.getElem?_eq_getElem hi] at hu
      injection hu with hu
      obtain ⟨a, b, c, d, e, he⟩ := hj.cells5
      rw [hu, he]; rfl
    have hcell : ∀ W : World, W.heap[g]? = w.heap[g]? → ∀ j u, j < js.length * 5 → cells[j]? = some u → W.cell? ⟨g, j, none⟩ = some u := fun W hW j u hj hu => by
      rw [cell_of_row W g j cur _ (0, 0) (hW.trans hg)]
      rw [← htake, List.getElem?_take, if_pos hj] at hu
      simpa using hu
    have hglt := (Array.getElem?_eq_some_iff.1 hg).1
    have key : ∀ (n i : Nat), i + n = js.length → KidsAt (fun b => base ≤ b) w (some ⟨g, 0, none⟩) i (js.drop i) := by
      intro n
      induction n with
      | zero => intro i hi; rw [List.drop_of_length_le (by omega)]; unfold KidsAt; trivial
      | succ n ih =>
        intro i hi
        have hi' : i < js.length := by omega
        rw [List.drop_eq_getElem_cons hi']
        unfold KidsAt
        refine ⟨?_, ih (i + 1) (by omega)⟩
        obtain ⟨v, hv, hj⟩ := h3 i hi'
        obtain ⟨a, b, c, d, e, he⟩ := hj.cells5
        have f := flat5 vs i a b c d e hlen (by rw [hv, he])
        rw [← h2] at f
        refine ⟨g, 0, v, rfl, hbg, hglt, ⟨a, b, c, d, e, he, fun W hW => ?_⟩, JAt.frame (fun _ _ hx => hx.1) (fun _ _ _ => rfl) (Nat.le_refl _) _ _ hj⟩
        rw [Nat.zero_add]
        exact ⟨hcell W hW _ _ (by omega) f.1, hcell W hW _ _ (by omega) f.2.1, hcell W hW _ _ (by omega) f.2.2.1, hcell W hW _ _ (by omega) f.2.2.2.1, hcell W hW _ _ (by omega) f.2.2.2.2⟩
    exact key js.length 0 (by omega)
theorem names_done {base : Nat} {w : World} {nv : Value} {ns : List ByteArray} (ho : w.ownsRow base 9 1 nv ns.length (ns.map Value.string)) : ∃ np nc, nv = .slice np ns.length nc ∧ NamesAt (fun b => base ≤ b) w np ns := by
  rcases ho.2 with ⟨rfl, h0⟩ | ⟨g, cap, cur, rfl, hbg, hg, hnc, hcm, hcs, htake⟩
  · have : ns = [] := List.eq_nil_of_length_eq_zero h0
    subst this
    exact ⟨none, 0, rfl, .inl rfl⟩
  · refine ⟨_, _, rfl, .inr ⟨g, 0, rfl, hbg, (Array.getElem?_eq_some_iff.1 hg).1, fun W hW j hj => ?_⟩⟩
    rw [Nat.zero_add, cell_of_row W g j cur _ (0, 0) (hW.trans hg)]
    have hu : (ns.map Value.string)[j]? = some (.string ns[j]) := by simp [hj]
    rw [← htake, List.getElem?_take, if_pos (by omega)] at hu
    simpa using hu
end Go.Proofs.YtdooeedemgmpiaaDoor
