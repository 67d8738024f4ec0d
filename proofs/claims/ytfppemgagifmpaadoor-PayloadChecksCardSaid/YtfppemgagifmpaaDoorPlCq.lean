/- The document's own Copy: the copy as far as its k-th vector, and one vector more. Conditions: those that each theorem names. -/
import Derived.Test.YtfppemgagifmpaaDoorPlAp
import Derived.StillTailTactics
import Derived.Deep.DeepCutAuto
import Derived.Deep.RegionHeld3
import Derived.Laws.Rows
import Derived.Deep.RegionLaw
namespace Go.Proofs.YtfppemgagifmpaaDoor
set_option linter.unusedVariables false
open Go Go.RowKit Go.Shelf Pl
def zP : Obj := .cells #[.int .i64 0, .slice none 0 0, .slice none 0 0] 29
/-- A row of fields in a block that may be written. -/
def FldsOwn (w : World) (v : Value) (L : List Fld) : Prop :=
  (L = [] ∧ ∃ p c, v = .slice p 0 c) ∨ ∃ (g c : Nat) (cs : Array Value) (t : TypeId), v = .slice (some ⟨g, 0, none⟩) L.length c ∧ g < w.heap.size ∧ w.heap[g]? = some (.cells cs t (0, 0)) ∧
    ∀ j (h : j < L.length), cs[j * 4]? = some (.string (L[j]).name) ∧ cs[j * 4 + 1]? = some (.int .i64 (L[j]).val.kind) ∧ cs[j * 4 + 2]? = some (.int .i64 (L[j]).val.n) ∧ cs[j * 4 + 3]? = some (.string (L[j]).val.text)
theorem FldsOwn.at {w : World} {v : Value} {L : List Fld} (h : FldsOwn w v L) : FldsAt w v L := by
  rcases h with h | ⟨g, c, cs, t, rfl, hg, hc, h1⟩
  · exact .inl h
  · refine .inr ⟨g, 0, c, rfl, hg, fun W hW j hj => ?_⟩
    have hw := hW.trans hc
    rw [Nat.zero_add, Lib.cell_of_heap hw, Lib.cell_of_heap hw, Lib.cell_of_heap hw, Lib.cell_of_heap hw]
    exact h1 j hj
theorem FldsOwn.form {w : World} {v : Value} {L : List Fld} (h : FldsOwn w v L) : ∃ p c, v = .slice p L.length c := h.at.form
/-- A point that is being made: its box, its fields. -/
def Made (V : World) (i : Int) (L : List Fld) (P : Nat) (f : Value) (wx : World) : Prop :=
  wx.heap[P]? = some (.cells #[.int .i64 i, .slice none 0 0, f] 29 (0, 0)) ∧ FldsOwn wx f L ∧ Below V.heap.size V wx ∧ V.heap.size ≤ P ∧ P < wx.heap.size ∧ ∀ g, f.ownBlock = some g → L ≠ [] → g ≠ P ∧ g < wx.heap.size ∧ V.heap.size ≤ g
theorem FldsAt.belowD {w w' : World} {v : Value} {L : List Fld} (h : FldsAt w v L) (hb : ∀ b, b < w.heap.size → w'.heap[b]? = w.heap[b]?) : FldsAt w' v L := by
  rcases h with h | ⟨b, off, c, rfl, hg, hc⟩
  · exact .inl h
  · have hlt : b < w'.heap.size := by
      have h1 := hb b hg
      rw [Array.getElem?_eq_getElem hg] at h1
      exact (Array.getElem?_eq_some_iff.1 h1).1
    exact .inr ⟨b, off, c, rfl, hlt, fun W hW => hc W (hW.trans (hb b hg))⟩
theorem FldsOwn.belowD {w w' : World} {v : Value} {L : List Fld} (h : FldsOwn w v L) (hb : ∀ b, b < w.heap.size → w'.heap[b]? = w.heap[b]?) : FldsOwn w' v L := by
  rcases h with h | ⟨g, c, cs, t, rfl, hg, hc, h1⟩
  · exact .inl h
  · have e := (hb g hg).trans hc
    exact .inr ⟨g, c, cs, t, rfl, (Array.getElem?_eq_some_iff.1 e).1, e, h1⟩
theorem own_fldsO {w : World} {base : Nat} {v : Value} {L : List Fld} (h : w.ownsRow base 47 4 v L.length (fCells L)) : FldsOwn w v L := by
  rcases h.2 with ⟨rfl, h0⟩ | ⟨g, cap, cur, rfl, hb, hc, _, _, _, htk⟩
  · exact .inl ⟨List.length_eq_zero_iff.mp h0, none, 0, rfl⟩
  · refine .inr ⟨g, cap, cur, _, rfl, (Array.getElem?_eq_some_iff.1 hc).1, hc, fun j hj => ?_⟩
    have hcell : ∀ i v, i < L.length * 4 → (fCells L)[i]? = some v → cur[i]? = some v := fun i v hi hv => by
      rw [← hv, ← htk, List.getElem?_take, if_pos hi, Array.getElem?_toList]
    obtain ⟨e0, e1, e2, e3⟩ := fCells_at L j hj
    exact ⟨hcell _ _ (by omega) e0, hcell _ _ (by omega) e1, hcell _ _ (by omega) e2, hcell _ _ (by omega) e3⟩
theorem own_slice {w : World} {base size n : Nat} {e : TypeId} {v : Value} {xs : List Value} (h : w.ownsRow base e size v n xs) : ∃ p c, v = .slice p n c := by
  rcases h.2 with ⟨rfl, rfl⟩ | ⟨g, cap, cur, rfl, _⟩
  · exact ⟨_, _, rfl⟩
  · exact ⟨_, _, rfl⟩
theorem own_other {w : World} {base size n g k : Nat} {e : TypeId} {v x : Value} {xs : List Value} (h : w.ownsRow base e size v n xs) (hg : g < base) : (w.setCell ⟨g, k, none⟩ x).ownsRow base e size v n xs := by
  refine ⟨h.1, ?_⟩
  rcases h.2 with h0 | ⟨g2, cap, cur, rfl, hb, hc, h1⟩
  · exact .inl h0
  · exact .inr ⟨g2, cap, cur, rfl, hb, (heap_setCell_other _ _ _ _ (by show g2 ≠ g; omega)).trans hc, h1⟩
theorem own_lt {w : World} {base size n g : Nat} {e : TypeId} {v : Value} {xs : List Value} (h : w.ownsRow base e size v n xs) (hg : v.ownBlock = some g) : base ≤ g ∧ g < w.heap.size := by
  rcases h.2 with ⟨rfl, _⟩ | ⟨g2, cap, cur, rfl, hb, hc, _⟩
  · cases hg
  · simp [Value.ownBlock] at hg; subst hg
    exact ⟨hb, (Array.getElem?_eq_some_iff.1 hc).1⟩
theorem made_new {V W1 : World} {i : Int} {L : List Fld} {f : Value} (h : W1.ownsRow V.heap.size 47 4 f L.length (fCells L)) (hb : Below V.heap.size V W1) :
    Made V i L W1.heap.size f (W1.alloc (.cells #[.int .i64 i, .slice none 0 0, f] 29)) :=
  ⟨heap_last _ _, (own_fldsO h).belowD fun b hb => heap_old W1 _ hb, hb.alloc hb.size _, hb.size, by simp, fun g hg _ => by have := own_lt h hg; simp; omega⟩
theorem made_set {V W2 : World} {i : Int} {L : List Fld} {f : Value} (h : W2.ownsRow (V.heap.size + 1) 47 4 f L.length (fCells L)) (hb : Below V.heap.size V W2)
    (he : W2.heap[V.heap.size]? = some (.cells #[.int .i64 0, .slice none 0 0, .slice none 0 0] 29 (0, 0))) :
    Made V i L V.heap.size f (((W2.setCell ⟨V.heap.size, 0, none⟩ (.int .i64 i)).setCell ⟨V.heap.size, 1, none⟩ (.slice none 0 0)).setCell ⟨V.heap.size, 2, none⟩ f) := by
  refine ⟨?_, own_fldsO (own_other (own_other (own_other h (Nat.lt_succ_self _)) (Nat.lt_succ_self _)) (Nat.lt_succ_self _)), ((hb.setCell (Nat.le_refl _) _).setCell (Nat.le_refl _) _).setCell (Nat.le_refl _) _, Nat.le_refl _, ?_, fun g hg _ => ?_⟩
  · have h1 := heap_setCell_same W2 V.heap.size 0 _ _ (.int .i64 i) he
    have h2 := heap_setCell_same _ V.heap.size 1 _ _ (.slice none 0 0) h1
    have h3 := heap_setCell_same _ V.heap.size 2 _ _ f h2
    exact h3
  · have hlt : V.heap.size < W2.heap.size := (Array.getElem?_eq_some_iff.1 he).1
    simpa [World.setCell] using hlt
  · have h1 := own_lt h hg
    refine ⟨by omega, ?_, by omega⟩
    simpa [World.setCell] using h1.2
theorem grown_below {B : Nat} {w w' : World} (h : w.grownBy w' none) (hB : B ≤ w.heap.size) : Below B w w' := (Below.refl _ _).grown h hB (fun k hk => by cases hk)
theorem grown_below3 {V W1 : World} (h : V.drew.grownBy W1 none) : Below V.heap.size V W1 :=
  ((Below.refl V.heap.size V).drew).grown h (Nat.le_refl _) (fun k hk => by cases hk)
theorem grown_below2 {V W2 : World} {o : Obj} (h : (V.alloc o).drew.grownBy W2 none) : Below V.heap.size V W2 :=
  ((fresh_alloc V o).drew).grown h (by show _ ≤ (V.alloc o).heap.size; simp) (fun k hk => by cases hk)
theorem own_same {w w' : World} {base size n : Nat} {e : TypeId} {v : Value} {xs : List Value} (h : w.ownsRow base e size v n xs) (hs : ∀ g, v.ownBlock = some g → w'.heap[g]? = w.heap[g]?) : w'.ownsRow base e size v n xs := by
  refine ⟨h.1, ?_⟩
  rcases h.2 with h0 | ⟨g2, cap, cur, rfl, hb, hc, h1⟩
  · exact .inl h0
  · exact .inr ⟨g2, cap, cur, rfl, hb, (hs g2 rfl).trans hc, h1⟩
/-- A row of numbers has room for what it holds. -/
def CapOk (v : Value) : Prop := ∀ p n c, v = .slice p n c → n ≤ c
/-- The copy as far as its k-th vector. -/
def Part (V wc : World) (a : Pt) (P : Nat) (f : Value) (k : Nat) (wx : World) : Prop :=
  ∃ (u : Value) (ss : List Value), wx.heap[P]? = some (.cells #[.int .i64 a.id, u, f] 29 (0, 0)) ∧ ss.length = k ∧
    wx.ownsRow wc.heap.size 43 2 u k (vCells (((a.vecs.take k).map (·.name)).zip ss)) ∧
    (∀ j (h : j < a.vecs.length) (h' : j < ss.length), IntsAt wx ss[j] (a.vecs[j]).v ∧ ((a.vecs[j]).v ≠ [] → ∀ g, (ss[j]).ownBlock = some g → wc.heap.size ≤ g ∧ u.ownBlock ≠ some g) ∧ CapOk ss[j]) ∧
    FldsOwn wx f a.flds ∧ (∀ g, f.ownBlock = some g → a.flds ≠ [] → g ≠ P ∧ g < wc.heap.size ∧ V.heap.size ≤ g) ∧ Below V.heap.size V wx ∧ V.heap.size ≤ P ∧ P < wc.heap.size ∧ wc.heap.size ≤ wx.heap.size
theorem part_zero {V wc : World} {a : Pt} {P : Nat} {f : Value} (h : Made V a.id a.flds P f wc) : Part V wc a P f 0 wc := by
  obtain ⟨h1, h2, h3, h4, h5, h6⟩ := h
  exact ⟨_, [], h1, rfl, by simpa [vCells] using World.ownsRow_nil _ _ _ _, (fun j _ h' => absurd h' (Nat.not_lt_zero _)), h2, h6, h3, h4, h5, Nat.le_refl _⟩
theorem IntsAt.moved {w w' : World} {v : Value} {L : List Int} (h : IntsAt w v L) (hs : w.heap.size ≤ w'.heap.size) (hb : L ≠ [] → ∀ g, v.ownBlock = some g → w'.heap[g]? = w.heap[g]?) : IntsAt w' v L := by
  rcases h with h | ⟨b, off, c, rfl, hg, hc⟩
  · exact .inl h
  · rcases Nat.eq_zero_or_pos L.length with h0 | h0
    · exact .inl ⟨List.length_eq_zero_iff.mp h0, _, _, by rw [h0]⟩
    · have e := hb (fun e => by rw [e] at h0; cases h0) b rfl
      exact .inr ⟨b, off, c, rfl, by omega, fun W hW => hc W (hW.trans e)⟩
theorem FldsAt.moved {w w' : World} {v : Value} {L : List Fld} (h : FldsAt w v L) (hs : w.heap.size ≤ w'.heap.size) (hb : L ≠ [] → ∀ g, v.ownBlock = some g → w'.heap[g]? = w.heap[g]?) : FldsAt w' v L := by
  rcases h with h | ⟨b, off, c, rfl, hg, hc⟩
  · exact .inl h
  · rcases Nat.eq_zero_or_pos L.length with h0 | h0
    · exact .inl ⟨List.length_eq_zero_iff.mp h0, _, _, by rw [h0]⟩
    · have e := hb (fun e => by rw [e] at h0; cases h0) b rfl
      exact .inr ⟨b, off, c, rfl, by omega, fun W hW => hc W (hW.trans e)⟩
theorem FldsOwn.moved {w w' : World} {v : Value} {L : List Fld} (h : FldsOwn w v L) (hs : w.heap.size ≤ w'.heap.size) (hb : L ≠ [] → ∀ g, v.ownBlock = some g → w'.heap[g]? = w.heap[g]?) : FldsOwn w' v L := by
  rcases h with h | ⟨g, c, cs, t, rfl, hg, hc, h1⟩
  · exact .inl h
  · rcases Nat.eq_zero_or_pos L.length with h0 | h0
    · exact .inl ⟨List.length_eq_zero_iff.mp h0, _, _, by rw [h0]⟩
    · exact .inr ⟨g, c, cs, t, rfl, by omega, (hb (fun e => by rw [e] at h0; cases h0) g rfl).trans hc, h1⟩
/-- A row of vectors in a block that may be written, made since a base. -/
def VecsOwn (w : World) (base : Nat) (v : Value) (L : List Vec) : Prop :=
  (L = [] ∧ ∃ p c, v = .slice p 0 c) ∨ ∃ (g c : Nat) (S : Nat → Value) (cs : Array Value) (t : TypeId), v = .slice (some ⟨g, 0, none⟩) L.length c ∧ base ≤ g ∧ g < w.heap.size ∧ w.heap[g]? = some (.cells cs t (0, 0)) ∧
    (∀ j (h : j < L.length), cs[j * 2]? = some (.string (L[j]).name) ∧ cs[j * 2 + 1]? = some (S j)) ∧ ∀ j (h : j < L.length), IntsAt w (S j) (L[j]).v ∧ ((L[j]).v ≠ [] → ∀ k, (S j).ownBlock = some k → base ≤ k ∧ k ≠ g) ∧ CapOk (S j)
theorem VecsOwn.kept {w w' : World} {b : Nat} {v : Value} {L : List Vec} (h : VecsOwn w b v L) (hs : w.heap.size ≤ w'.heap.size) (hb : ∀ g, b ≤ g → g < w.heap.size → w'.heap[g]? = w.heap[g]?) : VecsOwn w' b v L := by
  rcases h with h | ⟨g, c, S, cs, t, h1, h2, h3, h4, h5, h6⟩
  · exact .inl h
  · refine .inr ⟨g, c, S, cs, t, h1, h2, by omega, (hb g h2 h3).trans h4, h5, fun j hj => ?_⟩
    obtain ⟨i1, i2, i3⟩ := h6 j hj
    refine ⟨?_, i2, i3⟩
    refine i1.moved hs fun hn k hk => ?_
    have hd := i2 hn k hk
    have hlt : k < w.heap.size := by
      rcases i1 with ⟨h0, _⟩ | ⟨b2, off, cc, hss, hb2, _⟩
      · exact absurd h0 hn
      · rw [hss] at hk; simp [Value.ownBlock] at hk; omega
    exact hb k hd.1 hlt
theorem VecsOwn.at {w : World} {base : Nat} {v : Value} {L : List Vec} (h : VecsOwn w base v L) : VecsAt w v L := by
  rcases h with h | ⟨g, c, S, cs, t, rfl, hb, hg, hc, h1, h2⟩
  · exact .inl h
  · refine .inr ⟨g, 0, c, S, rfl, hg, fun W hW j hj => ?_, fun j hj => (h2 j hj).1⟩
    obtain ⟨e0, e1⟩ := h1 j hj
    have hw := hW.trans hc
    rw [Nat.zero_add, Lib.cell_of_heap hw, Lib.cell_of_heap hw]
    exact ⟨e0, e1⟩
/-- One vector more. -/
theorem part_next {V wc wq W1 W2 : World} {a : Pt} {P k : Nat} {f s u' : Value} {x : Vec} {u : Value} {ss : List Value} {o : Obj} (hx : a.vecs[k]? = some x)
    (h1 : wq.heap[P]? = some (.cells #[.int .i64 a.id, u, f] 29 (0, 0))) (h2 : ss.length = k) (hown : wq.ownsRow wc.heap.size 43 2 u k (vCells (((a.vecs.take k).map (·.name)).zip ss)))
    (hin : ∀ j (h : j < a.vecs.length) (h' : j < ss.length), IntsAt wq ss[j] (a.vecs[j]).v ∧ ((a.vecs[j]).v ≠ [] → ∀ g, (ss[j]).ownBlock = some g → wc.heap.size ≤ g ∧ u.ownBlock ≠ some g) ∧ CapOk ss[j])
    (hff : FldsOwn wq f a.flds) (hfb : ∀ g, f.ownBlock = some g → a.flds ≠ [] → g ≠ P ∧ g < wc.heap.size ∧ V.heap.size ≤ g) (hbe : Below V.heap.size V wq) (hP1 : V.heap.size ≤ P) (hP2 : P < wc.heap.size) (hP3 : wc.heap.size ≤ wq.heap.size)
    (g1 : wq.drew.grownBy W1 none) (own1 : W1.ownsRow wq.heap.size 3 1 s x.v.length (iCells x.v))
    (own2 : W2.ownsRow wc.heap.size 43 2 u' (((a.vecs.take k).map (·.name)).zip ss ++ [(x.name, s)]).length (vCells (((a.vecs.take k).map (·.name)).zip ss ++ [(x.name, s)])))
    (g2 : (W1.alloc o).grownBy W2 u.ownBlock) (hu' : u'.ownBlock = u.ownBlock ∨ u'.ownBlock = some (W1.alloc o).heap.size) :
    Part V wc a P f (k + 1) (W2.setCell ⟨P, 1, none⟩ u') := by
  have hk : k < a.vecs.length := (List.getElem?_eq_some_iff.1 hx).1
  have hkx : a.vecs[k] = x := (List.getElem?_eq_some_iff.1 hx).2
  have s1 : wq.heap.size ≤ W1.heap.size := g1.size
  have s2 : W1.heap.size + 1 ≤ W2.heap.size := by have := g2.size; simpa using this
  have hub : ∀ g, u.ownBlock = some g → wc.heap.size ≤ g ∧ g < wq.heap.size := fun g hg => by
    rcases hown.2 with ⟨rfl, _⟩ | ⟨g2, cap, cur, rfl, hb, hc, _⟩
    · cases hg
    · simp [Value.ownBlock] at hg; subst hg
      exact ⟨hb, (Array.getElem?_eq_some_iff.1 hc).1⟩
  have keep : ∀ g, g < wq.heap.size → u.ownBlock ≠ some g → W2.heap[g]? = wq.heap[g]? := fun g hg hne => by
    rw [g2.block g (by simp; omega) (fun e => hne e.symm), heap_old W1 o (by omega), g1.block g hg (by simp)]
    rfl
  have keepS : ∀ g, g ≠ P → (W2.setCell ⟨P, 1, none⟩ u').heap[g]? = W2.heap[g]? := fun g hg => heap_setCell_other _ _ _ _ hg
  have hPu : u.ownBlock ≠ some P := fun e => by have := (hub P e).1; omega
  have hsz : (W2.setCell ⟨P, 1, none⟩ u').heap.size = W2.heap.size := by simp [World.setCell]
  have hlen : (((a.vecs.take k).map (·.name)).zip ss ++ [(x.name, s)]).length = k + 1 := by simp [h2]; omega
  have hzip : ((a.vecs.take (k + 1)).map (·.name)).zip (ss ++ [s]) = ((a.vecs.take k).map (·.name)).zip ss ++ [(x.name, s)] := by
    rw [List.take_add_one, hx, List.map_append, List.zip_append (by simp [h2]; omega)]
    rfl
  refine ⟨u', ss ++ [s], ?_, by simp [h2], ?_, ?_, ?_, hfb, ?_, hP1, hP2, by rw [hsz]; omega⟩
  · have := heap_setCell_same W2 P 1 _ _ u' ((keep P (by omega) hPu).trans h1)
    exact this
  · rw [hlen] at own2
    rw [hzip]
    exact own_other own2 hP2
  · intro j hj hj'
    rcases Nat.lt_or_ge j k with c | c
    · have hjs : j < ss.length := by omega
      have e : (ss ++ [s])[j] = ss[j] := List.getElem_append_left hjs
      rw [e]
      obtain ⟨i1, i2, i3⟩ := hin j hj hjs
      refine ⟨i1.moved (by rw [hsz]; omega) (fun hn g hg => ?_), fun hn g hg => ?_, i3⟩
      · have hd := i2 hn g hg
        have hlt : g < wq.heap.size := by
          rcases i1 with ⟨h0, _⟩ | ⟨b, off, cc, hs, hb, _⟩
          · exact absurd h0 hn
          · rw [hs] at hg; simp [Value.ownBlock] at hg; omega
        rw [keepS g (by omega)]
        exact keep g hlt hd.2
      · have hd := i2 hn g hg
        have hlt : g < wq.heap.size := by
          rcases i1 with ⟨h0, _⟩ | ⟨b, off, cc, hs, hb, _⟩
          · exact absurd h0 hn
          · rw [hs] at hg; simp [Value.ownBlock] at hg; omega
        refine ⟨hd.1, ?_⟩
        rcases hu' with e | e
        · rw [e]; exact hd.2
        · rw [e]; intro h; injection h with h; simp at h; omega
    · have hjk : j = k := by simp [h2] at hj'; omega
      subst hjk
      have e : (ss ++ [s])[j] = s := by rw [List.getElem_append_right (by omega)]; simp [h2]
      rw [e, hkx]
      have hi := own_ints own1
      have hsb : ∀ g, s.ownBlock = some g → wq.heap.size ≤ g ∧ g < W1.heap.size := fun g hg => by
        rcases own1.2 with ⟨rfl, _⟩ | ⟨g2, cap, cur, rfl, hb, hc, _⟩
        · cases hg
        · simp [Value.ownBlock] at hg; subst hg
          exact ⟨hb, (Array.getElem?_eq_some_iff.1 hc).1⟩
      have hcap : CapOk s := fun p n c e => by
        rcases own1.2 with ⟨e1, e2⟩ | ⟨g2, cap, cur, e1, hb, hc, hcp, _⟩
        · rw [e1] at e; injection e with _ e3 e4; omega
        · rw [e1] at e; injection e with _ e3 e4; omega
      refine ⟨hi.moved (by rw [hsz]; omega) (fun hn g hg => ?_), fun hn g hg => ?_, hcap⟩
      · have hd := hsb g hg
        rw [keepS g (by omega), g2.block g (by simp; omega) (fun e => by have := (hub g e.symm).2; omega)]
        exact heap_old W1 o hd.2
      · have hd := hsb g hg
        refine ⟨by omega, ?_⟩
        rcases hu' with e | e
        · rw [e]; intro h; have := (hub g h).2; omega
        · rw [e]; intro h; injection h with h; simp at h; omega
  · refine hff.moved (by rw [hsz]; omega) (fun hn g hg => ?_)
    have hd := hfb g hg hn
    rw [keepS g hd.1]
    exact keep g (by omega) (fun e => by have := (hub g e).1; omega)
  · have b1 : Below V.heap.size V W1 := (hbe.drew).grown g1 hbe.size (fun k hk => by cases hk)
    have b2 : Below V.heap.size V (W1.alloc o) := b1.alloc b1.size _
    exact (b2.grown g2 b2.size (fun g hg => by have := (hub g hg).1; omega)).setCell hP1 _
theorem part_all {V wc wq : World} {a : Pt} {P B : Nat} {f u : Value} {ss : List Value} {x y z : Value} (h2 : ss.length = a.vecs.length)
    (hown : wq.ownsRow wc.heap.size 43 2 u a.vecs.length (vCells (((a.vecs.take a.vecs.length).map (·.name)).zip ss)))
    (hin : ∀ j (h : j < a.vecs.length) (h' : j < ss.length), IntsAt wq ss[j] (a.vecs[j]).v ∧ ((a.vecs[j]).v ≠ [] → ∀ g, (ss[j]).ownBlock = some g → wc.heap.size ≤ g ∧ u.ownBlock ≠ some g) ∧ CapOk ss[j])
    (hff : FldsOwn wq f a.flds) (hfb : ∀ g, f.ownBlock = some g → a.flds ≠ [] → g ≠ P ∧ g < wc.heap.size ∧ V.heap.size ≤ g) (hB : B < V.heap.size) (hV : V.heap.size ≤ wc.heap.size) :
    VecsOwn (((wq.setCell ⟨B, 0, none⟩ x).setCell ⟨B, 1, none⟩ y).setCell ⟨B, 2, none⟩ z) wc.heap.size u a.vecs ∧ FldsOwn (((wq.setCell ⟨B, 0, none⟩ x).setCell ⟨B, 1, none⟩ y).setCell ⟨B, 2, none⟩ z) f a.flds := by
  have hsz : (((wq.setCell ⟨B, 0, none⟩ x).setCell ⟨B, 1, none⟩ y).setCell ⟨B, 2, none⟩ z).heap.size = wq.heap.size := by simp [World.setCell]
  have keep : ∀ g, g ≠ B → (((wq.setCell ⟨B, 0, none⟩ x).setCell ⟨B, 1, none⟩ y).setCell ⟨B, 2, none⟩ z).heap[g]? = wq.heap[g]? := fun g hg => by
    rw [heap_setCell_other _ _ _ _ hg, heap_setCell_other _ _ _ _ hg, heap_setCell_other _ _ _ _ hg]
  refine ⟨?_, hff.moved (by rw [hsz]; omega) fun hn g hg => keep g (by have := hfb g hg hn; omega)⟩
  rw [List.take_length] at hown
  rcases Nat.eq_zero_or_pos a.vecs.length with h0 | h0
  · rw [h0] at hown
    obtain ⟨p, c, rfl⟩ := own_nil hown
    exact .inl ⟨List.length_eq_zero_iff.mp h0, p, c, rfl⟩
  · rcases hown.2 with ⟨_, h00⟩ | ⟨g, cap, cur, rfl, hb, hg, hcap, hmax, -, htk⟩
    · omega
    have hlt : g < wq.heap.size := (Array.getElem?_eq_some_iff.1 hg).1
    have hl : ((a.vecs.map (·.name)).zip ss).length = a.vecs.length := by simp [h2]
    have hcell : ∀ i v, i < a.vecs.length * 2 → (vCells ((a.vecs.map (·.name)).zip ss))[i]? = some v → cur[i]? = some v := fun i v hi hv => by
      rw [← hv, ← htk, List.getElem?_take, if_pos hi, Array.getElem?_toList]
    refine .inr ⟨g, cap, fun j => (ss[j]?).getD .nilIface, cur, _, rfl, by omega, by rw [hsz]; exact hlt, (keep g (by omega)).trans hg, fun j hj => ?_, fun j hj => ?_⟩
    · obtain ⟨e0, e1⟩ := vCells_at ((a.vecs.map (·.name)).zip ss) j (by rw [hl]; exact hj)
      have hjs : j < ss.length := by omega
      have hz : ((a.vecs.map (·.name)).zip ss)[j]'(by rw [hl]; exact hj) = ((a.vecs[j]).name, ss[j]) := by simp
      rw [hz] at e0 e1
      exact ⟨hcell _ _ (by omega) e0, by simp only [List.getElem?_eq_getElem hjs, Option.getD_some]; exact hcell _ _ (by omega) e1⟩
    · have hjs : j < ss.length := by omega
      obtain ⟨i1, i2, i3⟩ := hin j hj hjs
      simp only [List.getElem?_eq_getElem hjs, Option.getD_some]
      refine ⟨i1.moved (by rw [hsz]; omega) fun hn g hg => keep g (by have := (i2 hn g hg).1; omega), ?_, i3⟩
      exact fun hn k hk => ⟨(i2 hn k hk).1, fun e => by subst e; exact (i2 hn k hk).2 rfl⟩
end Go.Proofs.YtfppemgagifmpaaDoor
