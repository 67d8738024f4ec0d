/- The document's own Copy: the copy as far as its k-th vector, and one vector more. Conditions: those that each theorem names. -/
import Derived.Test.YtifghohaelmjjaaDoorPlAp
import Derived.StillTailTactics
import Derived.Deep.DeepCutAuto
import Derived.Deep.RegionHeld3
import Derived.Laws.Rows
import Derived.Deep.RegionLaw
namespace Go.Proofs.YtifghohaelmjjaaDoor
set_option linter.unusedVariables false
open Go Go.RowKit Go.Shelf Pl
def zP : Obj := .cells #[.int .i64 0, .slice none 0 0, .slice none 0 0] 29
/-- A point that is being made: its box, its fields. -/
def Made (V : World) (i : Int) (L : List Fld) (P : Nat) (f : Value) (wx : World) : Prop :=
  wx.heap[P]? = some (.cells #[.int .i64 i, .slice none 0 0, f] 29 (0, 0)) ∧ FldsAt wx f L ∧ Below V.heap.size V wx ∧ V.heap.size ≤ P ∧ P < wx.heap.size ∧ ∀ g, f.ownBlock = some g → L ≠ [] → g ≠ P ∧ g < wx.heap.size ∧ V.heap.size ≤ g
theorem FldsAt.belowD {w w' : World} {v : Value} {L : List Fld} (h : FldsAt w v L) (hb : ∀ b, b < w.heap.size → w'.heap[b]? = w.heap[b]?) : FldsAt w' v L := by
  rcases h with h | ⟨b, off, c, rfl, hg, hc⟩
  · exact .inl h
  · have hlt : b < w'.heap.size := by
      have h1 := hb b hg
      rw [Array.getElem?_eq_getElem hg] at h1
      exact (Array.getElem?_eq_some_iff.1 h1).1
    exact .inr ⟨b, off, c, rfl, hlt, fun W hW => hc W (hW.trans (hb b hg))⟩
theorem own_slice {w : World} {base size n : Nat} {e : TypeId} {v : Value} {xs : List Value} (h : w.ownsRow base e size v n xs) : ∃ p c, v = .slice p n c := by
  rcases h.2 with ⟨rfl, rfl⟩ | ⟨g, cap, cur, rfl, _⟩
  · exact ⟨_, _, rfl⟩
  · exact ⟨_, _, rfl⟩
theorem own_other {w : World} {base size n g k : Nat} {e : TypeId} {v x : Value} {xs : List Value} (h : w.ownsRow base e size v n xs) (hg : g < base) : (w.setCell ⟨g, k, none⟩ x).ownsRow base e size v n xs := by
  refine ⟨h.1, ?_⟩
  rcases h.2 with h0 | ⟨g2, cap, cur, rfl, hb, hc, h1⟩
  · exact .inl h0
  · exact .inr ⟨g2, cap, cur, rfl, hb, (heap_setCell_other _ _ _ _ (by show g2 ≠ g; omega)).trans hc, h1⟩
theorem own_lt {w : World} {base size n g : Nat} {e : TypeId} {v : Value} {xs : List Value} (h : w.ownsRow base e size v n xs) (hg : v.ownBlock = some g) : base ≤ g ∧ g < w.heap.size := by
  rcases h.2 with ⟨rfl, _⟩ | ⟨g2, cap, cur, rfl, hb, hc, _⟩
  · cases hg
  · simp [Value.ownBlock] at hg; subst hg
    exact ⟨hb, (Array.getElem?_eq_some_iff.1 hc).1⟩
theorem made_new {V W1 : World} {i : Int} {L : List Fld} {f : Value} (h : W1.ownsRow V.heap.size 61 4 f L.length (fCells L)) (hb : Below V.heap.size V W1) :
    Made V i L W1.heap.size f (W1.alloc (.cells #[.int .i64 i, .slice none 0 0, f] 29)) :=
  ⟨heap_last _ _, (own_flds h).belowD fun b hb => heap_old W1 _ hb, hb.alloc hb.size _, hb.size, by simp, fun g hg _ => by have := own_lt h hg; simp; omega⟩
theorem made_set {V W2 : World} {i : Int} {L : List Fld} {f : Value} (h : W2.ownsRow (V.heap.size + 1) 61 4 f L.length (fCells L)) (hb : Below V.heap.size V W2)
    (he : W2.heap[V.heap.size]? = some (.cells #[.int .i64 0, .slice none 0 0, .slice none 0 0] 29 (0, 0))) :
    Made V i L V.heap.size f (((W2.setCell ⟨V.heap.size, 0, none⟩ (.int .i64 i)).setCell ⟨V.heap.size, 1, none⟩ (.slice none 0 0)).setCell ⟨V.heap.size, 2, none⟩ f) := by
  refine ⟨?_, own_flds (own_other (own_other (own_other h (Nat.lt_succ_self _)) (Nat.lt_succ_self _)) (Nat.lt_succ_self _)), ((hb.setCell (Nat.le_refl _) _).setCell (Nat.le_refl _) _).setCell (Nat.le_refl _) _, Nat.le_refl _, ?_, fun g hg _ => ?_⟩
  · have h1 := heap_setCell_same W2 V.heap.size 0 _ _ (.int .i64 i) he
    have h2 := heap_setCell_same _ V.heap.size 1 _ _ (.slice none 0 0) h1
    have h3 := heap_setCell_same _ V.heap.size 2 _ _ f h2
    exact h3
  · have hlt : V.heap.size < W2.heap.size := (Array.getElem?_eq_some_iff.1 he).1
    simpa [World.setCell] using hlt
  · have h1 := own_lt h hg
    refine ⟨by omega, ?_, by omega⟩
    simpa [World.setCell] using h1.2
theorem grown_below {B : Nat} {w w' : World} (h : w.grownBy w' none) (hB : B ≤ w.heap.size) : Below B w w' := (Below.refl _ _).grown h hB (fun k hk => by cases hk)
theorem grown_below3 {V W1 : World} (h : V.drew.grownBy W1 none) : Below V.heap.size V W1 :=
  ((Below.refl V.heap.size V).drew).grown h (Nat.le_refl _) (fun k hk => by cases hk)
theorem grown_below2 {V W2 : World} {o : Obj} (h : (V.alloc o).drew.grownBy W2 none) : Below V.heap.size V W2 :=
  ((fresh_alloc V o).drew).grown h (by show _ ≤ (V.alloc o).heap.size; simp) (fun k hk => by cases hk)
theorem own_same {w w' : World} {base size n : Nat} {e : TypeId} {v : Value} {xs : List Value} (h : w.ownsRow base e size v n xs) (hs : ∀ g, v.ownBlock = some g → w'.heap[g]? = w.heap[g]?) : w'.ownsRow base e size v n xs := by
  refine ⟨h.1, ?_⟩
  rcases h.2 with h0 | ⟨g2, cap, cur, rfl, hb, hc, h1⟩
  · exact .inl h0
  · exact .inr ⟨g2, cap, cur, rfl, hb, (hs g2 rfl).trans hc, h1⟩
/-- The copy as far as its k-th vector. -/
def Part (V wc : World) (a : Pt) (P : Nat) (f : Value) (k : Nat) (wx : World) : Prop :=
  ∃ (u : Value) (ss : List Value), wx.heap[P]? = some (.cells #[.int .i64 a.id, u, f] 29 (0, 0)) ∧ ss.length = k ∧
    wx.ownsRow wc.heap.size 59 2 u k (vCells (((a.vecs.take k).map (·.name)).zip ss)) ∧
    (∀ j (h : j < a.vecs.length) (h' : j < ss.length), IntsAt wx ss[j] (a.vecs[j]).v ∧ ((a.vecs[j]).v ≠ [] → ∀ g, (ss[j]).ownBlock = some g → wc.heap.size ≤ g ∧ u.ownBlock ≠ some g)) ∧
    FldsAt wx f a.flds ∧ (∀ g, f.ownBlock = some g → a.flds ≠ [] → g ≠ P ∧ g < wc.heap.size ∧ V.heap.size ≤ g) ∧ Below V.heap.size V wx ∧ V.heap.size ≤ P ∧ P < wc.heap.size ∧ wc.heap.size ≤ wx.heap.size
theorem part_zero {V wc : World} {a : Pt} {P : Nat} {f : Value} (h : Made V a.id a.flds P f wc) : Part V wc a P f 0 wc := by
  obtain ⟨h1, h2, h3, h4, h5, h6⟩ := h
  exact ⟨_, [], h1, rfl, by simpa [vCells] using World.ownsRow_nil _ _ _ _, (fun j _ h' => absurd h' (Nat.not_lt_zero _)), h2, h6, h3, h4, h5, Nat.le_refl _⟩
theorem IntsAt.moved {w w' : World} {v : Value} {L : List Int} (h : IntsAt w v L) (hs : w.heap.size ≤ w'.heap.size) (hb : L ≠ [] → ∀ g, v.ownBlock = some g → w'.heap[g]? = w.heap[g]?) : IntsAt w' v L := by
  rcases h with h | ⟨b, off, c, rfl, hg, hc⟩
  · exact .inl h
  · rcases Nat.eq_zero_or_pos L.length with h0 | h0
    · exact .inl ⟨List.length_eq_zero_iff.mp h0, _, _, by rw [h0]⟩
    · have e := hb (fun e => by rw [e] at h0; cases h0) b rfl
      exact .inr ⟨b, off, c, rfl, by omega, fun W hW => hc W (hW.trans e)⟩
theorem FldsAt.moved {w w' : World} {v : Value} {L : List Fld} (h : FldsAt w v L) (hs : w.heap.size ≤ w'.heap.size) (hb : L ≠ [] → ∀ g, v.ownBlock = some g → w'.heap[g]? = w.heap[g]?) : FldsAt w' v L := by
  rcases h with h | ⟨b, off, c, rfl, hg, hc⟩
  · exact .inl h
  · rcases Nat.eq_zero_or_pos L.length with h0 | h0
    · exact .inl ⟨List.length_eq_zero_iff.mp h0, _, _, by rw [h0]⟩
    · have e := hb (fun e => by rw [e] at h0; cases h0) b rfl
      exact .inr ⟨b, off, c, rfl, by omega, fun W hW => hc W (hW.trans e)⟩
/-- One vector more. -/
theorem part_next {V wc wq W1 W2 : World} {a : Pt} {P k : Nat} {f s u' : Value} {x : Vec} {u : Value} {ss : List Value} {o : Obj} (hx : a.vecs[k]? = some x)
    (h1 : wq.heap[P]? = some (.cells #[.int .i64 a.id, u, f] 29 (0, 0))) (h2 : ss.length = k) (hown : wq.ownsRow wc.heap.size 59 2 u k (vCells (((a.vecs.take k).map (·.name)).zip ss)))
    (hin : ∀ j (h : j < a.vecs.length) (h' : j < ss.length), IntsAt wq ss[j] (a.vecs[j]).v ∧ ((a.vecs[j]).v ≠ [] → ∀ g, (ss[j]).ownBlock = some g → wc.heap.size ≤ g ∧ u.ownBlock ≠ some g))
    (hff : FldsAt wq f a.flds) (hfb : ∀ g, f.ownBlock = some g → a.flds ≠ [] → g ≠ P ∧ g < wc.heap.size ∧ V.heap.size ≤ g) (hbe : Below V.heap.size V wq) (hP1 : V.heap.size ≤ P) (hP2 : P < wc.heap.size) (hP3 : wc.heap.size ≤ wq.heap.size)
    (g1 : wq.drew.grownBy W1 none) (own1 : W1.ownsRow wq.heap.size 3 1 s x.v.length (iCells x.v))
    (own2 : W2.ownsRow wc.heap.size 59 2 u' (((a.vecs.take k).map (·.name)).zip ss ++ [(x.name, s)]).length (vCells (((a.vecs.take k).map (·.name)).zip ss ++ [(x.name, s)])))
    (g2 : (W1.alloc o).grownBy W2 u.ownBlock) (hu' : u'.ownBlock = u.ownBlock ∨ u'.ownBlock = some (W1.alloc o).heap.size) :
    Part V wc a P f (k + 1) (W2.setCell ⟨P, 1, none⟩ u') := by
  have hk : k < a.vecs.length := (List.getElem?_eq_some_iff.1 hx).1
  have hkx : a.vecs[k] = x := (List.getElem?_eq_some_iff.1 hx).2
  have s1 : wq.heap.size ≤ W1.heap.size := g1.size
  have s2 : W1.heap.size + 1 ≤ W2.heap.size := by have := g2.size; simpa using this
  have hub : ∀ g, u.ownBlock = some g → wc.heap.size ≤ g ∧ g < wq.heap.size := fun g hg => by
    rcases hown.2 with ⟨rfl, _⟩ | ⟨g2, cap, cur, rfl, hb, hc, _⟩
    · cases hg
    · simp [Value.ownBlock] at hg; subst hg
      exact ⟨hb, (Array.getElem?_eq_some_iff.1 hc).1⟩
  have keep : ∀ g, g < wq.heap.size → u.ownBlock ≠ some g → W2.heap[g]? = wq.heap[g]? := fun g hg hne => by
    rw [g2.block g (by simp; omega) (fun e => hne e.symm), heap_old W1 o (by omega), g1.block g hg (by simp)]
    rfl
  have keepS : ∀ g, g ≠ P → (W2.setCell ⟨P, 1, none⟩ u').heap[g]? = W2.heap[g]? := fun g hg => heap_setCell_other _ _ _ _ hg
  have hPu : u.ownBlock ≠ some P := fun e => by have := (hub P e).1; omega
  have hsz : (W2.setCell ⟨P, 1, none⟩ u').heap.size = W2.heap.size := by simp [World.setCell]
  have hlen : (((a.vecs.take k).map (·.name)).zip ss ++ [(x.name, s)]).length = k + 1 := by simp [h2]; omega
  have hzip : ((a.vecs.take (k + 1)).map (·.name)).zip (ss ++ [s]) = ((a.vecs.take k).map (·.name)).zip ss ++ [(x.name, s)] := by
    rw [List.take_add_one, hx, List.map_append, List.zip_append (by simp [h2]; omega)]
    rfl
  refine ⟨u', ss ++ [s], ?_, by simp [h2], ?_, ?_, ?_, hfb, ?_, hP1, hP2, by rw [hsz]; omega⟩
  · have := heap_setCell_same W2 P 1 _ _ u' ((keep P (by omega) hPu).trans h1)
    exact this
  · rw [hlen] at own2
    rw [hzip]
    exact own_other own2 hP2
  · intro j hj hj'
    rcases Nat.lt_or_ge j k with c | c
    · have hjs : j < ss.length := by omega
      have e : (ss ++ [s])[j] = ss[j] := List.getElem_append_left hjs
      rw [e]
      obtain ⟨i1, i2⟩ := hin j hj hjs
      refine ⟨i1.moved (by rw [hsz]; omega) (fun hn g hg => ?_), fun hn g hg => ?_⟩
      · have hd := i2 hn g hg
        have hlt : g < wq.heap.size := by
          rcases i1 with ⟨h0, _⟩ | ⟨b, off, cc, hs, hb, _⟩
          · exact absurd h0 hn
          · rw [hs] at hg; simp [Value.ownBlock] at hg; omega
        rw [keepS g (by omega)]
        exact keep g hlt hd.2
      · have hd := i2 hn g hg
        have hlt : g < wq.heap.size := by
          rcases i1 with ⟨h0, _⟩ | ⟨b, off, cc, hs, hb, _⟩
          · exact absurd h0 hn
          · rw [hs] at hg; simp [Value.ownBlock] at hg; omega
        refine ⟨hd.1, ?_⟩
        rcases hu' with e | e
        · rw [e]; exact hd.2
        · rw [e]; intro h; injection h with h; simp at h; omega
    · have hjk : j = k := by simp [h2] at hj'; omega
      subst hjk
      have e : (ss ++ [s])[j] = s := by rw [List.getElem_append_right (by omega)]; simp [h2]
      rw [e, hkx]
      have hi := own_ints own1
      have hsb : ∀ g, s.ownBlock = some g → wq.heap.size ≤ g ∧ g < W1.heap.size := fun g hg => by
        rcases own1.2 with ⟨rfl, _⟩ | ⟨g2, cap, cur, rfl, hb, hc, _⟩
        · cases hg
        · simp [Value.ownBlock] at hg; subst hg
          exact ⟨hb, (Array.getElem?_eq_some_iff.1 hc).1⟩
      refine ⟨hi.moved (by rw [hsz]; omega) (fun hn g hg => ?_), fun hn g hg => ?_⟩
      · have hd := hsb g hg
        rw [keepS g (by omega), g2.block g (by simp; omega) (fun e => by have := (hub g e.symm).2; omega)]
        exact heap_old W1 o hd.2
      · have hd := hsb g hg
        refine ⟨by omega, ?_⟩
        rcases hu' with e | e
        · rw [e]; intro h; have := (hub g h).2; omega
        · rw [e]; intro h; injection h with h; simp at h; omega
  · refine hff.moved (by rw [hsz]; omega) (fun hn g hg => ?_)
    have hd := hfb g hg hn
    rw [keepS g hd.1]
    exact keep g (by omega) (fun e => by have := (hub g e).1; omega)
  · have b1 : Below V.heap.size V W1 := (hbe.drew).grown g1 hbe.size (fun k hk => by cases hk)
    have b2 : Below V.heap.size V (W1.alloc o) := b1.alloc b1.size _
    exact (b2.grown g2 b2.size (fun g hg => by have := (hub g hg).1; omega)).setCell hP1 _
theorem part_all {V wc wq : World} {a : Pt} {P B : Nat} {f u : Value} {ss : List Value} {x y z : Value} (h2 : ss.length = a.vecs.length)
    (hown : wq.ownsRow wc.heap.size 59 2 u a.vecs.length (vCells (((a.vecs.take a.vecs.length).map (·.name)).zip ss)))
    (hin : ∀ j (h : j < a.vecs.length) (h' : j < ss.length), IntsAt wq ss[j] (a.vecs[j]).v ∧ ((a.vecs[j]).v ≠ [] → ∀ g, (ss[j]).ownBlock = some g → wc.heap.size ≤ g ∧ u.ownBlock ≠ some g))
    (hff : FldsAt wq f a.flds) (hfb : ∀ g, f.ownBlock = some g → a.flds ≠ [] → g ≠ P ∧ g < wc.heap.size ∧ V.heap.size ≤ g) (hB : B < V.heap.size) (hV : V.heap.size ≤ wc.heap.size) :
    VecsAt (((wq.setCell ⟨B, 0, none⟩ x).setCell ⟨B, 1, none⟩ y).setCell ⟨B, 2, none⟩ z) u a.vecs ∧ FldsAt (((wq.setCell ⟨B, 0, none⟩ x).setCell ⟨B, 1, none⟩ y).setCell ⟨B, 2, none⟩ z) f a.flds := by
  have hsz : (((wq.setCell ⟨B, 0, none⟩ x).setCell ⟨B, 1, none⟩ y).setCell ⟨B, 2, none⟩ z).heap.size = wq.heap.size := by simp [World.setCell]
  have keep : ∀ g, g ≠ B → (((wq.setCell ⟨B, 0, none⟩ x).setCell ⟨B, 1, none⟩ y).setCell ⟨B, 2, none⟩ z).heap[g]? = wq.heap[g]? := fun g hg => by
    rw [heap_setCell_other _ _ _ _ hg, heap_setCell_other _ _ _ _ hg, heap_setCell_other _ _ _ _ hg]
  refine ⟨?_, hff.moved (by rw [hsz]; omega) fun hn g hg => keep g (by have := hfb g hg hn; omega)⟩
  rw [List.take_length] at hown
  rcases Nat.eq_zero_or_pos a.vecs.length with h0 | h0
  · rw [h0] at hown
    obtain ⟨p, c, rfl⟩ := own_nil hown
    exact .inl ⟨List.length_eq_zero_iff.mp h0, p, c, rfl⟩
  · obtain ⟨g, cap, rfl, hb, hg, hc⟩ := own_at hown h0
    have hl : ((a.vecs.map (·.name)).zip ss).length = a.vecs.length := by simp [h2]
    refine .inr ⟨g, 0, cap, fun j => (ss[j]?).getD .nilIface, rfl, by rw [hsz]; exact hg, fun W hW j hj => ?_, fun j hj => ?_⟩
    · obtain ⟨e0, e1⟩ := vCells_at ((a.vecs.map (·.name)).zip ss) j (by rw [hl]; exact hj)
      have hW' := hW.trans (keep g (by omega))
      have hjs : j < ss.length := by omega
      have hz : ((a.vecs.map (·.name)).zip ss)[j]'(by rw [hl]; exact hj) = ((a.vecs[j]).name, ss[j]) := by simp
      rw [hz] at e0 e1
      rw [Nat.zero_add]
      exact ⟨hc W hW' _ _ (by omega) e0, by simp only [List.getElem?_eq_getElem hjs, Option.getD_some]; exact hc W hW' _ _ (by omega) e1⟩
    · have hjs : j < ss.length := by omega
      obtain ⟨i1, i2⟩ := hin j hj hjs
      simp only [List.getElem?_eq_getElem hjs, Option.getD_some]
      exact i1.moved (by rw [hsz]; omega) fun hn g hg => keep g (by have := (i2 hn g hg).1; omega)
end Go.Proofs.YtifghohaelmjjaaDoor
