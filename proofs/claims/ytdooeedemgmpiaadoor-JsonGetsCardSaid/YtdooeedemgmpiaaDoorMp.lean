/- A map in memory, known by which value stands under which key: what a lookup, a store and a deletion do to it. Conditions: the keys are of one plain kind; those that each theorem names. -/
import Derived.Maps.Keyed
import Derived.Maps.Own
namespace Go.Proofs.YtdooeedemgmpiaaDoor
set_option linter.unusedVariables false
open Go.Maps Go.MapKept Go.RowKit
open Go.WideElems (Fit rd rg rd_key rd_mk)
open Go.ChangeMaps (setBlock)

def anyR : Value → Option (DataW Unit × List MemPlace) := fun _ => some (.nil, [])
/-- Block b of w is a map of n entries, in which S says what stands under what. -/
def Mp (P : Program) (k : TypeId) (w : World) (b : Nat) (S : Value → Value → Prop) (n : Nat) : Prop :=
  ∃ es clock, w.heap[b]? = some (.map es clock) ∧ Fit P k anyR es clock ∧ es.size = n ∧ ∀ y u, (∃ e ∈ es.toList, e.key = y ∧ e.val = u) ↔ S y u
/-- Only block b has turned. -/
structure Only (b : Nat) (w w' : World) : Prop where
  os : w'.os = w.os
  tape : w'.tape = w.tape
  output : w'.output = w.output
  size : w'.heap.size = w.heap.size
  block : ∀ i, i ≠ b → w'.heap[i]? = w.heap[i]?

theorem nodup_inj {α : Type} {l : List α} (h : l.Nodup) {i j : Nat} (hi : i < l.length) (hj : j < l.length) (e : l[i] = l[j]) : i = j := by
  rcases Nat.lt_trichotomy i j with c | c | c
  · exact absurd e (List.pairwise_iff_getElem.1 h i j hi hj c)
  · exact c
  · exact absurd e.symm (List.pairwise_iff_getElem.1 h j i hj hi c)
section
variable {P : Program} {k t e : TypeId} {w : World} {b n : Nat} {S : Value → Value → Prop}

theorem Mp.kept (h : Mp P k w b S n) {w' : World} (hb : w'.heap[b]? = w.heap[b]?) : Mp P k w' b S n := by
  obtain ⟨es, clock, h1, h2, h3, h4⟩ := h
  exact ⟨es, clock, hb.trans h1, h2, h3, h4⟩
theorem Mp.congr (h : Mp P k w b S n) {S' : Value → Value → Prop} (hS : ∀ y u, S y u ↔ S' y u) : Mp P k w b S' n := by
  obtain ⟨es, clock, h1, h2, h3, h4⟩ := h
  exact ⟨es, clock, h1, h2, h3, fun y u => (h4 y u).trans (hS y u)⟩
theorem Mp.lt (h : Mp P k w b S n) : b < w.heap.size := by
  obtain ⟨es, clock, h1, _⟩ := h
  exact (Array.getElem?_eq_some_iff.1 h1).1
theorem Mp.made (w : World) (k : TypeId) : Mp P k (w.alloc (.map #[] 0)) w.heap.size (fun _ _ => False) 0 :=
  ⟨#[], 0, by show (w.heap.push _)[w.heap.size]? = _; simp, ⟨by simp, ⟨by simp, by simp, by simp⟩, by simp⟩, rfl, fun y u => by simp⟩
theorem Mp.apart (h : Mp P k w b S n) {y u u' : Value} (h1 : S y u) (h2 : S y u') : u = u' := by
  obtain ⟨es, clock, hb, F, hn, hS⟩ := h
  obtain ⟨e1, m1, k1, v1⟩ := (hS _ _).2 h1
  obtain ⟨e2, m2, k2, v2⟩ := (hS _ _).2 h2
  have := F.stamped.2.2
  have he : e1 = e2 := by
    obtain ⟨i, hi, rfl⟩ := List.getElem_of_mem m1
    obtain ⟨j, hj, rfl⟩ := List.getElem_of_mem m2
    have hk : (es.toList.map (·.key))[i]'(by simpa using hi) = (es.toList.map (·.key))[j]'(by simpa using hj) := by
      simp only [List.getElem_map]; rw [k1, k2]
    have := nodup_inj this _ _ hk
    subst this; rfl
  rw [← v1, ← v2, he]

/-- What stands under a key is found. -/
theorem Mp.look (h : Mp P k w b S n) (K : Keyed P k) (ht : P.underlying t = some (.map k e)) {z : Value} (hz : ∀ W : World, (zeroValue e).run P W = .ok z W) {x v : Value} (hx : S x v) (c : Bool) :
    ∀ W : World, W.heap[b]? = w.heap[b]? → (Instr.lookup t (.map (some b)) x c).run P W = .ok (if c then .tuple #[v, .bool true] else v) W := by
  intro W hW
  obtain ⟨es, clock, hb, F, hn, hS⟩ := h.kept hW
  obtain ⟨e1, m1, k1, v1⟩ := (hS _ _).2 hx
  obtain ⟨l, hl⟩ := F.keys e1 m1
  rw [k1] at hl
  rcases K.find W hl es.toList F.keys with ⟨_, h2⟩ | ⟨j, e0, h1, h2, h3⟩
  · exact absurd k1 (h2 _ m1)
  · have he : e0.val = v := (h.kept hW).apart ((hS _ _).1 ⟨e0, List.mem_of_getElem? h2, h3, rfl⟩) hx
    cases c <;> simp [Instr.lookup, run_underlying ht, MapKept.run_getObj_map hb, K.check W _ hl, h1, he]
theorem Mp.miss (h : Mp P k w b S n) (K : Keyed P k) (ht : P.underlying t = some (.map k e)) {z : Value} (hz : ∀ W : World, (zeroValue e).run P W = .ok z W) {x : Value} {l : Lit} (hl : keyOf P k x = some l) (hx : ∀ v, ¬ S x v) (c : Bool) :
    ∀ W : World, W.heap[b]? = w.heap[b]? → (Instr.lookup t (.map (some b)) x c).run P W = .ok (if c then .tuple #[z, .bool false] else z) W := by
  intro W hW
  obtain ⟨es, clock, hb, F, hn, hS⟩ := h.kept hW
  rcases K.find W hl es.toList F.keys with ⟨h1, h2⟩ | ⟨j, e0, h1, h2, h3⟩
  · cases c <;> simp [Instr.lookup, run_underlying ht, MapKept.run_getObj_map hb, K.check W _ hl, h1, hz]
  · exact absurd ((hS _ _).1 ⟨e0, List.mem_of_getElem? h2, h3, rfl⟩) (hx _)
theorem look_none (K : Keyed P k) (ht : P.underlying t = some (.map k e)) {z : Value} (hz : ∀ W : World, (zeroValue e).run P W = .ok z W) {x : Value} {l : Lit} (hl : keyOf P k x = some l) (c : Bool) :
    ∀ W : World, (Instr.lookup t (.map none) x c).run P W = .ok (if c then .tuple #[z, .bool false] else z) W := by
  intro W
  rcases K.find W hl [] (by simp) with ⟨h1, h2⟩ | ⟨j, e0, h1, h2, h3⟩
  · cases c <;> simp [Instr.lookup, run_underlying ht, K.check W _ hl, h1, hz]
  · simp at h2
theorem setBlock_only (w : World) (b : Nat) (o : Obj) : Only b w (setBlock w b o) :=
  ⟨rfl, rfl, rfl, by simp [setBlock], fun i hi => by simp [setBlock, Ne.symm hi]⟩
theorem setBlock_ne {w : World} {b i : Nat} (o : Obj) (h : i ≠ b) : (setBlock w b o).heap[i]? = w.heap[i]? := (setBlock_only w b o).block i h
theorem setBlock_cell {w : World} {b i j : Nat} (o : Obj) (h : i ≠ b) : (setBlock w b o).cell? ⟨i, j, none⟩ = w.cell? ⟨i, j, none⟩ := World.cell?_of_block (w := w) (a := ⟨i, j, none⟩) (setBlock_ne o h)
theorem setBlock_frozen {w : World} {b i j : Nat} (o : Obj) (h : i ≠ b) : (setBlock w b o).frozen? ⟨i, j, none⟩ = w.frozen? ⟨i, j, none⟩ := World.frozen?_of_block (w := w) (a := ⟨i, j, none⟩) (setBlock_ne o h)
theorem setBlock_size (w : World) (b : Nat) (o : Obj) : (setBlock w b o).heap.size = w.heap.size := by simp [setBlock]
theorem setBlock_at {w : World} {b : Nat} (o : Obj) (h : b < w.heap.size) : (setBlock w b o).heap[b]? = some o := by simp [setBlock, h]

theorem only_one {es : Array MapEntry} {clock : Nat} (F : Fit P k anyR es clock) {i j : Nat} {e1 e2 : MapEntry} (h1 : es.toList[i]? = some e1) (h2 : es.toList[j]? = some e2) (hk : e1.key = e2.key) : i = j := by
  obtain ⟨hi, ex⟩ := List.getElem?_eq_some_iff.1 h1
  obtain ⟨hj, ey⟩ := List.getElem?_eq_some_iff.1 h2
  exact nodup_inj F.stamped.2.2 (by simpa using hi) (by simpa using hj) (by simp only [List.getElem_map]; rw [ex, ey, hk])

/-- A store under a key that is not there. -/
theorem Mp.put_new (h : Mp P k w b S n) (K : Keyed P k) (ht : P.underlying t = some (.map k e)) {x v : Value} {l : Lit} (hl : keyOf P k x = some l) (hx : ∀ v, ¬ S x v) (hn : n < maxLen) :
    ∃ o, (∀ X : World, X.heap[b]? = w.heap[b]? → (Instr.mapUpdate t (.map (some b)) x v).run P X = .ok () (setBlock X b o)) ∧ ∀ X : World, X.heap[b]? = some o → Mp P k X b (fun y u => (y = x ∧ u = v) ∨ (y ≠ x ∧ S y u)) (n + 1) := by
  obtain ⟨es, clock, hb, F, hs, hS⟩ := h
  have hno : ∀ e ∈ es.toList, e.key ≠ x := fun e he hk => hx e.val ((hS _ _).1 ⟨e, he, hk, rfl⟩)
  refine ⟨.map (es.push ⟨x, v, clock⟩) (clock + 1), fun X hX => ?_, fun X hX => ⟨es.push ⟨x, v, clock⟩, clock + 1, hX, ⟨by simp; omega, stamped_push F.stamped hno, ?_⟩, by simp [hs], ?_⟩⟩
  · rw [hb] at hX
    rcases K.find X hl es.toList F.keys with ⟨h1, h2⟩ | ⟨j, e0, h1, h2, h3⟩
    · simp [Instr.mapUpdate, run_underlying ht, MapKept.run_getObj_map hX, K.check X false hl, h1, MapKept.run_setObj_map _ hX, Result.andThen, setBlock]
    · exact absurd h3 (hno _ (List.mem_of_getElem? h2))
  · intro y hy
    simp only [Array.toList_push, List.mem_append, List.mem_singleton] at hy
    rcases hy with hy | rfl
    · exact F.reads y hy
    · exact ⟨_, rd_mk hl (R := anyR) rfl⟩
  · intro y u
    constructor
    · rintro ⟨e1, m1, k1, v1⟩
      simp only [Array.toList_push, List.mem_append, List.mem_singleton] at m1
      rcases m1 with m1 | rfl
      · exact .inr ⟨fun hyx => hno e1 m1 (k1.trans hyx), (hS _ _).1 ⟨e1, m1, k1, v1⟩⟩
      · exact .inl ⟨k1.symm, v1.symm⟩
    · rintro (⟨rfl, rfl⟩ | ⟨hne, hy⟩)
      · exact ⟨⟨y, u, clock⟩, by simp, rfl, rfl⟩
      · obtain ⟨e1, m1, k1, v1⟩ := (hS _ _).2 hy
        exact ⟨e1, by simp only [Array.toList_push, List.mem_append]; exact .inl m1, k1, v1⟩
/-- A store under a key that is there. -/
theorem Mp.put_old (h : Mp P k w b S n) (K : Keyed P k) (ht : P.underlying t = some (.map k e)) {x v u0 : Value} (hx : S x u0) :
    ∃ o, (∀ X : World, X.heap[b]? = w.heap[b]? → (Instr.mapUpdate t (.map (some b)) x v).run P X = .ok () (setBlock X b o)) ∧ ∀ X : World, X.heap[b]? = some o → Mp P k X b (fun y u => (y = x ∧ u = v) ∨ (y ≠ x ∧ S y u)) n := by
  obtain ⟨es, clock, hb, F, hs, hS⟩ := h
  obtain ⟨e1, m1, k1, v1⟩ := (hS _ _).2 hx
  obtain ⟨l, hl⟩ := F.keys e1 m1
  rw [k1] at hl
  obtain ⟨j, hjl, ej⟩ := List.getElem_of_mem m1
  have hj' : es.toList[j]? = some e1 := by rw [List.getElem?_eq_getElem hjl, ej]
  have hj : es[j]? = some e1 := by simpa using hj'
  have hkeyf : ∀ e', es[j]? = some e' → ({ e' with key := x, val := v } : MapEntry).key = e'.key := fun e' he' => by rw [hj] at he'; cases he'; exact k1.symm
  have hlist : (es.modify j (fun e' => { e' with key := x, val := v })).toList = es.toList.set j { e1 with key := x, val := v } := by rw [Array.toList_modify, Go.ChangeMaps.modify_eq_set _ _ _ _ hj']
  refine ⟨.map (es.modify j (fun e' => { e' with key := x, val := v })) clock, fun X hX => ?_, fun X hX => ⟨es.modify j (fun e' => { e' with key := x, val := v }), clock, hX, ⟨by simpa using F.size, stamped_modify F.stamped _ _ (fun _ _ => rfl) (fun e' _ he' => hkeyf e' he'), ?_⟩, by simpa using hs, ?_⟩⟩
  · rw [hb] at hX
    rcases K.find X hl es.toList F.keys with ⟨_, h2⟩ | ⟨j', e0, h1, h2, h3⟩
    · exact absurd k1 (h2 _ m1)
    · obtain rfl := only_one F h2 hj' (h3.trans k1.symm)
      simp [Instr.mapUpdate, run_underlying ht, MapKept.run_getObj_map hX, K.check X false hl, h1, hj, k1, K.stays X hl, MapKept.run_setObj_map _ hX, Result.andThen, setBlock]
  · intro y hy
    rw [hlist] at hy
    rcases List.mem_or_eq_of_mem_set hy with hy | rfl
    · exact F.reads y hy
    · exact ⟨_, rd_mk hl (R := anyR) rfl⟩
  · intro y u
    rw [hlist]
    constructor
    · rintro ⟨e2, m2, k2, v2⟩
      obtain ⟨i, hi, ex⟩ := List.getElem_of_mem m2
      rw [List.getElem_set] at ex
      split at ex
      · subst ex; exact .inl ⟨k2.symm, v2.symm⟩
      · rename_i hne
        have hi' : i < es.toList.length := by simpa using hi
        refine .inr ⟨fun hyx => hne ?_, (hS _ _).1 ⟨e2, ex ▸ List.getElem_mem hi', k2, v2⟩⟩
        exact only_one F hj' (show es.toList[i]? = some e2 by rw [List.getElem?_eq_getElem hi', ex]) (by rw [k1, k2, hyx])
    · rintro (⟨rfl, rfl⟩ | ⟨hne, hy⟩)
      · exact ⟨{ e1 with key := y, val := u }, List.mem_iff_getElem.2 ⟨j, by simpa using hjl, by simp⟩, rfl, rfl⟩
      · obtain ⟨e2, m2, k2, v2⟩ := (hS _ _).2 hy
        obtain ⟨i, hi, ex⟩ := List.getElem_of_mem m2
        have hij : j ≠ i := by
          rintro rfl
          rw [ej] at ex; subst ex
          exact hne (k2.symm.trans k1)
        exact ⟨e2, List.mem_iff_getElem.2 ⟨i, by simpa using hi, by rw [List.getElem_set_ne hij]; exact ex⟩, k2, v2⟩
/-- A deletion of a key that is there. -/
theorem Mp.del_old (h : Mp P k w b S n) (K : Keyed P k) (ht : P.underlying t = some (.map k e)) {x u0 : Value} {ty : TypeId} (hx : S x u0) :
    ∃ o, (∀ X : World, X.heap[b]? = w.heap[b]? → (Builtin.delete_ #[t, k] ty #[.map (some b), x]).run P X = .ok (.tuple #[]) (setBlock X b o)) ∧ ∀ X : World, X.heap[b]? = some o → Mp P k X b (fun y u => y ≠ x ∧ S y u) (n - 1) := by
  obtain ⟨es, clock, hb, F, hs, hS⟩ := h
  obtain ⟨e1, m1, k1, v1⟩ := (hS _ _).2 hx
  obtain ⟨l, hl⟩ := F.keys e1 m1
  rw [k1] at hl
  obtain ⟨j, hjl, ej⟩ := List.getElem_of_mem m1
  have hj' : es.toList[j]? = some e1 := by rw [List.getElem?_eq_getElem hjl, ej]
  have hjs : j < es.size := by simpa using hjl
  have hsub : (es.eraseIdxIfInBounds j).toList = es.toList.eraseIdx j := by
    unfold Array.eraseIdxIfInBounds
    rw [dif_pos hjs]
    simp
  refine ⟨.map (es.eraseIdxIfInBounds j) clock, fun X hX => ?_, fun X hX => ⟨es.eraseIdxIfInBounds j, clock, hX, ⟨Nat.le_trans (MapFrom.size_erase es j) F.size, stamped_erase F.stamped j, ?_⟩, ?_, ?_⟩⟩
  · rw [hb] at hX
    rcases K.find X hl es.toList F.keys with ⟨_, h2⟩ | ⟨j', e0, h1, h2, h3⟩
    · exact absurd k1 (h2 _ m1)
    · obtain rfl := only_one F h2 hj' (h3.trans k1.symm)
      simp [Builtin.delete_, run_underlying ht, MapKept.run_getObj_map hX, K.check X _ hl, h1, MapKept.run_setObj_map _ hX, Result.andThen, setBlock]
  · intro y hy
    rw [hsub] at hy
    exact F.reads y ((List.eraseIdx_sublist _ _).subset hy)
  · rw [← Array.length_toList, hsub, List.length_eraseIdx, if_pos hjl, Array.length_toList, hs]
  · intro y u
    rw [hsub]
    constructor
    · rintro ⟨e2, m2, k2, v2⟩
      obtain ⟨i, hne, hi⟩ := List.mem_eraseIdx_iff_getElem?.1 m2
      exact ⟨fun hyx => hne (only_one F hi hj' (by rw [k2, k1, hyx])), (hS _ _).1 ⟨e2, List.mem_of_getElem? hi, k2, v2⟩⟩
    · rintro ⟨hne, hy⟩
      obtain ⟨e2, m2, k2, v2⟩ := (hS _ _).2 hy
      obtain ⟨i, hi, ex⟩ := List.getElem_of_mem m2
      refine ⟨e2, List.mem_eraseIdx_iff_getElem?.2 ⟨i, ?_, ?_⟩, k2, v2⟩
      · rintro rfl
        rw [ej] at ex; subst ex
        exact hne (k2.symm.trans k1)
      · rw [List.getElem?_eq_getElem hi, ex]
/-- A deletion of a key that is not there. -/
theorem Mp.del_new (h : Mp P k w b S n) (K : Keyed P k) (ht : P.underlying t = some (.map k e)) {x : Value} {l : Lit} {ty : TypeId} (hl : keyOf P k x = some l) (hx : ∀ v, ¬ S x v) :
    ∃ o, (∀ X : World, X.heap[b]? = w.heap[b]? → (Builtin.delete_ #[t, k] ty #[.map (some b), x]).run P X = .ok (.tuple #[]) (setBlock X b o)) ∧ ∀ X : World, X.heap[b]? = some o → Mp P k X b (fun y u => y ≠ x ∧ S y u) n := by
  obtain ⟨es, clock, hb, F, hs, hS⟩ := h
  refine ⟨.map es clock, fun X hX => ?_, fun X hX => ⟨es, clock, hX, F, hs, ?_⟩⟩
  · rw [hb] at hX
    rcases K.find X hl es.toList F.keys with ⟨h1, h2⟩ | ⟨j, e0, h1, h2, h3⟩
    · simp [Builtin.delete_, run_underlying ht, MapKept.run_getObj_map hX, K.check X _ hl, h1, MapKept.run_setObj_map _ hX, Result.andThen, setBlock]
    · exact absurd ((hS _ _).1 ⟨e0, List.mem_of_getElem? h2, h3, rfl⟩) (hx _)
  · intro y u
    rw [hS]
    exact ⟨fun h => ⟨fun e => hx u (e ▸ h), h⟩, fun h => h.2⟩
theorem del_none (K : Keyed P k) (ht : P.underlying t = some (.map k e)) {x : Value} {l : Lit} {ty : TypeId} (hl : keyOf P k x = some l) (w : World) :
    (Builtin.delete_ #[t, k] ty #[.map none, x]).run P w = .ok (.tuple #[]) w := by
  simp [Builtin.delete_, run_underlying ht, K.check w _ hl]
end
end Go.Proofs.YtdooeedemgmpiaaDoor
