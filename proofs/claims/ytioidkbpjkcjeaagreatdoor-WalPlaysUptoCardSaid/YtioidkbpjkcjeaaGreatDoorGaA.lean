/- A map in memory, known by which value stands under which key: what a lookup, a store and a deletion do to it. Conditions: the keys are of one plain kind; those that each theorem names. A disk as plain data: names in their order, files, open changes, planned faults; what each call does to it. No program is named here. Conditions: none but those that each theorem names. How a disk of package disk lies in memory: which blocks are its own, and what each holds. Conditions: none but those that each theorem names. What the steps of a disk do: a fault that was planned is met, or none. How names of a disk are looked up and led elsewhere. How a name of a disk is led elsewhere. How names of a disk are led elsewhere, and what they led to is kept. Conditions: those that each theorem names. -/
import Derived.Maps.Keyed
import Derived.Maps.Own
import Derived.WalkKit
import Derived.Test.YtioidkbpjkcjeaaGreatDoorRows
import Derived.Laws.Rows
import Derived.Lib.Hide
import Derived.Lib.SmallJoins
import Derived.BigRegion
import Derived.Deep.RegionHeld3
import Derived.Deep.QuietTactic
import Derived.BigQuiet
import Derived.Outline
import Derived.WalkSpells
import Derived.WalkLawsBesides
import Derived.Deep.AppendLies
import Derived.OwnWalk
namespace Go.Proofs.YtioidkbpjkcjeaaGreatDoor
set_option linter.unusedVariables false
open Go.Maps Go.MapKept Go.RowKit
open Go.WideElems (Fit rd rg rd_key rd_mk)
open Go.ChangeMaps (setBlock)

def anyR : Value → Option (DataW Unit × List MemPlace) := fun _ => some (.nil, [])
/-- Block b of w is a map of n entries, in which S says what stands under what. -/
def Mp (P : Program) (k : TypeId) (w : World) (b : Nat) (S : Value → Value → Prop) (n : Nat) : Prop :=
  ∃ es clock, w.heap[b]? = some (.map es clock) ∧ Fit P k anyR es clock ∧ es.size = n ∧ ∀ y u, (∃ e ∈ es.toList, e.key = y ∧ e.val = u) ↔ S y u
/-- Only block b has turned. -/
structure Only (b : Nat) (w w' : World) : Prop where
  os : w'.os = w.os
  tape : w'.tape = w.tape
  output : w'.output = w.output
  size : w'.heap.size = w.heap.size
  block : ∀ i, i ≠ b → w'.heap[i]? = w.heap[i]?

theorem nodup_inj {α : Type} {l : List α} (h : l.Nodup) {i j : Nat} (hi : i < l.length) (hj : j < l.length) (e : l[i] = l[j]) : i = j := by
  rcases Nat.lt_trichotomy i j with c | c | c
  · exact absurd e (List.pairwise_iff_getElem.1 h i j hi hj c)
  · exact c
  · exact absurd e.symm (List.pairwise_iff_getElem.1 h j i hj hi c)
section
variable {P : Program} {k t e : TypeId} {w : World} {b n : Nat} {S : Value → Value → Prop}

theorem Mp.kept (h : Mp P k w b S n) {w' : World} (hb : w'.heap[b]? = w.heap[b]?) : Mp P k w' b S n := by
  obtain ⟨es, clock, h1, h2, h3, h4⟩ := h
  exact ⟨es, clock, hb.trans h1, h2, h3, h4⟩
theorem Mp.congr (h : Mp P k w b S n) {S' : Value → Value → Prop} (hS : ∀ y u, S y u ↔ S' y u) : Mp P k w b S' n := by
  obtain ⟨es, clock, h1, h2, h3, h4⟩ := h
  exact ⟨es, clock, h1, h2, h3, fun y u => (h4 y u).trans (hS y u)⟩
theorem Mp.lt (h : Mp P k w b S n) : b < w.heap.size := by
  obtain ⟨es, clock, h1, _⟩ := h
  exact (Array.getElem?_eq_some_iff.1 h1).1
theorem Mp.made (w : World) (k : TypeId) : Mp P k (w.alloc (.map #[] 0)) w.heap.size (fun _ _ => False) 0 :=
  ⟨#[], 0, by show (w.heap.push _)[w.heap.size]? = _; simp, ⟨by simp, ⟨by simp, by simp, by simp⟩, by simp⟩, rfl, fun y u => by simp⟩
theorem Mp.apart (h : Mp P k w b S n) {y u u' : Value} (h1 : S y u) (h2 : S y u') : u = u' := by
  obtain ⟨es, clock, hb, F, hn, hS⟩ := h
  obtain ⟨e1, m1, k1, v1⟩ := (hS _ _).2 h1
  obtain ⟨e2, m2, k2, v2⟩ := (hS _ _).2 h2
  have := F.stamped.2.2
  have he : e1 = e2 := by
    obtain ⟨i, hi, rfl⟩ := List.getElem_of_mem m1
    obtain ⟨j, hj, rfl⟩ := List.getElem_of_mem m2
    have hk : (es.toList.map (·.key))[i]'(by simpa using hi) = (es.toList.map (·.key))[j]'(by simpa using hj) := by
      simp only [List.getElem_map]; rw [k1, k2]
    have := nodup_inj this _ _ hk
    subst this; rfl
  rw [← v1, ← v2, he]

/-- What stands under a key is found. -/
theorem Mp.look (h : Mp P k w b S n) (K : Keyed P k) (ht : P.underlying t = some (.map k e)) {z : Value} (hz : ∀ W : World, (zeroValue e).run P W = .ok z W) {x v : Value} (hx : S x v) (c : Bool) :
    ∀ W : World, W.heap[b]? = w.heap[b]? → (Instr.lookup t (.map (some b)) x c).run P W = .ok (if c then .tuple #[v, .bool true] else v) W := by
  intro W hW
  obtain ⟨es, clock, hb, F, hn, hS⟩ := h.kept hW
  obtain ⟨e1, m1, k1, v1⟩ := (hS _ _).2 hx
  obtain ⟨l, hl⟩ := F.keys e1 m1
  rw [k1] at hl
  rcases K.find W hl es.toList F.keys with ⟨_, h2⟩ | ⟨j, e0, h1, h2, h3⟩
  · exact absurd k1 (h2 _ m1)
  · have he : e0.val = v := (h.kept hW).apart ((hS _ _).1 ⟨e0, List.mem_of_getElem? h2, h3, rfl⟩) hx
    cases c <;> simp [Instr.lookup, run_underlying ht, MapKept.run_getObj_map hb, K.check W _ hl, h1, he]
theorem Mp.miss (h : Mp P k w b S n) (K : Keyed P k) (ht : P.underlying t = some (.map k e)) {z : Value} (hz : ∀ W : World, (zeroValue e).run P W = .ok z W) {x : Value} {l : Lit} (hl : keyOf P k x = some l) (hx : ∀ v, ¬ S x v) (c : Bool) :
    ∀ W : World, W.heap[b]? = w.heap[b]? → (Instr.lookup t (.map (some b)) x c).run P W = .ok (if c then .tuple #[z, .bool false] else z) W := by
  intro W hW
  obtain ⟨es, clock, hb, F, hn, hS⟩ := h.kept hW
  rcases K.find W hl es.toList F.keys with ⟨h1, h2⟩ | ⟨j, e0, h1, h2, h3⟩
  · cases c <;> simp [Instr.lookup, run_underlying ht, MapKept.run_getObj_map hb, K.check W _ hl, h1, hz]
  · exact absurd ((hS _ _).1 ⟨e0, List.mem_of_getElem? h2, h3, rfl⟩) (hx _)
theorem look_none (K : Keyed P k) (ht : P.underlying t = some (.map k e)) {z : Value} (hz : ∀ W : World, (zeroValue e).run P W = .ok z W) {x : Value} {l : Lit} (hl : keyOf P k x = some l) (c : Bool) :
    ∀ W : World, (Instr.lookup t (.map none) x c).run P W = .ok (if c then .tuple #[z, .bool false] else z) W := by
  intro W
  rcases K.find W hl [] (by simp) with ⟨h1, h2⟩ | ⟨j, e0, h1, h2, h3⟩
  · cases c <;> simp [Instr.lookup, run_underlying ht, K.check W _ hl, h1, hz]
  · simp at h2
theorem setBlock_only (w : World) (b : Nat) (o : Obj) : Only b w (setBlock w b o) :=
  ⟨rfl, rfl, rfl, by simp [setBlock], fun i hi => by simp [setBlock, Ne.symm hi]⟩
theorem setBlock_ne {w : World} {b i : Nat} (o : Obj) (h : i ≠ b) : (setBlock w b o).heap[i]? = w.heap[i]? := (setBlock_only w b o).block i h
theorem setBlock_cell {w : World} {b i j : Nat} (o : Obj) (h : i ≠ b) : (setBlock w b o).cell? ⟨i, j, none⟩ = w.cell? ⟨i, j, none⟩ := World.cell?_of_block (w := w) (a := ⟨i, j, none⟩) (setBlock_ne o h)
theorem setBlock_frozen {w : World} {b i j : Nat} (o : Obj) (h : i ≠ b) : (setBlock w b o).frozen? ⟨i, j, none⟩ = w.frozen? ⟨i, j, none⟩ := World.frozen?_of_block (w := w) (a := ⟨i, j, none⟩) (setBlock_ne o h)
theorem setBlock_size (w : World) (b : Nat) (o : Obj) : (setBlock w b o).heap.size = w.heap.size := by simp [setBlock]
theorem setBlock_at {w : World} {b : Nat} (o : Obj) (h : b < w.heap.size) : (setBlock w b o).heap[b]? = some o := by simp [setBlock, h]

theorem only_one {es : Array MapEntry} {clock : Nat} (F : Fit P k anyR es clock) {i j : Nat} {e1 e2 : MapEntry} (h1 : es.toList[i]? = some e1) (h2 : es.toList[j]? = some e2) (hk : e1.key = e2.key) : i = j := by
  obtain ⟨hi, ex⟩ := List.getElem?_eq_some_iff.1 h1
  obtain ⟨hj, ey⟩ := List.getElem?_eq_some_iff.1 h2
  exact nodup_inj F.stamped.2.2 (by simpa using hi) (by simpa using hj) (by simp only [List.getElem_map]; rw [ex, ey, hk])

/-- A store under a key that is not there. -/
theorem Mp.put_new (h : Mp P k w b S n) (K : Keyed P k) (ht : P.underlying t = some (.map k e)) {x v : Value} {l : Lit} (hl : keyOf P k x = some l) (hx : ∀ v, ¬ S x v) (hn : n < maxLen) :
    ∃ o, (∀ X : World, X.heap[b]? = w.heap[b]? → (Instr.mapUpdate t (.map (some b)) x v).run P X = .ok () (setBlock X b o)) ∧ ∀ X : World, X.heap[b]? = some o → Mp P k X b (fun y u => (y = x ∧ u = v) ∨ (y ≠ x ∧ S y u)) (n + 1) := by
  obtain ⟨es, clock, hb, F, hs, hS⟩ := h
  have hno : ∀ e ∈ es.toList, e.key ≠ x := fun e he hk => hx e.val ((hS _ _).1 ⟨e, he, hk, rfl⟩)
  refine ⟨.map (es.push ⟨x, v, clock⟩) (clock + 1), fun X hX => ?_, fun X hX => ⟨es.push ⟨x, v, clock⟩, clock + 1, hX, ⟨by simp; omega, stamped_push F.stamped hno, ?_⟩, by simp [hs], ?_⟩⟩
  · rw [hb] at hX
    rcases K.find X hl es.toList F.keys with ⟨h1, h2⟩ | ⟨j, e0, h1, h2, h3⟩
    · simp [Instr.mapUpdate, run_underlying ht, MapKept.run_getObj_map hX, K.check X false hl, h1, MapKept.run_setObj_map _ hX, Result.andThen, setBlock]
    · exact absurd h3 (hno _ (List.mem_of_getElem? h2))
  · intro y hy
    simp only [Array.toList_push, List.mem_append, List.mem_singleton] at hy
    rcases hy with hy | rfl
    · exact F.reads y hy
    · exact ⟨_, rd_mk hl (R := anyR) rfl⟩
  · intro y u
    constructor
    · rintro ⟨e1, m1, k1, v1⟩
      simp only [Array.toList_push, List.mem_append, List.mem_singleton] at m1
      rcases m1 with m1 | rfl
      · exact .inr ⟨fun hyx => hno e1 m1 (k1.trans hyx), (hS _ _).1 ⟨e1, m1, k1, v1⟩⟩
      · exact .inl ⟨k1.symm, v1.symm⟩
    · rintro (⟨rfl, rfl⟩ | ⟨hne, hy⟩)
      · exact ⟨⟨y, u, clock⟩, by simp, rfl, rfl⟩
      · obtain ⟨e1, m1, k1, v1⟩ := (hS _ _).2 hy
        exact ⟨e1, by simp only [Array.toList_push, List.mem_append]; exact .inl m1, k1, v1⟩
/-- A store under a key that is there. -/
theorem Mp.put_old (h : Mp P k w b S n) (K : Keyed P k) (ht : P.underlying t = some (.map k e)) {x v u0 : Value} (hx : S x u0) :
    ∃ o, (∀ X : World, X.heap[b]? = w.heap[b]? → (Instr.mapUpdate t (.map (some b)) x v).run P X = .ok () (setBlock X b o)) ∧ ∀ X : World, X.heap[b]? = some o → Mp P k X b (fun y u => (y = x ∧ u = v) ∨ (y ≠ x ∧ S y u)) n := by
  obtain ⟨es, clock, hb, F, hs, hS⟩ := h
  obtain ⟨e1, m1, k1, v1⟩ := (hS _ _).2 hx
  obtain ⟨l, hl⟩ := F.keys e1 m1
  rw [k1] at hl
  obtain ⟨j, hjl, ej⟩ := List.getElem_of_mem m1
  have hj' : es.toList[j]? = some e1 := by rw [List.getElem?_eq_getElem hjl, ej]
  have hj : es[j]? = some e1 := by simpa using hj'
  have hkeyf : ∀ e', es[j]? = some e' → ({ e' with key := x, val := v } : MapEntry).key = e'.key := fun e' he' => by rw [hj] at he'; cases he'; exact k1.symm
  have hlist : (es.modify j (fun e' => { e' with key := x, val := v })).toList = es.toList.set j { e1 with key := x, val := v } := by rw [Array.toList_modify, Go.ChangeMaps.modify_eq_set _ _ _ _ hj']
  refine ⟨.map (es.modify j (fun e' => { e' with key := x, val := v })) clock, fun X hX => ?_, fun X hX => ⟨es.modify j (fun e' => { e' with key := x, val := v }), clock, hX, ⟨by simpa using F.size, stamped_modify F.stamped _ _ (fun _ _ => rfl) (fun e' _ he' => hkeyf e' he'), ?_⟩, by simpa using hs, ?_⟩⟩
  · rw [hb] at hX
    rcases K.find X hl es.toList F.keys with ⟨_, h2⟩ | ⟨j', e0, h1, h2, h3⟩
    · exact absurd k1 (h2 _ m1)
    · obtain rfl := only_one F h2 hj' (h3.trans k1.symm)
      simp [Instr.mapUpdate, run_underlying ht, MapKept.run_getObj_map hX, K.check X false hl, h1, hj, k1, K.stays X hl, MapKept.run_setObj_map _ hX, Result.andThen, setBlock]
  · intro y hy
    rw [hlist] at hy
    rcases List.mem_or_eq_of_mem_set hy with hy | rfl
    · exact F.reads y hy
    · exact ⟨_, rd_mk hl (R := anyR) rfl⟩
  · intro y u
    rw [hlist]
    constructor
    · rintro ⟨e2, m2, k2, v2⟩
      obtain ⟨i, hi, ex⟩ := List.getElem_of_mem m2
      rw [List.getElem_set] at ex
      split at ex
      · subst ex; exact .inl ⟨k2.symm, v2.symm⟩
      · rename_i hne
        have hi' : i < es.toList.length := by simpa using hi
        refine .inr ⟨fun hyx => hne ?_, (hS _ _).1 ⟨e2, ex ▸ List.getElem_mem hi', k2, v2⟩⟩
        exact only_one F hj' (show es.toList[i]? = some e2 by rw [List.getElem?_eq_getElem hi', ex]) (by rw [k1, k2, hyx])
    · rintro (⟨rfl, rfl⟩ | ⟨hne, hy⟩)
      · exact ⟨{ e1 with key := y, val := u }, List.mem_iff_getElem.2 ⟨j, by simpa using hjl, by simp⟩, rfl, rfl⟩
      · obtain ⟨e2, m2, k2, v2⟩ := (hS _ _).2 hy
        obtain ⟨i, hi, ex⟩ := List.getElem_of_mem m2
        have hij : j ≠ i := by
          rintro rfl
          rw [ej] at ex; subst ex
          exact hne (k2.symm.trans k1)
        exact ⟨e2, List.mem_iff_getElem.2 ⟨i, by simpa using hi, by rw [List.getElem_set_ne hij]; exact ex⟩, k2, v2⟩
/-- A deletion of a key that is there. -/
theorem Mp.del_old (h : Mp P k w b S n) (K : Keyed P k) (ht : P.underlying t = some (.map k e)) {x u0 : Value} {ty : TypeId} (hx : S x u0) :
    ∃ o, (∀ X : World, X.heap[b]? = w.heap[b]? → (Builtin.delete_ #[t, k] ty #[.map (some b), x]).run P X = .ok (.tuple #[]) (setBlock X b o)) ∧ ∀ X : World, X.heap[b]? = some o → Mp P k X b (fun y u => y ≠ x ∧ S y u) (n - 1) := by
  obtain ⟨es, clock, hb, F, hs, hS⟩ := h
  obtain ⟨e1, m1, k1, v1⟩ := (hS _ _).2 hx
  obtain ⟨l, hl⟩ := F.keys e1 m1
  rw [k1] at hl
  obtain ⟨j, hjl, ej⟩ := List.getElem_of_mem m1
  have hj' : es.toList[j]? = some e1 := by rw [List.getElem?_eq_getElem hjl, ej]
  have hjs : j < es.size := by simpa using hjl
  have hsub : (es.eraseIdxIfInBounds j).toList = es.toList.eraseIdx j := by
    unfold Array.eraseIdxIfInBounds
    rw [dif_pos hjs]
    simp
  refine ⟨.map (es.eraseIdxIfInBounds j) clock, fun X hX => ?_, fun X hX => ⟨es.eraseIdxIfInBounds j, clock, hX, ⟨Nat.le_trans (MapFrom.size_erase es j) F.size, stamped_erase F.stamped j, ?_⟩, ?_, ?_⟩⟩
  · rw [hb] at hX
    rcases K.find X hl es.toList F.keys with ⟨_, h2⟩ | ⟨j', e0, h1, h2, h3⟩
    · exact absurd k1 (h2 _ m1)
    · obtain rfl := only_one F h2 hj' (h3.trans k1.symm)
      simp [Builtin.delete_, run_underlying ht, MapKept.run_getObj_map hX, K.check X _ hl, h1, MapKept.run_setObj_map _ hX, Result.andThen, setBlock]
  · intro y hy
    rw [hsub] at hy
    exact F.reads y ((List.eraseIdx_sublist _ _).subset hy)
  · rw [← Array.length_toList, hsub, List.length_eraseIdx, if_pos hjl, Array.length_toList, hs]
  · intro y u
    rw [hsub]
    constructor
    · rintro ⟨e2, m2, k2, v2⟩
      obtain ⟨i, hne, hi⟩ := List.mem_eraseIdx_iff_getElem?.1 m2
      exact ⟨fun hyx => hne (only_one F hi hj' (by rw [k2, k1, hyx])), (hS _ _).1 ⟨e2, List.mem_of_getElem? hi, k2, v2⟩⟩
    · rintro ⟨hne, hy⟩
      obtain ⟨e2, m2, k2, v2⟩ := (hS _ _).2 hy
      obtain ⟨i, hi, ex⟩ := List.getElem_of_mem m2
      refine ⟨e2, List.mem_eraseIdx_iff_getElem?.2 ⟨i, ?_, ?_⟩, k2, v2⟩
      · rintro rfl
        rw [ej] at ex; subst ex
        exact hne (k2.symm.trans k1)
      · rw [List.getElem?_eq_getElem hi, ex]
/-- A deletion of a key that is not there. -/
theorem Mp.del_new (h : Mp P k w b S n) (K : Keyed P k) (ht : P.underlying t = some (.map k e)) {x : Value} {l : Lit} {ty : TypeId} (hl : keyOf P k x = some l) (hx : ∀ v, ¬ S x v) :
    ∃ o, (∀ X : World, X.heap[b]? = w.heap[b]? → (Builtin.delete_ #[t, k] ty #[.map (some b), x]).run P X = .ok (.tuple #[]) (setBlock X b o)) ∧ ∀ X : World, X.heap[b]? = some o → Mp P k X b (fun y u => y ≠ x ∧ S y u) n := by
  obtain ⟨es, clock, hb, F, hs, hS⟩ := h
  refine ⟨.map es clock, fun X hX => ?_, fun X hX => ⟨es, clock, hX, F, hs, ?_⟩⟩
  · rw [hb] at hX
    rcases K.find X hl es.toList F.keys with ⟨h1, h2⟩ | ⟨j, e0, h1, h2, h3⟩
    · simp [Builtin.delete_, run_underlying ht, MapKept.run_getObj_map hX, K.check X _ hl, h1, MapKept.run_setObj_map _ hX, Result.andThen, setBlock]
    · exact absurd ((hS _ _).1 ⟨e0, List.mem_of_getElem? h2, h3, rfl⟩) (hx _)
  · intro y u
    rw [hS]
    exact ⟨fun h => ⟨fun e => hx u (e ▸ h), h⟩, fun h => h.2⟩
theorem del_none (K : Keyed P k) (ht : P.underlying t = some (.map k e)) {x : Value} {l : Lit} {ty : TypeId} (hl : keyOf P k x = some l) (w : World) :
    (Builtin.delete_ #[t, k] ty #[.map none, x]).run P w = .ok (.tuple #[]) w := by
  simp [Builtin.delete_, run_underlying ht, K.check w _ hl]
end
end Go.Proofs.YtioidkbpjkcjeaaGreatDoor
namespace Go.Proofs.YtioidkbpjkcjeaaGreatDoor
namespace Dk

/-! ### names -/
abbrev Nm := ByteArray
def ltN (a b : Nm) : Bool := decide (a.data.toList < b.data.toList)
theorem ltN_irrefl (a : Nm) : ltN a a = false := by simp [ltN, List.lt_irrefl]
theorem ltN_trans {a b c : Nm} (h : ltN a b = true) (k : ltN b c = true) : ltN a c = true := by
  simp only [ltN, decide_eq_true_eq] at *; exact List.lt_trans h k
theorem nm_ext {a b : Nm} (h : a.data.toList = b.data.toList) : a = b := by
  cases a; cases b; simp at h; rw [h]
theorem ltN_total {a b : Nm} (h : a ≠ b) : ltN a b = true ∨ ltN b a = true := by
  simp only [ltN, decide_eq_true_eq]
  by_cases c : a.data.toList < b.data.toList
  · exact .inl c
  · refine .inr ?_
    have c' := List.not_lt.1 c
    rcases List.le_iff_lt_or_eq.1 c' with d | d
    · exact d
    · exact absurd (nm_ext d.symm) h
def Sorted (L : List (Nm × Nat)) : Prop := L.Pairwise (fun p q => ltN p.1 q.1 = true)
def nmGet (L : List (Nm × Nat)) (n : Nm) : Option Nat := (L.find? (fun p => decide (p.1 = n))).map (·.2)
def nmDel (L : List (Nm × Nat)) (n : Nm) : List (Nm × Nat) := L.filter (fun p => decide (p.1 ≠ n))
def nmPut (L : List (Nm × Nat)) (n : Nm) (i : Nat) : List (Nm × Nat) := (nmDel L n).takeWhile (fun p => ltN p.1 n) ++ (n, i) :: (nmDel L n).dropWhile (fun p => ltN p.1 n)
def nmSet (L : List (Nm × Nat)) (x : Nm × Option Nat) : List (Nm × Nat) := match x.2 with | none => nmDel L x.1 | some i => nmPut L x.1 i

theorem mem_nmDel {L : List (Nm × Nat)} {n : Nm} {p : Nm × Nat} : p ∈ nmDel L n ↔ p.1 ≠ n ∧ p ∈ L := by simp [nmDel, and_comm]
theorem mem_nmPut {L : List (Nm × Nat)} {n : Nm} {i : Nat} {p : Nm × Nat} : p ∈ nmPut L n i ↔ p = (n, i) ∨ (p.1 ≠ n ∧ p ∈ L) := by
  have h : p ∈ nmDel L n ↔ p ∈ (nmDel L n).takeWhile (fun p => ltN p.1 n) ∨ p ∈ (nmDel L n).dropWhile (fun p => ltN p.1 n) := by
    rw [← List.mem_append, List.takeWhile_append_dropWhile]
  rw [mem_nmDel] at h
  rw [h]
  simp only [nmPut, List.mem_append, List.mem_cons]
  constructor
  · rintro (a | a | a)
    · exact .inr (.inl a)
    · exact .inl a
    · exact .inr (.inr a)
  · rintro (a | a | a)
    · exact .inr (.inl a)
    · exact .inl a
    · exact .inr (.inr a)
theorem Sorted.inj {L : List (Nm × Nat)} (h : Sorted L) {n : Nm} {i j : Nat} (a : (n, i) ∈ L) (b : (n, j) ∈ L) : i = j := by
  obtain ⟨x, hx, ex⟩ := List.getElem_of_mem a
  obtain ⟨y, hy, ey⟩ := List.getElem_of_mem b
  rcases Nat.lt_trichotomy x y with c | c | c
  · have := List.pairwise_iff_getElem.1 h x y hx hy c
    rw [ex, ey, ltN_irrefl] at this; cases this
  · subst c; rw [ex] at ey; exact (Prod.mk.inj ey).2
  · have := List.pairwise_iff_getElem.1 h y x hy hx c
    rw [ex, ey, ltN_irrefl] at this; cases this
theorem nmGet_some {L : List (Nm × Nat)} (h : Sorted L) {n : Nm} {i : Nat} : nmGet L n = some i ↔ (n, i) ∈ L := by
  unfold nmGet
  constructor
  · intro e
    cases hf : L.find? (fun p => decide (p.1 = n)) with
    | none => rw [hf] at e; cases e
    | some p =>
      rw [hf] at e
      have h1 := List.find?_some hf
      have h2 := List.mem_of_find?_eq_some hf
      simp only [decide_eq_true_eq] at h1
      simp only [Option.map_some, Option.some.injEq] at e
      rw [← h1, ← e]; exact h2
  · intro m
    cases hf : L.find? (fun p => decide (p.1 = n)) with
    | none => have := List.find?_eq_none.1 hf _ m; simp at this
    | some p =>
      have h1 := List.find?_some hf
      have h2 := List.mem_of_find?_eq_some hf
      simp only [decide_eq_true_eq] at h1
      have h3 : (n, p.2) ∈ L := by rw [← h1]; exact h2
      simp only [Option.map_some, Option.some.injEq]
      exact h.inj h3 m
theorem nmGet_none {L : List (Nm × Nat)} {n : Nm} : nmGet L n = none ↔ ∀ i, (n, i) ∉ L := by
  unfold nmGet
  rw [Option.map_eq_none_iff, List.find?_eq_none]
  constructor
  · intro h i m; have := h _ m; simp at this
  · intro h p m; simp only [decide_eq_true_eq]; rintro rfl; exact h p.2 m
theorem sorted_nmDel {L : List (Nm × Nat)} (h : Sorted L) (n : Nm) : Sorted (nmDel L n) := List.Pairwise.filter _ h
theorem dropWhile_all {L : List (Nm × Nat)} (h : Sorted L) (n : Nm) (hn : ∀ p ∈ L, p.1 ≠ n) : ∀ p ∈ L.dropWhile (fun p => ltN p.1 n), ltN n p.1 = true := by
  induction L with
  | nil => intro p hp; simp at hp
  | cons x r ih =>
    intro p hp
    obtain ⟨h1, h2⟩ := List.pairwise_cons.1 h
    rw [List.dropWhile_cons] at hp
    split at hp
    · exact ih h2 (fun q hq => hn q (by simp [hq])) p hp
    · rename_i hx
      have hnx : ltN n x.1 = true := by
        rcases ltN_total (hn x (by simp)) with c | c
        · exact absurd c hx
        · exact c
      rcases List.mem_cons.1 hp with rfl | hp
      · exact hnx
      · exact ltN_trans hnx (h1 p hp)
theorem takeWhile_all {L : List (Nm × Nat)} (n : Nm) : ∀ p ∈ L.takeWhile (fun p => ltN p.1 n), ltN p.1 n = true := by
  induction L with
  | nil => intro p hp; simp at hp
  | cons x r ih =>
    intro p hp
    rw [List.takeWhile_cons] at hp
    split at hp
    · rename_i hx
      rcases List.mem_cons.1 hp with rfl | hp
      · exact hx
      · exact ih p hp
    · simp at hp
theorem sorted_nmPut {L : List (Nm × Nat)} (h : Sorted L) (n : Nm) (i : Nat) : Sorted (nmPut L n i) := by
  have hd := sorted_nmDel h n
  have hne : ∀ p ∈ nmDel L n, p.1 ≠ n := fun p hp => (mem_nmDel.1 hp).1
  unfold nmPut Sorted
  rw [List.pairwise_append]
  refine ⟨hd.sublist (List.takeWhile_sublist _), List.pairwise_cons.2 ⟨fun p hp => dropWhile_all hd n hne p hp, hd.sublist (List.dropWhile_sublist _)⟩, ?_⟩
  intro p hp q hq
  have hpn := takeWhile_all n p hp
  rcases List.mem_cons.1 hq with rfl | hq
  · exact hpn
  · exact ltN_trans hpn (dropWhile_all hd n hne q hq)
theorem sorted_nmSet {L : List (Nm × Nat)} (h : Sorted L) (x : Nm × Option Nat) : Sorted (nmSet L x) := by
  unfold nmSet; split
  · exact sorted_nmDel h _
  · exact sorted_nmPut h _ _
theorem nmDel_none {L : List (Nm × Nat)} {n : Nm} (h : nmGet L n = none) : nmDel L n = L := by
  have := nmGet_none.1 h
  unfold nmDel
  rw [List.filter_eq_self]
  intro p hp
  simp only [decide_eq_true_eq]
  rintro rfl; exact this p.2 hp
theorem length_nmDel_some {L : List (Nm × Nat)} (hs : Sorted L) {n : Nm} {i : Nat} (h : nmGet L n = some i) : (nmDel L n).length = L.length - 1 := by
  have hm := (nmGet_some hs).1 h
  clear h
  induction L with
  | nil => simp at hm
  | cons x r ih =>
    obtain ⟨h1, h2⟩ := List.pairwise_cons.1 hs
    rcases List.mem_cons.1 hm with rfl | hm
    · have : nmDel r n = r := by
        unfold nmDel; rw [List.filter_eq_self]; intro p hp; simp only [decide_eq_true_eq]; intro e
        have := h1 p hp; simp only [e, ltN_irrefl] at this; cases this
      unfold nmDel at this ⊢
      rw [List.filter_cons, if_neg (by simp), this]
      simp
    · have hx : x.1 ≠ n := by
        intro e
        have := h1 _ hm; simp only [e, ltN_irrefl] at this; cases this
      have := ih h2 hm
      have hl : 0 < r.length := List.length_pos_of_mem hm
      unfold nmDel at *
      rw [List.filter_cons, if_pos (by simpa using hx)]
      simp only [List.length_cons, this]; omega
theorem length_nmPut {L : List (Nm × Nat)} (n : Nm) (i : Nat) : (nmPut L n i).length = (nmDel L n).length + 1 := by
  have h : (nmDel L n).length = ((nmDel L n).takeWhile (fun p => ltN p.1 n)).length + ((nmDel L n).dropWhile (fun p => ltN p.1 n)).length := by
    rw [← List.length_append, List.takeWhile_append_dropWhile]
  unfold nmPut
  rw [List.length_append, List.length_cons]; omega
theorem length_nmDel_le (L : List (Nm × Nat)) (n : Nm) : (nmDel L n).length ≤ L.length := List.length_filter_le _ _
theorem length_nmSet_le (L : List (Nm × Nat)) (x : Nm × Option Nat) : (nmSet L x).length ≤ L.length + 1 := by
  unfold nmSet; split
  · have := length_nmDel_le L x.1; omega
  · rw [length_nmPut]; have := length_nmDel_le L x.1; omega

/-! ### the disk -/
structure FileC where
  data : List UInt8
  synced : Nat
structure DSt where
  names : List (Nm × Nat)
  opn : List (List (Nm × Option Nat))
  files : List FileC
  steps : Int
  plan : List (Int × Int × Int)
def new : DSt := ⟨[], [], [], 0, []⟩
def FileC.cut (f : FileC) (k : Nat) : FileC := ⟨f.data.take k, min f.synced (f.data.take k).length⟩
def linkOk (k : Nat) (x : Nm × Option Nat) : Prop := x.1.size ≤ maxLen ∧ ∀ i, x.2 = some i → i < k
structure DSt.Ok (D : DSt) : Prop where
  sorted : Sorted D.names
  named : ∀ p ∈ D.names, p.1.size ≤ maxLen ∧ p.2 < D.files.length
  opened : ∀ l ∈ D.opn, ∀ x ∈ l, linkOk D.files.length x
  synced : ∀ f ∈ D.files, f.synced ≤ f.data.length ∧ f.data.length ≤ maxLen
def DSt.tick (D : DSt) : DSt := { D with steps := D.steps + 1, plan := D.plan.filter (fun p => decide (p.1 ≠ D.steps + 1)) }
def DSt.hit (D : DSt) : Option (Int × Int × Int) := D.plan.find? (fun p => decide (p.1 = D.steps + 1))
def befores : List (Nm × Nat) → List (Nm × Option Nat) → List (Nm × Option Nat)
  | _, [] => []
  | L, x :: r => (x.1, nmGet L x.1) :: befores (nmSet L x) r
def DSt.relink (D : DSt) (l : List (Nm × Option Nat)) : DSt := { D with names := l.foldl nmSet D.names, opn := D.opn ++ [befores D.names l] }
def DSt.begun (D : DSt) (n : Nm) : DSt := match nmGet D.names n with | some _ => D | none => (DSt.mk D.names D.opn (D.files ++ [FileC.mk [] 0]) D.steps D.plan).relink [(n, some D.files.length)]
def DSt.at (D : DSt) (n : Nm) : Nat := (nmGet D.names n).getD D.files.length
def DSt.lay (D : DSt) (n : Nm) (s : List UInt8) : DSt := { D.begun n with files := (D.begun n).files.modify (D.at n) (fun f => { f with data := f.data ++ s }) }
def hitErr (f : Int × Int × Int) : Int := if f.2.1 = 3 then 23 else 22
def undoOne (L : List (Nm × Nat)) (l : List (Nm × Option Nat)) : List (Nm × Nat) := l.foldl nmSet L
def DSt.undo (D : DSt) (keep : Nat) : DSt := { D with names := (D.opn.drop keep).reverse.foldl undoOne D.names }
/-- how many open bytes the crash leaves of the file whose name stands at place j -/
def left (l : List Int) (j : Nat) : Nat := if l.length = 0 then 0 else (max (l.getD (j % l.length) 0) 0).toNat
def FileC.crash (f : FileC) (b : Nat) : FileC := ⟨f.data.take (f.synced + min b (f.data.length - f.synced)), (f.data.take (f.synced + min b (f.data.length - f.synced))).length⟩
def crashFiles (bs : List Int) : List (Nm × Nat) → Nat → List FileC → List FileC
  | [], _, fs => fs
  | p :: r, j, fs => crashFiles bs r (j + 1) (fs.modify p.2 (fun f => f.crash (left bs j)))
def DSt.crash (D : DSt) (keep : Nat) (bs : List Int) : DSt :=
  { D.undo keep with files := crashFiles bs (D.undo keep).names 0 D.files, opn := [], plan := [] }

theorem befores_length (L : List (Nm × Nat)) (l : List (Nm × Option Nat)) : (befores L l).length = l.length := by
  induction l generalizing L with
  | nil => rfl
  | cons x r ih => simp [befores, ih]
end Dk
end Go.Proofs.YtioidkbpjkcjeaaGreatDoor
namespace Go.Proofs.YtioidkbpjkcjeaaGreatDoor
set_option linter.unusedVariables false
open Go.RowKit Dk

/-! ### frames -/
/-- Of what was there only blocks whose mark is one of S's have turned; marks stay; a mark is laid on new blocks alone. -/
structure Fr (S : Nat × Nat → Prop) (ρ ρ' : Nat → Nat × Nat) (w w' : World) : Prop where
  os : w'.os = w.os
  tape : w'.tape = w.tape
  output : w'.output = w.output
  size : w.heap.size ≤ w'.heap.size
  block : ∀ b, b < w.heap.size → ¬ S (ρ b) → w'.heap[b]? = w.heap[b]?
  keep : ∀ b, ρ b ≠ (0, 0) → ρ' b = ρ b
  stay : ∀ b, b < w.heap.size → ρ b = (0, 0) → ρ' b = (0, 0)
  out : ∀ b, w'.heap.size ≤ b → ρ' b = (0, 0)
/-- All marks but that of strangers. -/
def own (r : Nat × Nat) : Prop := r ≠ (0, 0)
theorem Fr.weaken {S S' : Nat × Nat → Prop} {ρ ρ' : Nat → Nat × Nat} {w w' : World} (h : Fr S ρ ρ' w w') (hs : ∀ r, S r → S' r) : Fr S' ρ ρ' w w' :=
  ⟨h.os, h.tape, h.output, h.size, fun b hb hn => h.block b hb (fun x => hn (hs _ x)), h.keep, h.stay, h.out⟩
theorem Fr.trans {ρ ρ1 ρ2 : Nat → Nat × Nat} {w w1 w2 : World} (h : Fr own ρ ρ1 w w1) (k : Fr own ρ1 ρ2 w1 w2) : Fr own ρ ρ2 w w2 where
  os := k.os.trans h.os
  tape := k.tape.trans h.tape
  output := k.output.trans h.output
  size := Nat.le_trans h.size k.size
  block b hb hn := by
    have e : ρ b = (0, 0) := Classical.byContradiction hn
    have e1 := h.stay b hb e
    exact (k.block b (Nat.lt_of_lt_of_le hb h.size) (fun x => x e1)).trans (h.block b hb hn)
  keep b hn := by
    have := h.keep b hn
    rw [k.keep b (by rw [this]; exact hn), this]
  stay b hb e := k.stay b (Nat.lt_of_lt_of_le hb h.size) (h.stay b hb e)
  out := k.out
/-- What the disk does not own is as it was, from the first block of it on. -/
theorem Fr.below {ρ ρ' : Nat → Nat × Nat} {w w' : World} (h : Fr own ρ ρ' w w') {B : Nat} (hB : ∀ b, b < B → ρ b = (0, 0)) (hs : B ≤ w.heap.size) : Below B w w' :=
  ⟨h.os, h.tape, h.output, h.size, fun k hk => h.block k (Nat.lt_of_lt_of_le hk hs) (fun x => x (hB k hk))⟩
theorem Fr.below_marks {S : Nat × Nat → Prop} {ρ ρ' : Nat → Nat × Nat} {w w' : World} (h : Fr S ρ ρ' w w') {B : Nat} (hB : ∀ b, b < B → ρ b = (0, 0)) (hs : B ≤ w.heap.size) : ∀ b, b < B → ρ' b = (0, 0) :=
  fun b hb => h.stay b (Nat.lt_of_lt_of_le hb hs) (hB b hb)
/-- Memory of others turns, and new blocks come: nothing of the disk's. -/
theorem Fr.others {ρ : Nat → Nat × Nat} {w w' : World} (os : w'.os = w.os) (tape : w'.tape = w.tape) (output : w'.output = w.output) (size : w.heap.size ≤ w'.heap.size) (hb : ∀ b, b < w.heap.size → ρ b ≠ (0, 0) → w'.heap[b]? = w.heap[b]?) (hout : ∀ b, w.heap.size ≤ b → ρ b = (0, 0)) : Fr (fun r => r = (0, 0)) ρ ρ w w' :=
  ⟨os, tape, output, size, fun b hlt hn => hb b hlt hn, fun _ _ => rfl, fun _ _ h => h, fun b hs => hout b (Nat.le_trans size hs)⟩

theorem ownsRow_same {w w' : World} {base n size : Nat} {e : TypeId} {v : Value} {xs : List Value} (h : w.ownsRow base e size v n xs) (hb : ∀ g, v.ownBlock = some g → w'.heap[g]? = w.heap[g]?) : w'.ownsRow base e size v n xs := by
  refine ⟨h.1, ?_⟩
  rcases h.2 with hn | ⟨g, cap, cur, rfl, h1, h2, rest⟩
  · exact .inl hn
  · exact .inr ⟨g, cap, cur, rfl, h1, (hb g rfl).trans h2, rest⟩
theorem ownsRow_lt {w : World} {base n size : Nat} {e : TypeId} {v : Value} {xs : List Value} (h : w.ownsRow base e size v n xs) : ∀ g, v.ownBlock = some g → g < w.heap.size := fun g hg => (h.lt g hg).2

/-! ### the parts -/
def fileV (B : Nat) : Value := .pointer (some ⟨B, 0, none⟩)
def ptrV (fb : List Nat) (o : Option Nat) : Value := .pointer (o.bind fun i => (fb[i]?).map fun B => ⟨B, 0, none⟩)
def linkCells (fb : List Nat) (x : Nm × Option Nat) : List Value := [.string x.1, ptrV fb x.2]
def u8s (l : List UInt8) : List Value := l.map fun c => .int .u8 c.toNat
def faultV (f : Int × Int × Int) : Value := .agg #[.int .i64 f.1, .int .i64 f.2.1, .int .i64 f.2.2]
def namesS (fb : List Nat) (L : List (Nm × Nat)) (y u : Value) : Prop := ∃ n i B, (n, i) ∈ L ∧ fb[i]? = some B ∧ y = .string n ∧ u = fileV B
def planS (L : List (Int × Int × Int)) (y u : Value) : Prop := ∃ f ∈ L, y = .int .i64 f.1 ∧ u = faultV f
def NamesAt (w : World) (ρ : Nat → Nat × Nat) (fb : List Nat) (m : Option Nat) (L : List (Nm × Nat)) : Prop :=
  (m = none ∧ L = []) ∨ ∃ b, m = some b ∧ ρ b = (2, 0) ∧ Mp Tryz.prog 9 w b (namesS fb L) L.length
def PlanAt (w : World) (ρ : Nat → Nat × Nat) (pl : Option Nat) (L : List (Int × Int × Int)) : Prop :=
  (pl = none ∧ L = []) ∨ ∃ b k, pl = some b ∧ ρ b = (7, 0) ∧ Mp Tryz.prog 3 w b (planS L) k
def ChgAt (w : World) (ρ : Nat → Nat × Nat) (fb : List Nat) (i : Nat) (v : Value) (l : List (Nm × Option Nat)) : Prop :=
  w.ownsRow 0 144 2 v l.length (l.flatMap (linkCells fb)) ∧ ∀ g, v.ownBlock = some g → ρ g = (4, i)
def OpenAt (w : World) (ρ : Nat → Nat × Nat) (fb : List Nat) (op : Value) (L : List (List (Nm × Option Nat))) : Prop :=
  ∃ vs : List Value, w.ownsRow 0 142 1 op L.length vs ∧ (∀ g, op.ownBlock = some g → ρ g = (3, 0)) ∧ ∀ i l, L[i]? = some l → ∃ v, vs[i]? = some v ∧ ChgAt w ρ fb i v l
def FileAt (w : World) (ρ : Nat → Nat × Nat) (i : Nat) (B : Nat) (f : FileC) : Prop :=
  ρ B = (5, i) ∧ ∃ v, w.heap[B]? = some (.cells #[v, .int .i64 f.synced] 82 (0, 0)) ∧ w.ownsRow 0 5 1 v f.data.length (u8s f.data) ∧ ∀ g, v.ownBlock = some g → ρ g = (6, i)
def FilesAt (w : World) (ρ : Nat → Nat × Nat) (fb : List Nat) (fs : List FileC) : Prop :=
  fb.length = fs.length ∧ ∀ i f, fs[i]? = some f → ∃ B, fb[i]? = some B ∧ FileAt w ρ i B f
def topCells (m : Option Nat) (op : Value) (n : Int) (pl : Option Nat) : Array Value := #[.map m, op, .int .i64 n, .map pl]
structure DiskAt (w : World) (A : Nat) (D : DSt) (ρ : Nat → Nat × Nat) (fb : List Nat) : Prop where
  ok : D.Ok
  out : ∀ b, w.heap.size ≤ b → ρ b = (0, 0)
  role : ρ A = (1, 0)
  top : ∃ m op pl, w.heap[A]? = some (.cells (topCells m op D.steps pl) 59 (0, 0)) ∧ NamesAt w ρ fb m D.names ∧ OpenAt w ρ fb op D.opn ∧ PlanAt w ρ pl D.plan
  files : FilesAt w ρ fb D.files

/-! ### what stays -/
section
variable {S : Nat × Nat → Prop} {ρ ρ' : Nat → Nat × Nat} {w w' : World} {fb : List Nat}
theorem Fr.at {b : Nat} {r : Nat × Nat} (h : Fr S ρ ρ' w w') (hb : b < w.heap.size) (hr : ρ b = r) (hs : ¬ S r) : w'.heap[b]? = w.heap[b]? := h.block b hb (by rw [hr]; exact hs)
theorem Fr.mark {b : Nat} {r : Nat × Nat} (h : Fr S ρ ρ' w w') (hr : ρ b = r) (hn : r ≠ (0, 0)) : ρ' b = r := by rw [h.keep b (by rw [hr]; exact hn), hr]
theorem NamesAt.fr {m : Option Nat} {L : List (Nm × Nat)} (h : NamesAt w ρ fb m L) (F : Fr S ρ ρ' w w') (hs : ¬ S (2, 0)) : NamesAt w' ρ' fb m L := by
  rcases h with h | ⟨b, h1, h2, h3⟩
  · exact .inl h
  · exact .inr ⟨b, h1, F.mark h2 (by simp), h3.kept (F.at h3.lt h2 hs)⟩
theorem PlanAt.fr {m : Option Nat} {L : List (Int × Int × Int)} (h : PlanAt w ρ m L) (F : Fr S ρ ρ' w w') (hs : ¬ S (7, 0)) : PlanAt w' ρ' m L := by
  rcases h with h | ⟨b, k, h1, h2, h3⟩
  · exact .inl h
  · exact .inr ⟨b, k, h1, F.mark h2 (by simp), h3.kept (F.at h3.lt h2 hs)⟩
theorem ChgAt.fr {i : Nat} {v : Value} {l : List (Nm × Option Nat)} (h : ChgAt w ρ fb i v l) (F : Fr S ρ ρ' w w') (hs : ¬ S (4, i)) : ChgAt w' ρ' fb i v l :=
  ⟨ownsRow_same h.1 (fun g hg => F.at (ownsRow_lt h.1 g hg) (h.2 g hg) hs), fun g hg => F.mark (h.2 g hg) (by simp)⟩
theorem OpenAt.fr {op : Value} {L : List (List (Nm × Option Nat))} (h : OpenAt w ρ fb op L) (F : Fr S ρ ρ' w w') (hs : ¬ S (3, 0)) (hs' : ∀ i, ¬ S (4, i)) : OpenAt w' ρ' fb op L := by
  obtain ⟨vs, h1, h2, h3⟩ := h
  refine ⟨vs, ownsRow_same h1 (fun g hg => F.at (ownsRow_lt h1 g hg) (h2 g hg) hs), fun g hg => F.mark (h2 g hg) (by simp), fun i l hl => ?_⟩
  obtain ⟨v, hv, hc⟩ := h3 i l hl
  exact ⟨v, hv, hc.fr F (hs' i)⟩
theorem FileAt.fr {i B : Nat} {f : FileC} (h : FileAt w ρ i B f) (F : Fr S ρ ρ' w w') (hs : ¬ S (5, i)) (hs' : ¬ S (6, i)) : FileAt w' ρ' i B f := by
  obtain ⟨h1, v, h2, h3, h4⟩ := h
  exact ⟨F.mark h1 (by simp), v, (F.at (Array.getElem?_eq_some_iff.1 h2).1 h1 hs).trans h2, ownsRow_same h3 (fun g hg => F.at (ownsRow_lt h3 g hg) (h4 g hg) hs'), fun g hg => F.mark (h4 g hg) (by simp)⟩
theorem FilesAt.fr {fs : List FileC} (h : FilesAt w ρ fb fs) (F : Fr S ρ ρ' w w') (hs : ∀ i, ¬ S (5, i)) (hs' : ∀ i, ¬ S (6, i)) : FilesAt w' ρ' fb fs :=
  ⟨h.1, fun i f hf => let ⟨B, h1, h2⟩ := h.2 i f hf; ⟨B, h1, h2.fr F (hs i) (hs' i)⟩⟩
theorem DiskAt.others {A : Nat} {D : DSt} (h : DiskAt w A D ρ fb) (F : Fr (fun r => r = (0, 0)) ρ ρ' w w') : DiskAt w' A D ρ' fb := by
  obtain ⟨ok, out, role, ⟨m, op, pl, h1, h2, h3, h4⟩, files⟩ := h
  exact ⟨ok, F.out, F.mark role (by simp), ⟨m, op, pl, (F.at (Array.getElem?_eq_some_iff.1 h1).1 role (by simp)).trans h1, h2.fr F (by simp), h3.fr F (by simp) (by simp), h4.fr F (by simp)⟩, files.fr F (by simp) (by simp)⟩
theorem DiskAt.lt {A : Nat} {D : DSt} (h : DiskAt w A D ρ fb) : A < w.heap.size := by
  obtain ⟨m, op, pl, h1, _⟩ := h.top
  exact (Array.getElem?_eq_some_iff.1 h1).1
/-- New blocks come that no call has shown to anybody. -/
theorem DiskAt.alloc {A : Nat} {D : DSt} (h : DiskAt w A D ρ fb) (o : Obj) : DiskAt (w.alloc o) A D ρ fb :=
  h.others (Fr.others rfl rfl rfl (by simp) (fun b hb _ => Below.heap_alloc _ _ _ hb) h.out)
theorem DiskAt.drew {A : Nat} {D : DSt} (h : DiskAt w A D ρ fb) : DiskAt w.drew A D ρ fb :=
  h.others (Fr.others rfl rfl rfl (Nat.le_refl _) (fun b hb _ => rfl) h.out)
end
theorem new_ok : Dk.new.Ok := ⟨List.Pairwise.nil, by simp [Dk.new], by simp [Dk.new], by simp [Dk.new]⟩

/-! ### keys -/
theorem strK : Maps.Keyed Tryz.prog 9 := Maps.string_keyed Tryz.underlying9
theorem intK : Maps.Keyed Tryz.prog 3 := Maps.int_keyed Tryz.underlying3
theorem strKey {s : ByteArray} (h : s.size ≤ maxLen) : keyOf Tryz.prog 9 (.string s) = some (.string s.data.toList) := WideMaps.keyOf_string_mk Tryz.underlying9 h
theorem intKey {a : Int} (h : -9223372036854775808 ≤ a) (h' : a ≤ 9223372036854775807) : keyOf Tryz.prog 3 (.int .i64 a) = some (.int .i64 a) :=
  Maps.keyOf_int_mk Tryz.underlying3 (by simp [Lit.wf, IntKind.min, IntKind.max, IntKind.signed, IntKind.bits]; omega)
theorem zeroFile : ∀ W : World, (zeroValue 77).run Tryz.prog W = .ok (.pointer none) W := fun _ => by kernel_rfl
theorem zeroFault : ∀ W : World, (zeroValue 40).run Tryz.prog W = .ok (.agg #[.int .i64 0, .int .i64 0, .int .i64 0]) W := fun _ => by kernel_rfl
theorem namesS_get {fb : List Nat} {L : List (Nm × Nat)} (hs : Sorted L) {n : Nm} {i B : Nat} (h : nmGet L n = some i) (hB : fb[i]? = some B) : namesS fb L (.string n) (fileV B) := ⟨n, i, B, (nmGet_some hs).1 h, hB, rfl, rfl⟩
theorem namesS_none {fb : List Nat} {L : List (Nm × Nat)} {n : Nm} (h : nmGet L n = none) : ∀ v, ¬ namesS fb L (.string n) v := by
  rintro v ⟨n', i, B, h1, _, h3, _⟩
  cases h3
  exact nmGet_none.1 h i h1
end Go.Proofs.YtioidkbpjkcjeaaGreatDoor
namespace Go.Proofs.YtioidkbpjkcjeaaGreatDoor
open Go.RowKit Dk

theorem cell_alloc {w : World} {b i : Nat} {v : Value} (h : w.cell? ⟨b, i, none⟩ = some v) : ∀ o, (w.alloc o).cell? ⟨b, i, none⟩ = some v := fun o => by
  have hb := World.block_lt_of_cell? w _ h
  rw [← h]; exact World.cell?_of_block (w := w) (a := ⟨b, i, none⟩) (Below.heap_alloc _ _ _ hb)
theorem frozen_alloc {w : World} {b i : Nat} (hb : b < w.heap.size) (h : w.frozen? ⟨b, i, none⟩ = false) : ∀ o, (w.alloc o).frozen? ⟨b, i, none⟩ = false := fun o => by
  rw [← h]; exact World.frozen?_of_block (w := w) (a := ⟨b, i, none⟩) (Below.heap_alloc _ _ _ hb)
theorem heap_setCell_ne {w : World} {a : Addr} {v : Value} {k : Nat} (h : k ≠ a.block) : (w.setCell a v).heap[k]? = w.heap[k]? := Below.heap_setCell _ _ _ _ h
theorem heap_alloc_lt {w : World} {o : Obj} {k : Nat} (h : k < w.heap.size) : (w.alloc o).heap[k]? = w.heap[k]? := Below.heap_alloc _ _ _ h

set_option maxHeartbeats 1000000 in
theorem step_miss (A : Nat) (D : DSt) (ρ : Nat → Nat × Nat) (fb : List Nat) (w : World) (h : DiskAt w A D ρ fb) (h0 : 0 ≤ D.steps) (h1 : D.steps ≤ 4611686018427387904) (hm : D.hit = none) :
    Calls Tryz.prog 82 #[.pointer (some ⟨A, 0, none⟩)] w fun e w' => e = .returned (.tuple #[.agg #[.int .i64 0, .int .i64 0, .int .i64 0], .int .i64 0]) ∧ DiskAt w' A D.tick ρ fb ∧ Fr own ρ ρ w w' := by
  have hlt := h.lt
  obtain ⟨ok, out, role, ⟨m, op, pl, hA, hN, hO, hP⟩, hF⟩ := h
  generalize hn : D.steps = n at *
  have c2 : w.cell? ⟨A, 2, none⟩ = some (.int .i64 n) := by simp [World.cell?, hA, topCells]
  have c3 : w.cell? ⟨A, 3, none⟩ = some (.map pl) := by simp [World.cell?, hA, topCells]
  have f2 : w.frozen? ⟨A, 2, none⟩ = false := by simp [World.frozen?, hA]
  have hl : ∀ W : World, (∀ b, b < w.heap.size → b ≠ A → W.heap[b]? = w.heap[b]?) → (Instr.lookup 57 (.map pl) (.int .i64 (n + 1)) true).run Tryz.prog W = .ok (.tuple #[.agg #[.int .i64 0, .int .i64 0, .int .i64 0], .bool false]) W := by
    intro W hW
    rcases hP with ⟨rfl, _⟩ | ⟨b, k, rfl, hr, hM⟩
    · exact look_none intK Tryz.underlying57 zeroFault (intKey (by omega) (by omega)) true W
    · refine hM.miss intK Tryz.underlying57 zeroFault (intKey (by omega) (by omega)) ?_ true W (hW b hM.lt (by rintro rfl; rw [role] at hr; cases hr))
      rintro v ⟨f, hf, e1, _⟩
      have := List.find?_eq_none.1 hm f hf
      simp only [Value.int.injEq] at e1
      simp at this; omega
  obtain ⟨W, hW⟩ : ∃ W, W = (w.setCell ⟨A, 2, none⟩ (.int .i64 (n + 1))).alloc (.cells #[.int .i64 0, .int .i64 0, .int .i64 0] 40) := ⟨_, rfl⟩
  have hsz : W.heap.size = w.heap.size + 1 := by rw [hW]; simp
  have hWA : W.heap[A]? = some (.cells (topCells m op (n + 1) pl) 59 (0, 0)) := by
    rw [hW, heap_alloc_lt (by simpa using hlt)]; exact heap_setCell_same _ _ _ _ _ _ hA
  have hWo : ∀ b, b < w.heap.size → b ≠ A → W.heap[b]? = w.heap[b]? := fun b hb hne => by
    rw [hW, heap_alloc_lt (by simpa using hb), heap_setCell_ne hne]
  have hWn : W.heap[w.heap.size]? = some (.cells #[.int .i64 0, .int .i64 0, .int .i64 0] 40 (0, 0)) := by
    rw [hW]; have := heap_alloc_new (w.setCell ⟨A, 2, none⟩ (.int .i64 (n + 1))) (.cells #[.int .i64 0, .int .i64 0, .int .i64 0] 40); simpa using this
  have d2 : W.cell? ⟨A, 2, none⟩ = some (.int .i64 (n + 1)) := by simp [World.cell?, hWA, topCells]
  have d3 : W.cell? ⟨A, 3, none⟩ = some (.map pl) := by simp [World.cell?, hWA, topCells]
  have r0 : W.cell? ⟨w.heap.size, 0, none⟩ = some (.int .i64 0) := by simp [World.cell?, hWn]
  have r1 : W.cell? ⟨w.heap.size, 1, none⟩ = some (.int .i64 0) := by simp [World.cell?, hWn]
  have r2 : W.cell? ⟨w.heap.size, 2, none⟩ = some (.int .i64 0) := by simp [World.cell?, hWn]
  have g0 : W.frozen? ⟨w.heap.size, 0, none⟩ = false := by simp [World.frozen?, hWn]
  have g1 : W.frozen? ⟨w.heap.size, 1, none⟩ = false := by simp [World.frozen?, hWn]
  have g2 : W.frozen? ⟨w.heap.size, 2, none⟩ = false := by simp [World.frozen?, hWn]
  have l1 : (Instr.lookup 57 (.map pl) (.int .i64 (n + 1)) true).run Tryz.prog W.drew = .ok (.tuple #[.agg #[.int .i64 0, .int .i64 0, .int .i64 0], .bool false]) W.drew := hl _ hWo
  have l2 : ∀ o, (Instr.lookup 57 (.map pl) (.int .i64 (n + 1)) true).run Tryz.prog (W.alloc o).drew = .ok (.tuple #[.agg #[.int .i64 0, .int .i64 0, .int .i64 0], .bool false]) (W.alloc o).drew := fun o =>
    hl _ (fun b hb hne => (heap_alloc_lt (by omega)).trans (hWo b hb hne))
  have a2 := cell_alloc d2
  have a3 := cell_alloc d3
  have b0 := cell_alloc r0
  have b1 := cell_alloc r1
  have b2 := cell_alloc r2
  have z0 := frozen_alloc (by omega) g0
  have z1 := frozen_alloc (by omega) g1
  have z2 := frozen_alloc (by omega) g2
  have HW := Lib.hid hW
  have HA := Lib.hid hA
  have HWA := Lib.hid hWA
  have HWn := Lib.hid hWn
  have HWo := Lib.hid hWo
  have HL := Lib.hid hl
  have HS := Lib.hid hsz
  have HP := Lib.hid hP
  have HR := Lib.hid role
  have HO := Lib.hid out
  have HM := Lib.hid hm
  have HNN := Lib.hid hn
  clear hW hA hWA hWn hWo hl hsz hP role out hm hn
  go_enter Tryz.func82, Tryz.ntmps82
  go_wp2
  rw [← HW.out]
  go_region
  go_wp2
  refine bodyPost_ret (v := .tuple #[.agg #[.int .i64 0, .int .i64 0, .int .i64 0], .int .i64 0]) (by simp [results, Tryz.results82, go_sem, b0, b1, b2]) rfl ⟨rfl, ?_⟩
  have hb' : ∀ b, b < w.heap.size → (World.setCell (World.setCell (World.setCell (W.alloc (Obj.cells #[.int .i64 0, .int .i64 0, .int .i64 0] 40)) ⟨w.heap.size, 0, none⟩ (.int .i64 0)) ⟨w.heap.size, 1, none⟩ (.int .i64 0)) ⟨w.heap.size, 2, none⟩ (.int .i64 0)).heap[b]? = W.heap[b]? := fun b hb => by
    have hne : b ≠ w.heap.size := by omega
    rw [heap_setCell_ne hne, heap_setCell_ne hne, heap_setCell_ne hne, heap_alloc_lt (by have := HS.out; omega)]
  have F : Fr (fun r => r = (1, 0)) ρ ρ w _ := Fr.mk (w' := (World.setCell (World.setCell (World.setCell (W.alloc (Obj.cells #[.int .i64 0, .int .i64 0, .int .i64 0] 40)) ⟨w.heap.size, 0, none⟩ (.int .i64 0)) ⟨w.heap.size, 1, none⟩ (.int .i64 0)) ⟨w.heap.size, 2, none⟩ (.int .i64 0)).drew)
    (by rw [HW.out]; rfl) (by rw [HW.out]; rfl) (by rw [HW.out]; rfl) (by have := HS.out; simp; omega)
    (fun b hb hn => (hb' b hb).trans (HWo.out b hb (fun e => hn (by rw [e]; exact HR.out))))
    (fun _ _ => rfl) (fun _ _ h => h) (fun b hb => HO.out b (by have := HS.out; simp at hb; omega))
  refine ⟨⟨⟨ok.sorted, ok.named, ok.opened, ok.synced⟩, F.out, HR.out, ⟨m, op, pl, (hb' A hlt).trans (HWA.out.trans ?_), hN.fr F (by simp), hO.fr F (by simp) (by simp), ?_⟩, hF.fr F (by simp) (by simp)⟩, F.weaken (fun r hr => by rw [hr]; simp [own])⟩
  · show _ = some (Obj.cells (topCells m op (D.steps + 1) pl) _ _)
    rw [HNN.out]
  · have e : D.tick.plan = D.plan := by
      show D.plan.filter _ = _
      rw [List.filter_eq_self]
      intro f hf
      have := List.find?_eq_none.1 HM.out f hf
      simpa using this
    rw [e]
    exact HP.out.fr F (by simp)

set_option maxHeartbeats 2000000 in
theorem step_hit (A : Nat) (D : DSt) (ρ : Nat → Nat × Nat) (fb : List Nat) (w : World) (h : DiskAt w A D ρ fb) (h0 : 0 ≤ D.steps) (h1 : D.steps ≤ 4611686018427387904) (fa fk fn : Int) (hm : D.hit = some (fa, fk, fn)) :
    Calls Tryz.prog 82 #[.pointer (some ⟨A, 0, none⟩)] w fun e w' => e = .returned (.tuple #[.agg #[.int .i64 fa, .int .i64 fk, .int .i64 fn], .int .i64 (hitErr (fa, fk, fn))]) ∧ DiskAt w' A D.tick ρ fb ∧ Fr own ρ ρ w w' := by
  have hlt := h.lt
  obtain ⟨ok, out, role, ⟨m, op, pl, hA, hN, hO, hP⟩, hF⟩ := h
  generalize hn : D.steps = n at *
  have hfn : fa = n + 1 := by have := List.find?_some hm; simp at this; omega
  have hmem : (fa, fk, fn) ∈ D.plan := List.mem_of_find?_eq_some hm
  rcases hP with ⟨_, hnil⟩ | ⟨b, k, rfl, hr, hM⟩
  · rw [hnil] at hmem; cases hmem
  have hbA : b ≠ A := by rintro rfl; rw [role] at hr; cases hr
  have hb := hM.lt
  have hSm : planS D.plan (.int .i64 (n + 1)) (faultV (fa, fk, fn)) := ⟨_, hmem, by rw [hfn], rfl⟩
  have hl := hM.look intK Tryz.underlying57 zeroFault hSm true
  obtain ⟨o', hd, hd'⟩ := hM.del_old intK Tryz.underlying57 (ty := 0) hSm
  have c2 : w.cell? ⟨A, 2, none⟩ = some (.int .i64 n) := by simp [World.cell?, hA, topCells]
  have c3 : w.cell? ⟨A, 3, none⟩ = some (.map (some b)) := by simp [World.cell?, hA, topCells]
  have f2 : w.frozen? ⟨A, 2, none⟩ = false := by simp [World.frozen?, hA]
  obtain ⟨W, hW⟩ : ∃ W, W = (w.setCell ⟨A, 2, none⟩ (.int .i64 (n + 1))).alloc (.cells #[.int .i64 0, .int .i64 0, .int .i64 0] 40) := ⟨_, rfl⟩
  have hsz : W.heap.size = w.heap.size + 1 := by rw [hW]; simp
  have hWA : W.heap[A]? = some (.cells (topCells m op (n + 1) (some b)) 59 (0, 0)) := by
    rw [hW, heap_alloc_lt (by simpa using hlt)]; exact heap_setCell_same _ _ _ _ _ _ hA
  have hWo : ∀ b, b < w.heap.size → b ≠ A → W.heap[b]? = w.heap[b]? := fun b hb hne => by
    rw [hW, heap_alloc_lt (by simpa using hb), heap_setCell_ne hne]
  have hWn : W.heap[w.heap.size]? = some (.cells #[.int .i64 0, .int .i64 0, .int .i64 0] 40 (0, 0)) := by
    rw [hW]; have := heap_alloc_new (w.setCell ⟨A, 2, none⟩ (.int .i64 (n + 1))) (.cells #[.int .i64 0, .int .i64 0, .int .i64 0] 40); simpa using this
  have d2 : W.cell? ⟨A, 2, none⟩ = some (.int .i64 (n + 1)) := by simp [World.cell?, hWA, topCells]
  have d3 : W.cell? ⟨A, 3, none⟩ = some (.map (some b)) := by simp [World.cell?, hWA, topCells]
  have r0 : W.cell? ⟨w.heap.size, 0, none⟩ = some (.int .i64 0) := by simp [World.cell?, hWn]
  have r1 : W.cell? ⟨w.heap.size, 1, none⟩ = some (.int .i64 0) := by simp [World.cell?, hWn]
  have r2 : W.cell? ⟨w.heap.size, 2, none⟩ = some (.int .i64 0) := by simp [World.cell?, hWn]
  have g0 : W.frozen? ⟨w.heap.size, 0, none⟩ = false := by simp [World.frozen?, hWn]
  have g1 : W.frozen? ⟨w.heap.size, 1, none⟩ = false := by simp [World.frozen?, hWn]
  have g2 : W.frozen? ⟨w.heap.size, 2, none⟩ = false := by simp [World.frozen?, hWn]
  have l1 : (Instr.lookup 57 (.map (some b)) (.int .i64 (n + 1)) true).run Tryz.prog W.drew = .ok (.tuple #[.agg #[.int .i64 fa, .int .i64 fk, .int .i64 fn], .bool true]) W.drew := hl _ (hWo b hb hbA)
  have l2 : ∀ o, (Instr.lookup 57 (.map (some b)) (.int .i64 (n + 1)) true).run Tryz.prog (W.alloc o).drew = .ok (.tuple #[.agg #[.int .i64 fa, .int .i64 fk, .int .i64 fn], .bool true]) (W.alloc o).drew := fun o =>
    hl _ ((heap_alloc_lt (by omega)).trans (hWo b hb hbA))
  have hdW : ∀ o ty, (Builtin.delete_ #[57, 3] ty #[.map (some b), .int .i64 (n + 1)]).run Tryz.prog (W.alloc o).drew.drew = .ok (.tuple #[]) (Go.ChangeMaps.setBlock (W.alloc o).drew.drew b o') := fun o ty =>
    hd _ ((heap_alloc_lt (by omega)).trans (hWo b hb hbA))
  have hbr : ∀ (X : World) i, (Go.ChangeMaps.setBlock X b o').cell? ⟨w.heap.size, i, none⟩ = X.cell? ⟨w.heap.size, i, none⟩ := fun X i => setBlock_cell o' (by omega)
  have hbv : ∀ (X : World) i, (Go.ChangeMaps.setBlock X b o').cell? ⟨W.heap.size, i, none⟩ = X.cell? ⟨W.heap.size, i, none⟩ := fun X i => setBlock_cell o' (by omega)
  have hbf : ∀ (X : World) i, (Go.ChangeMaps.setBlock X b o').frozen? ⟨w.heap.size, i, none⟩ = X.frozen? ⟨w.heap.size, i, none⟩ := fun X i => setBlock_frozen o' (by omega)
  have hfin : ∀ (c : Array Value) (v0 v1 v2 : Value), DiskAt (World.setCell (World.setCell (World.setCell (Go.ChangeMaps.setBlock (W.alloc (.cells c 40)).drew.drew b o') ⟨w.heap.size, 0, none⟩ v0) ⟨w.heap.size, 1, none⟩ v1) ⟨w.heap.size, 2, none⟩ v2) A D.tick ρ fb ∧
      Fr own ρ ρ w (World.setCell (World.setCell (World.setCell (Go.ChangeMaps.setBlock (W.alloc (.cells c 40)).drew.drew b o') ⟨w.heap.size, 0, none⟩ v0) ⟨w.heap.size, 1, none⟩ v1) ⟨w.heap.size, 2, none⟩ v2) := by
    intro c v0 v1 v2
    have hb' : ∀ i, i < w.heap.size → (World.setCell (World.setCell (World.setCell (Go.ChangeMaps.setBlock (W.alloc (.cells c 40)).drew.drew b o') ⟨w.heap.size, 0, none⟩ v0) ⟨w.heap.size, 1, none⟩ v1) ⟨w.heap.size, 2, none⟩ v2).heap[i]? = (Go.ChangeMaps.setBlock (W.alloc (.cells c 40)).drew.drew b o').heap[i]? := fun i hi => by
      have hne : i ≠ w.heap.size := by omega
      rw [heap_setCell_ne hne, heap_setCell_ne hne, heap_setCell_ne hne]
    have hbo : ∀ i, i < w.heap.size → i ≠ b → (World.setCell (World.setCell (World.setCell (Go.ChangeMaps.setBlock (W.alloc (.cells c 40)).drew.drew b o') ⟨w.heap.size, 0, none⟩ v0) ⟨w.heap.size, 1, none⟩ v1) ⟨w.heap.size, 2, none⟩ v2).heap[i]? = W.heap[i]? := fun i hi hne => by
      rw [hb' i hi, setBlock_ne _ hne]
      exact heap_alloc_lt (by omega)
    have F : Fr (fun r => r = (1, 0) ∨ r = (7, 0)) ρ ρ w _ := Fr.mk (w' := World.setCell (World.setCell (World.setCell (Go.ChangeMaps.setBlock (W.alloc (.cells c 40)).drew.drew b o') ⟨w.heap.size, 0, none⟩ v0) ⟨w.heap.size, 1, none⟩ v1) ⟨w.heap.size, 2, none⟩ v2)
      (by rw [hW]; rfl) (by rw [hW]; rfl) (by rw [hW]; rfl) (by simp [setBlock_size]; omega)
      (fun i hi hn => (hbo i hi (fun e => hn (by rw [e]; exact .inr hr))).trans (hWo i hi (fun e => hn (by rw [e]; exact .inl role))))
      (fun _ _ => rfl) (fun _ _ h => h) (fun i hi => out i (by simp [setBlock_size] at hi; omega))
    refine ⟨⟨⟨ok.sorted, ok.named, ok.opened, ok.synced⟩, F.out, role, ⟨m, op, some b, (hbo A hlt hbA.symm).trans (hWA.trans ?_), hN.fr F (by simp), hO.fr F (by simp) (by simp), .inr ⟨b, k - 1, rfl, hr, (hd' _ ?_).congr ?_⟩⟩, hF.fr F (by simp) (by simp)⟩, F.weaken (fun r hr => by rcases hr with hr | hr <;> rw [hr] <;> simp [own])⟩
    · show _ = some (Obj.cells (topCells m op (D.steps + 1) _) _ _)
      rw [hn]
    · rw [hb' b hb]; exact setBlock_at _ (by show b < (W.heap.push _).size; simp; omega)
    · intro y u
      show _ ↔ planS (D.plan.filter _) y u
      constructor
      · rintro ⟨h1, f, hf, rfl, rfl⟩
        exact ⟨f, List.mem_filter.2 ⟨hf, by simp only [ne_eq, decide_eq_true_eq]; rintro e; exact h1 (by rw [e, hn])⟩, rfl, rfl⟩
      · rintro ⟨f, hf, rfl, rfl⟩
        obtain ⟨h1, h2⟩ := List.mem_filter.1 hf
        simp only [ne_eq, decide_eq_true_eq] at h2
        exact ⟨fun e => h2 (by simp only [Value.int.injEq, true_and] at e; rw [e, hn]), f, h1, rfl, rfl⟩
  have HFIN := Lib.hid hfin
  clear hfin
  have a2 := cell_alloc d2
  have a3 := cell_alloc d3
  have b0 := cell_alloc r0
  have b1 := cell_alloc r1
  have b2 := cell_alloc r2
  have z0 := frozen_alloc (by omega) g0
  have z1 := frozen_alloc (by omega) g1
  have z2 := frozen_alloc (by omega) g2
  have HW := Lib.hid hW
  have HA := Lib.hid hA
  have HWA := Lib.hid hWA
  have HWn := Lib.hid hWn
  have HWo := Lib.hid hWo
  have HS := Lib.hid hsz
  have HR := Lib.hid role
  have HO := Lib.hid out
  have HM := Lib.hid hm
  have HNN := Lib.hid hn
  have HD := Lib.hid hd'
  have HFN := Lib.hid hfn
  clear hW hA hWA hWn hWo hl hsz role out hm hn hd hd' hfn
  have h3 : (fk == 3) = true ∨ (fk == 3) = false := by cases h : (fk == 3) <;> simp
  rcases h3 with h3 | h3
  all_goals
    have he : hitErr (fa, fk, fn) = (if fk == 3 then 23 else 22) := by simp [hitErr]
    rw [h3] at he
    have HE := Lib.hid he
    clear he
    go_enter Tryz.func82, Tryz.ntmps82
    go_wp2
    rw [← HW.out]
    go_region
    go_wp2
    go_region
    go_wp2
    rw [HE.out]
    refine bodyPost_ret (v := .tuple #[.agg #[.int .i64 fa, .int .i64 fk, .int .i64 fn], .int .i64 _]) (by simp [results, Tryz.results82, go_sem, hbr, b0, b1, b2]) rfl ⟨rfl, HFIN.out _ _ _ _⟩
end Go.Proofs.YtioidkbpjkcjeaaGreatDoor
namespace Go.Proofs.YtioidkbpjkcjeaaGreatDoor
open Go.RowKit Dk

theorem Fr.alloc {ρ ρ' : Nat → Nat × Nat} {w w' : World} (h : Fr own ρ ρ' w w') (_ : ∀ b, w'.heap.size ≤ b → ρ' b = (0, 0)) (o : Obj) : Fr own ρ ρ' w (w'.alloc o) :=
  ⟨h.os, h.tape, h.output, by have := h.size; simp; omega, fun b hb hn => (Below.heap_alloc _ _ _ (Nat.lt_of_lt_of_le hb h.size)).trans (h.block b hb hn), h.keep, h.stay, fun b hb => h.out b (by simp at hb; omega)⟩

/-! ### find -/
set_option maxHeartbeats 400000 in
theorem find_nil (s : ByteArray) (w : World) :
    Calls Tryz.prog 26 #[.pointer none, .string s] w fun e w' => e = .returned (.tuple #[.pointer none, .int .i64 1]) ∧ w = w' := by
  go_enter Tryz.func26, Tryz.ntmps26
  go_wp2
  go_ret2
  exact ⟨rfl, rfl⟩
set_option maxHeartbeats 400000 in
theorem find_empty (A : Nat) (s : ByteArray) (hs : s.toList = []) (w : World) :
    Calls Tryz.prog 26 #[.pointer (some ⟨A, 0, none⟩), .string s] w fun e w' => e = .returned (.tuple #[.pointer none, .int .i64 1]) ∧ w = w' := by
  go_enter Tryz.func26, Tryz.ntmps26
  go_wp2
  go_ret2
  exact ⟨rfl, rfl⟩
/-- What a lookup among the names says, in every world that holds the same map. -/
theorem names_look {w : World} {ρ : Nat → Nat × Nat} {fb : List Nat} {m : Option Nat} {L : List (Nm × Nat)} (h : NamesAt w ρ fb m L) (hs : Sorted L) {s : ByteArray} (hl : s.size ≤ maxLen) (hf : ∀ p ∈ L, p.2 < fb.length) :
    ∀ W : World, (∀ b, b < w.heap.size → ρ b = (2, 0) → W.heap[b]? = w.heap[b]?) → (Instr.lookup 55 (.map m) (.string s) false).run Tryz.prog W = .ok (ptrV fb (nmGet L s)) W := by
  intro W hW
  rcases h with ⟨rfl, rfl⟩ | ⟨b, rfl, hr, hM⟩
  · exact look_none strK Tryz.underlying55 zeroFile (strKey hl) false W
  · cases hg : nmGet L s with
    | none => exact hM.miss strK Tryz.underlying55 zeroFile (strKey hl) (namesS_none hg) false W (hW b hM.lt hr)
    | some i =>
      have hi := hf _ ((nmGet_some hs).1 hg)
      have hB : fb[i]? = some (fb[i]'hi) := List.getElem?_eq_getElem hi
      have := hM.look strK Tryz.underlying55 zeroFile (namesS_get hs hg hB) false W (hW b hM.lt hr)
      simpa [ptrV, hB, fileV] using this
set_option maxHeartbeats 400000 in
theorem find_none (A : Nat) (D : DSt) (ρ : Nat → Nat × Nat) (fb : List Nat) (w : World) (h : DiskAt w A D ρ fb) (s : ByteArray) (hl : s.size ≤ maxLen) (hs : s.toList.isEmpty = false) (hg : nmGet D.names s = none) :
    Calls Tryz.prog 26 #[.pointer (some ⟨A, 0, none⟩), .string s] w fun e w' => e = .returned (.tuple #[.pointer none, .int .i64 20]) ∧ w = w' := by
  obtain ⟨ok, out, role, ⟨m, op, pl, hA, hN, hO, hP⟩, hF⟩ := h
  have c0 : w.cell? ⟨A, 0, none⟩ = some (.map m) := by simp [World.cell?, hA, topCells]
  have hl := names_look hN ok.sorted hl (fun p hp => by rw [hF.1]; exact (ok.named p hp).2) w (fun _ _ _ => rfl)
  rw [hg] at hl
  simp only [ptrV, Option.bind_none] at hl
  clear ok out role hA hN hO hP hF
  go_enter Tryz.func26, Tryz.ntmps26
  go_wp2
  go_ret2
  exact ⟨rfl, rfl⟩
set_option maxHeartbeats 400000 in
theorem find_some (A : Nat) (D : DSt) (ρ : Nat → Nat × Nat) (fb : List Nat) (w : World) (h : DiskAt w A D ρ fb) (s : ByteArray) (hl : s.size ≤ maxLen) (hs : s.toList.isEmpty = false) (i B : Nat) (hg : nmGet D.names s = some i) (hB : fb[i]? = some B) :
    Calls Tryz.prog 26 #[.pointer (some ⟨A, 0, none⟩), .string s] w fun e w' => e = .returned (.tuple #[.pointer (some ⟨B, 0, none⟩), .int .i64 0]) ∧ w = w' := by
  obtain ⟨ok, out, role, ⟨m, op, pl, hA, hN, hO, hP⟩, hF⟩ := h
  have c0 : w.cell? ⟨A, 0, none⟩ = some (.map m) := by simp [World.cell?, hA, topCells]
  have hl := names_look hN ok.sorted hl (fun p hp => by rw [hF.1]; exact (ok.named p hp).2) w (fun _ _ _ => rfl)
  rw [hg] at hl
  simp only [ptrV, Option.bind_some, hB, Option.map_some] at hl
  clear ok out role hA hN hO hP hF hB hg
  go_enter Tryz.func26, Tryz.ntmps26
  go_wp2
  go_ret2
  exact ⟨rfl, rfl⟩

/-! ### stepAt -/
set_option maxHeartbeats 400000 in
theorem stepAt_nil (s : ByteArray) (w : World) :
    Calls Tryz.prog 86 #[.pointer none, .string s] w fun e w' => e = .returned (.tuple #[.pointer none, .int .i64 1]) ∧ w = w' := by
  go_enter Tryz.func86, Tryz.ntmps86
  go_wp2_with (go_at_call 26; refine (find_nil _ _).mono ?_; rintro e w' ⟨rfl, rfl⟩)
  go_ret2
  exact ⟨rfl, rfl⟩
set_option maxHeartbeats 400000 in
theorem stepAt_empty (A : Nat) (s : ByteArray) (hs : s.toList = []) (w : World) :
    Calls Tryz.prog 86 #[.pointer (some ⟨A, 0, none⟩), .string s] w fun e w' => e = .returned (.tuple #[.pointer none, .int .i64 1]) ∧ w = w' := by
  have HS := Lib.hid hs
  clear hs
  go_enter Tryz.func86, Tryz.ntmps86
  go_wp2_with (go_at_call 26; refine (find_empty _ _ HS.out _).mono ?_; rintro e w' ⟨rfl, rfl⟩)
  go_ret2
  exact ⟨rfl, rfl⟩
set_option maxHeartbeats 400000 in
theorem stepAt_none (A : Nat) (D : DSt) (ρ : Nat → Nat × Nat) (fb : List Nat) (w : World) (h : DiskAt w A D ρ fb) (s : ByteArray) (hl : s.size ≤ maxLen) (hs : s.toList.isEmpty = false) (hg : nmGet D.names s = none) :
    Calls Tryz.prog 86 #[.pointer (some ⟨A, 0, none⟩), .string s] w fun e w' => e = .returned (.tuple #[.pointer none, .int .i64 20]) ∧ w = w' := by
  have hc := find_none A D ρ fb w h s hl hs hg
  clear h hl hs hg
  have HC := Lib.hid hc
  clear hc
  go_enter Tryz.func86, Tryz.ntmps86
  go_wp2_with (go_at_call 26; refine (HC.out).mono ?_; rintro e w' ⟨rfl, rfl⟩)
  go_ret2
  exact ⟨rfl, rfl⟩
def missV (D : DSt) : Prop := D.hit = none
set_option maxHeartbeats 400000 in
theorem stepAt_miss (A : Nat) (D : DSt) (ρ : Nat → Nat × Nat) (fb : List Nat) (w : World) (h : DiskAt w A D ρ fb) (h0 : 0 ≤ D.steps) (h1 : D.steps ≤ 4611686018427387904) (s : ByteArray) (hl : s.size ≤ maxLen) (hs : s.toList.isEmpty = false) (i B : Nat) (hg : nmGet D.names s = some i) (hB : fb[i]? = some B) (hm : D.hit = none) :
    Calls Tryz.prog 86 #[.pointer (some ⟨A, 0, none⟩), .string s] w fun e w' => e = .returned (.tuple #[.pointer (some ⟨B, 0, none⟩), .int .i64 0]) ∧ DiskAt w' A D.tick ρ fb ∧ Fr own ρ ρ w w' := by
  have HC := Lib.hid (find_some A D ρ fb w h s hl hs i B hg hB)
  have HT := Lib.hid (step_miss A D ρ fb w h h0 h1 hm)
  clear h h0 h1 hl hs hg hB hm
  go_enter Tryz.func86, Tryz.ntmps86
  go_wp2_with (first
    | (go_at_call 26; refine (HC.out).mono ?_; rintro e w' ⟨rfl, rfl⟩)
    | (go_at_call 82; refine (HT.out).mono ?_; rintro e w1 ⟨rfl, hD, hf⟩))
  go_ret2
  exact ⟨rfl, hD.alloc _, hf.alloc hD.out _⟩
set_option maxHeartbeats 400000 in
theorem stepAt_hit (A : Nat) (D : DSt) (ρ : Nat → Nat × Nat) (fb : List Nat) (w : World) (h : DiskAt w A D ρ fb) (h0 : 0 ≤ D.steps) (h1 : D.steps ≤ 4611686018427387904) (s : ByteArray) (hl : s.size ≤ maxLen) (hs : s.toList.isEmpty = false) (i B : Nat) (hg : nmGet D.names s = some i) (hB : fb[i]? = some B) (fa fk fn : Int) (hm : D.hit = some (fa, fk, fn)) :
    Calls Tryz.prog 86 #[.pointer (some ⟨A, 0, none⟩), .string s] w fun e w' => e = .returned (.tuple #[.pointer none, .int .i64 (hitErr (fa, fk, fn))]) ∧ DiskAt w' A D.tick ρ fb ∧ Fr own ρ ρ w w' := by
  have HC := Lib.hid (find_some A D ρ fb w h s hl hs i B hg hB)
  have HT := Lib.hid (step_hit A D ρ fb w h h0 h1 fa fk fn hm)
  have he : (hitErr (fa, fk, fn) != 0) = true := by unfold hitErr; split <;> decide
  clear h h0 h1 hl hs hg hB hm
  go_enter Tryz.func86, Tryz.ntmps86
  go_wp2_with (first
    | (go_at_call 26; refine (HC.out).mono ?_; rintro e w' ⟨rfl, rfl⟩)
    | (go_at_call 82; refine (HT.out).mono ?_; rintro e w1 ⟨rfl, hD, hf⟩))
  go_ret2
  exact ⟨rfl, hD.alloc _, hf.alloc hD.out _⟩
end Go.Proofs.YtioidkbpjkcjeaaGreatDoor
namespace Go.Proofs.YtioidkbpjkcjeaaGreatDoor
open Go.RowKit Dk
open Go.ChangeMaps (setBlock)

/-- The disk holds D now, with the same files; of others nothing has turned. -/
def Led (w : World) (A : Nat) (D : DSt) (ρ : Nat → Nat × Nat) (fb : List Nat) (w' : World) : Prop := ∃ ρ', DiskAt w' A D ρ' fb ∧ Fr own ρ ρ' w w'
/-- The marks that leading a name elsewhere touches. -/
def nmMarks (r : Nat × Nat) : Prop := r = (1, 0) ∨ r = (2, 0)
theorem nm_own {r : Nat × Nat} (h : nmMarks r) : own r := by rcases h with h | h <;> rw [h] <;> simp [own]
def LedN (w : World) (A : Nat) (D : DSt) (ρ : Nat → Nat × Nat) (fb : List Nat) (w' : World) : Prop := ∃ ρ', DiskAt w' A D ρ' fb ∧ Fr nmMarks ρ ρ' w w'
theorem LedN.led {w w' : World} {A : Nat} {D : DSt} {ρ : Nat → Nat × Nat} {fb : List Nat} (h : LedN w A D ρ fb w') : Led w A D ρ fb w' := let ⟨ρ', h1, h2⟩ := h; ⟨ρ', h1, h2.weaken (fun _ h => nm_own h)⟩
theorem namesS_del {fb : List Nat} {L : List (Nm × Nat)} (n : Nm) (y u : Value) : (y ≠ .string n ∧ namesS fb L y u) ↔ namesS fb (nmDel L n) y u := by
  constructor
  · rintro ⟨h, n', i, B, h1, h2, rfl, rfl⟩
    exact ⟨n', i, B, mem_nmDel.2 ⟨fun e => h (by rw [← e]), h1⟩, h2, rfl, rfl⟩
  · rintro ⟨n', i, B, h1, h2, rfl, rfl⟩
    have := mem_nmDel.1 h1
    exact ⟨fun e => this.1 (Value.string.inj e), n', i, B, this.2, h2, rfl, rfl⟩
theorem namesS_put {fb : List Nat} {L : List (Nm × Nat)} (n : Nm) (i B : Nat) (hB : fb[i]? = some B) (y u : Value) : ((y = .string n ∧ u = fileV B) ∨ (y ≠ .string n ∧ namesS fb L y u)) ↔ namesS fb (nmPut L n i) y u := by
  constructor
  · rintro (⟨rfl, rfl⟩ | ⟨h, n', i', B', h1, h2, rfl, rfl⟩)
    · exact ⟨n, i, B, mem_nmPut.2 (.inl rfl), hB, rfl, rfl⟩
    · exact ⟨n', i', B', mem_nmPut.2 (.inr ⟨fun e => h (by rw [← e]), h1⟩), h2, rfl, rfl⟩
  · rintro ⟨n', i', B', h1, h2, rfl, rfl⟩
    rcases mem_nmPut.1 h1 with e | ⟨h3, h4⟩
    · obtain ⟨rfl, rfl⟩ := Prod.mk.inj e
      rw [hB] at h2; cases h2
      exact .inl ⟨rfl, rfl⟩
    · exact .inr ⟨fun e => h3 (Value.string.inj e), n', i', B', h4, h2, rfl, rfl⟩

theorem names_drop {w : World} {b : Nat} {fb : List Nat} {L : List (Nm × Nat)} (hM : Mp Tryz.prog 9 w b (namesS fb L) L.length) (hs : Sorted L) (hf : ∀ p ∈ L, p.2 < fb.length) {n : Nm} (hn : n.size ≤ maxLen) :
    ∃ o, (∀ (X : World) ty, X.heap[b]? = w.heap[b]? → (Builtin.delete_ #[55, 9] ty #[.map (some b), .string n]).run Tryz.prog X = .ok (.tuple #[]) (setBlock X b o)) ∧ ∀ X : World, X.heap[b]? = some o → Mp Tryz.prog 9 X b (namesS fb (nmDel L n)) (nmDel L n).length := by
  cases hg : nmGet L n with
  | none =>
    obtain ⟨o, h1, h2⟩ := hM.del_new strK Tryz.underlying55 (ty := 0) (strKey hn) (namesS_none hg)
    refine ⟨o, fun X ty hX => h1 X hX, fun X hX => ?_⟩
    rw [show (nmDel L n).length = L.length by rw [nmDel_none hg]]
    exact (h2 X hX).congr (namesS_del n)
  | some i =>
    have hi := hf _ ((nmGet_some hs).1 hg)
    obtain ⟨o, h1, h2⟩ := hM.del_old strK Tryz.underlying55 (ty := 0) (namesS_get hs hg (List.getElem?_eq_getElem hi))
    refine ⟨o, fun X ty hX => h1 X hX, fun X hX => ?_⟩
    rw [length_nmDel_some hs hg]
    exact (h2 X hX).congr (namesS_del n)
theorem names_put {w : World} {b : Nat} {fb : List Nat} {L : List (Nm × Nat)} (hM : Mp Tryz.prog 9 w b (namesS fb L) L.length) (hs : Sorted L) (hf : ∀ p ∈ L, p.2 < fb.length) (hroom : L.length < maxLen) {n : Nm} (hn : n.size ≤ maxLen) {i B : Nat} (hB : fb[i]? = some B) :
    ∃ o, (∀ X : World, X.heap[b]? = w.heap[b]? → (Instr.mapUpdate 55 (.map (some b)) (.string n) (.pointer (some ⟨B, 0, none⟩))).run Tryz.prog X = .ok () (setBlock X b o)) ∧ ∀ X : World, X.heap[b]? = some o → Mp Tryz.prog 9 X b (namesS fb (nmPut L n i)) (nmPut L n i).length := by
  cases hg : nmGet L n with
  | none =>
    obtain ⟨o, h1, h2⟩ := hM.put_new strK Tryz.underlying55 (v := fileV B) (strKey hn) (namesS_none hg) hroom
    refine ⟨o, h1, fun X hX => ?_⟩
    rw [length_nmPut, nmDel_none hg]
    exact (h2 X hX).congr (namesS_put n i B hB)
  | some j =>
    have hm := (nmGet_some hs).1 hg
    have hj := hf _ hm
    obtain ⟨o, h1, h2⟩ := hM.put_old strK Tryz.underlying55 (v := fileV B) (namesS_get hs hg (List.getElem?_eq_getElem hj))
    refine ⟨o, h1, fun X hX => ?_⟩
    rw [length_nmPut, length_nmDel_some hs hg]
    have := List.length_pos_of_mem hm
    rw [show L.length - 1 + 1 = L.length by omega]
    exact (h2 X hX).congr (namesS_put n i B hB)

theorem map_is_nil (m : Option Nat) (W : World) : (binOp .eql 55 (.map m) (.map none)).run Tryz.prog W = .ok (.bool m.isNone) W := Go.run_eql_map_nil W _ _ _ m Tryz.underlying55
theorem ok_set {D : DSt} (ok : D.Ok) {x : Nm × Option Nat} (hx : linkOk D.files.length x) : ({ D with names := nmSet D.names x } : DSt).Ok := by
  refine ⟨sorted_nmSet ok.sorted x, fun p hp => ?_, ok.opened, ok.synced⟩
  unfold nmSet at hp
  cases h : x.2 with
  | none => rw [h] at hp; exact ok.named p (mem_nmDel.1 hp).2
  | some i =>
    rw [h] at hp
    rcases mem_nmPut.1 hp with rfl | hp
    · exact ⟨hx.1, hx.2 i h⟩
    · exact ok.named p hp.2

/-- A map's block alone turns, and new blocks come. -/
theorem DiskAt.names_turn {A : Nat} {D : DSt} {ρ : Nat → Nat × Nat} {fb : List Nat} {w w' : World} {b : Nat} {op : Value} {pl : Option Nat}
    (ok : D.Ok) (out : ∀ b, w.heap.size ≤ b → ρ b = (0, 0)) (role : ρ A = (1, 0)) (hr : ρ b = (2, 0)) (hb : b < w.heap.size) (hlt : A < w.heap.size)
    (hA : w.heap[A]? = some (.cells (topCells (some b) op D.steps pl) 59 (0, 0))) (hO : OpenAt w ρ fb op D.opn) (hP : PlanAt w ρ pl D.plan) (hF : FilesAt w ρ fb D.files)
    (x : Nm × Option Nat) (hx : linkOk D.files.length x) (os : w'.os = w.os) (tape : w'.tape = w.tape) (output : w'.output = w.output) (size : w.heap.size ≤ w'.heap.size) (hw : ∀ i, i < w.heap.size → i ≠ b → w'.heap[i]? = w.heap[i]?)
    (hM : Mp Tryz.prog 9 w' b (namesS fb (nmSet D.names x)) (nmSet D.names x).length) :
    DiskAt w' A { D with names := nmSet D.names x } ρ fb ∧ Fr nmMarks ρ ρ w w' := by
  have F : Fr (fun r => r = (2, 0)) ρ ρ w w' := ⟨os, tape, output, size, fun i hi hn => hw i hi (fun e => hn (by rw [e]; exact hr)), fun _ _ => rfl, fun _ _ h => h, fun i hi => out i (Nat.le_trans size hi)⟩
  refine ⟨⟨ok_set ok hx, F.out, role, ⟨some b, op, pl, (hw A hlt (by rintro rfl; rw [role] at hr; cases hr)).trans hA, .inr ⟨b, rfl, hr, hM⟩, hO.fr F (by simp) (by simp), hP.fr F (by simp)⟩, hF.fr F (by simp) (by simp)⟩, F.weaken (fun r hr => .inr hr)⟩

set_option maxHeartbeats 1000000 in
theorem lead_drop (A : Nat) (D : DSt) (ρ : Nat → Nat × Nat) (fb : List Nat) (w : World) (h : DiskAt w A D ρ fb) (n : Nm) (hx : linkOk D.files.length (n, none)) :
    Calls Tryz.prog 65 #[.pointer (some ⟨A, 0, none⟩), .agg #[.string n, .pointer none]] w fun e w' => e = .returned (.tuple #[]) ∧ LedN w A { D with names := nmSet D.names (n, none) } ρ fb w' := by
  have hlt := h.lt
  have h' := h
  obtain ⟨ok, out, role, ⟨m, op, pl, hA, hN, hO, hP⟩, hF⟩ := h
  have c0 : w.cell? ⟨A, 0, none⟩ = some (.map m) := by simp [World.cell?, hA, topCells]
  have a0 := cell_alloc c0
  rcases hN with ⟨rfl, hL⟩ | ⟨b, rfl, hr, hM⟩
  · have hd := fun (X : World) ty => del_none strK Tryz.underlying55 (ty := ty) (strKey hx.1) X
    have hfin : ∀ c, DiskAt (w.alloc (.cells c 144)).drew A { D with names := nmSet D.names (n, none) } ρ fb ∧ Fr nmMarks ρ ρ w (w.alloc (.cells c 144)).drew := fun c => by
      have e : ({ D with names := nmSet D.names (n, none) } : DSt) = D := by
        cases D; simp only [nmSet, nmDel] at *; rw [hL]; rfl
      rw [e]
      exact ⟨(h'.alloc _).drew, ⟨rfl, rfl, rfl, by show _ ≤ (w.heap.push _).size; simp, fun i hi _ => heap_alloc_lt hi, fun _ _ => rfl, fun _ _ h => h, fun i hi => out i (by have : (w.alloc (.cells c 144)).heap.size ≤ i := hi; simp at this; omega)⟩⟩
    have HF := Lib.hid hfin
    clear hfin h' ok out role hA hO hP hF hL hx hlt
    go_enter Tryz.func65, Tryz.ntmps65
    go_wp2
    go_region
    go_wp2
    exact bodyPost_ret (v := .tuple #[]) (by simp [results, Tryz.results65, go_sem]) rfl ⟨rfl, _, HF.out _⟩
  · have hb := hM.lt
    obtain ⟨o, hd, hd'⟩ := names_drop hM ok.sorted (fun p hp => by rw [hF.1]; exact (ok.named p hp).2) hx.1
    have hd1 : ∀ c ty, (Builtin.delete_ #[55, 9] ty #[.map (some b), .string n]).run Tryz.prog (w.alloc c).drew = .ok (.tuple #[]) (setBlock (w.alloc c).drew b o) := fun c ty => hd _ ty (heap_alloc_lt hb)
    have hfin : ∀ c, DiskAt (setBlock (w.alloc (.cells c 144)).drew b o) A { D with names := nmSet D.names (n, none) } ρ fb ∧ Fr nmMarks ρ ρ w (setBlock (w.alloc (.cells c 144)).drew b o) := fun c => by
      refine DiskAt.names_turn ok out role hr hb hlt hA hO hP hF _ hx rfl rfl rfl ?_ (fun i hi hne => (setBlock_ne _ hne).trans (heap_alloc_lt hi)) (hd' _ (setBlock_at _ ?_))
      · rw [setBlock_size]; show _ ≤ (w.heap.push _).size; simp
      · show b < (w.heap.push _).size; simp; omega
    have HF := Lib.hid hfin
    clear hfin h' ok out role hA hO hP hF hx hlt hd hd' hM hr hb
    go_enter Tryz.func65, Tryz.ntmps65
    go_wp2
    go_region
    go_wp2
    exact bodyPost_ret (v := .tuple #[]) (by simp [results, Tryz.results65, go_sem]) rfl ⟨rfl, _, HF.out _⟩

set_option maxHeartbeats 2000000 in
set_option maxRecDepth 100000 in
theorem lead_put (A : Nat) (D : DSt) (ρ : Nat → Nat × Nat) (fb : List Nat) (w : World) (h : DiskAt w A D ρ fb) (hroom : D.names.length < maxLen) (n : Nm) (i B : Nat) (hx : linkOk D.files.length (n, some i)) (hB : fb[i]? = some B) :
    Calls Tryz.prog 65 #[.pointer (some ⟨A, 0, none⟩), .agg #[.string n, .pointer (some ⟨B, 0, none⟩)]] w fun e w' => e = .returned (.tuple #[]) ∧ LedN w A { D with names := nmSet D.names (n, some i) } ρ fb w' := by
  have hlt := h.lt
  obtain ⟨ok, out, role, ⟨m, op, pl, hA, hN, hO, hP⟩, hF⟩ := h
  have c0 : w.cell? ⟨A, 0, none⟩ = some (.map m) := by simp [World.cell?, hA, topCells]
  have g0 : w.frozen? ⟨A, 0, none⟩ = false := by simp [World.frozen?, hA]
  have a0 := cell_alloc c0
  have z0 := frozen_alloc hlt g0
  have hnl : ∀ p ∈ D.names, p.2 < fb.length := fun p hp => by rw [hF.1]; exact (ok.named p hp).2
  have hmn := map_is_nil
  have hmm := @run_makeMap Tryz.prog
  rcases hN with ⟨rfl, hL⟩ | ⟨b, rfl, hr, hM⟩
  · obtain ⟨Wa, hWa⟩ : ∃ Wa, Wa = w.setCell ⟨A, 0, none⟩ (.map (some (w.heap.size + 1))) := ⟨_, rfl⟩
    obtain ⟨W1, hW1⟩ : ∃ W1, W1 = Wa.alloc (.cells #[.string n, .pointer (some ⟨B, 0, none⟩)] 144) := ⟨_, rfl⟩
    have hsa : Wa.heap.size = w.heap.size := by rw [hWa]; simp [World.setCell]
    have hs1 : W1.heap.size = w.heap.size + 1 := by rw [hW1]; simp [hsa]
    have hM := Mp.made (P := Tryz.prog) W1 9
    rw [hs1] at hM
    obtain ⟨o, hd, hd'⟩ := Mp.put_new hM strK Tryz.underlying55 (v := fileV B) (strKey hx.1) (fun _ h => h) (by decide)
    obtain ⟨W2, hW2⟩ : ∃ W2, W2 = W1.alloc (.map #[] 0) := ⟨_, rfl⟩
    have hA2 : W2.heap[A]? = some (.cells (topCells (some (w.heap.size + 1)) op D.steps pl) 59 (0, 0)) := by
      rw [hW2, heap_alloc_lt (by omega), hW1, heap_alloc_lt (by omega), hWa]; exact heap_setCell_same _ _ _ _ _ _ hA
    have hs2 : W2.heap.size = w.heap.size + 2 := by rw [hW2]; simp; omega
    have hW2o : ∀ j, j < w.heap.size → j ≠ A → W2.heap[j]? = w.heap[j]? := fun j hj hne => by
      rw [hW2, heap_alloc_lt (by omega), hW1, heap_alloc_lt (by omega), hWa, heap_setCell_ne hne]
    have hm2 : W2.heap[w.heap.size + 1]? = (W1.alloc (.map #[] 0)).heap[w.heap.size + 1]? := by rw [hW2]
    have hl2 : W2.heap[w.heap.size]? = some (.cells #[.string n, .pointer (some ⟨B, 0, none⟩)] 144 (0, 0)) := by
      rw [hW2, heap_alloc_lt (by omega), hW1, ← hsa]; exact heap_alloc_new _ _
    have d0 : W2.cell? ⟨A, 0, none⟩ = some (.map (some (w.heap.size + 1))) := by simp [World.cell?, hA2, topCells]
    have l0 : W2.cell? ⟨w.heap.size, 0, none⟩ = some (.string n) := by simp [World.cell?, hl2]
    have l1 : W2.cell? ⟨w.heap.size, 1, none⟩ = some (.pointer (some ⟨B, 0, none⟩)) := by simp [World.cell?, hl2]
    have hu : (Instr.mapUpdate 55 (.map (some (w.heap.size + 1))) (.string n) (.pointer (some ⟨B, 0, none⟩))).run Tryz.prog W2.drew = .ok () (setBlock W2.drew (w.heap.size + 1) o) := hd _ hm2
    have hfin : DiskAt (setBlock W2.drew (w.heap.size + 1) o) A { D with names := nmSet D.names (n, some i) } (fun j => if j = w.heap.size + 1 then (2, 0) else ρ j) fb ∧ Fr nmMarks ρ (fun j => if j = w.heap.size + 1 then (2, 0) else ρ j) w (setBlock W2.drew (w.heap.size + 1) o) := by
      have hsz : (setBlock W2.drew (w.heap.size + 1) o).heap.size = w.heap.size + 2 := by rw [setBlock_size]; exact hs2
      have F : Fr (fun r => r = (1, 0)) ρ (fun j => if j = w.heap.size + 1 then (2, 0) else ρ j) w (setBlock W2.drew (w.heap.size + 1) o) := by
        refine ⟨by rw [show (setBlock W2.drew (w.heap.size + 1) o).os = W2.os from rfl, hW2, hW1, hWa]; rfl, by rw [show (setBlock W2.drew (w.heap.size + 1) o).tape = W2.tape from rfl, hW2, hW1, hWa]; rfl, by rw [show (setBlock W2.drew (w.heap.size + 1) o).output = W2.output from rfl, hW2, hW1, hWa]; rfl, by omega, fun j hj hn => ?_, fun j hn => ?_, fun j hj hn => ?_, fun j hj => ?_⟩
        · exact (setBlock_ne _ (by omega)).trans (hW2o j hj (fun e => hn (by rw [e]; exact role)))
        · have : j ≠ w.heap.size + 1 := by rintro rfl; exact hn (out _ (by omega))
          simp [this]
        · have : j ≠ w.heap.size + 1 := by omega
          simpa [this] using hn
        · rw [hsz] at hj
          have : j ≠ w.heap.size + 1 := by omega
          simpa [this] using out j (by omega)
      refine ⟨⟨ok_set ok hx, F.out, F.mark role (by simp), ⟨some (w.heap.size + 1), op, pl, (setBlock_ne _ (by omega)).trans hA2, .inr ⟨w.heap.size + 1, rfl, by simp, ?_⟩, hO.fr F (by simp) (by simp), hP.fr F (by simp)⟩, hF.fr F (by simp) (by simp)⟩, F.weaken (fun r hr => .inl hr)⟩
      have e : nmSet D.names (n, some i) = [(n, i)] := by rw [hL]; rfl
      show Mp _ _ _ _ (namesS fb (nmSet D.names (n, some i))) (nmSet D.names (n, some i)).length
      rw [e]
      refine (hd' _ (setBlock_at _ (by show _ < W2.heap.size; omega))).congr (fun y u => ?_)
      constructor
      · rintro (⟨rfl, rfl⟩ | ⟨_, h⟩)
        · exact ⟨n, i, B, by simp, hB, rfl, rfl⟩
        · exact h.elim
      · rintro ⟨n', i', B', h1, h2, rfl, rfl⟩
        obtain ⟨rfl, rfl⟩ : n' = n ∧ i' = i := by simpa using h1
        rw [hB] at h2; cases h2
        exact .inl ⟨rfl, rfl⟩
    have HF := Lib.hid hfin
    have HW1 := Lib.hid hW1
    have HWa := Lib.hid hWa
    have HW2 := Lib.hid hW2
    clear hfin ok out role hA hO hP hF hL hx hd hd' hM hA2 hs2 hW2o hm2 hnl hs1 hsa hl2 hWa hW1 hW2 hB
    go_enter Tryz.func65, Tryz.ntmps65
    go_wp2
    rw [← HWa.out, ← HW1.out, ← HW2.out]
    go_region
    go_wp2
    go_end0
    exact ⟨rfl, _, HF.out⟩
  · have hb := hM.lt
    obtain ⟨o, hd, hd'⟩ := names_put hM ok.sorted hnl hroom hx.1 hB
    have hd1 : ∀ c, (Instr.mapUpdate 55 (.map (some b)) (.string n) (.pointer (some ⟨B, 0, none⟩))).run Tryz.prog (w.alloc c).drew = .ok () (setBlock (w.alloc c).drew b o) := fun c => hd _ (heap_alloc_lt hb)
    have hfin : ∀ c, DiskAt (setBlock (w.alloc (.cells c 144)).drew b o) A { D with names := nmSet D.names (n, some i) } ρ fb ∧ Fr nmMarks ρ ρ w (setBlock (w.alloc (.cells c 144)).drew b o) := fun c => by
      refine DiskAt.names_turn ok out role hr hb hlt hA hO hP hF _ hx rfl rfl rfl ?_ (fun i hi hne => (setBlock_ne _ hne).trans (heap_alloc_lt hi)) (hd' _ (setBlock_at _ ?_))
      · rw [setBlock_size]; show _ ≤ (w.heap.push _).size; simp
      · show b < (w.heap.push _).size; simp; omega
    have HF := Lib.hid hfin
    clear hfin ok out role hA hO hP hF hx hlt hd hd' hM hr hb hnl hB
    go_enter Tryz.func65, Tryz.ntmps65
    go_wp2
    go_region
    go_wp2
    go_end0
    exact ⟨rfl, _, HF.out _⟩

theorem lead_n (A : Nat) (D : DSt) (ρ : Nat → Nat × Nat) (fb : List Nat) (w : World) (h : DiskAt w A D ρ fb) (hroom : D.names.length < maxLen) (x : Nm × Option Nat) (hx : linkOk D.files.length x) :
    Calls Tryz.prog 65 #[.pointer (some ⟨A, 0, none⟩), .agg #[.string x.1, ptrV fb x.2]] w fun e w' => e = .returned (.tuple #[]) ∧ LedN w A { D with names := nmSet D.names x } ρ fb w' := by
  obtain ⟨n, o⟩ := x
  cases o with
  | none => exact lead_drop A D ρ fb w h n hx
  | some i =>
    have hi : i < fb.length := by rw [h.files.1]; exact hx.2 i rfl
    have hB := List.getElem?_eq_getElem hi
    have := lead_put A D ρ fb w h hroom n i _ hx hB
    simpa [ptrV, hB] using this
theorem lead_any (A : Nat) (D : DSt) (ρ : Nat → Nat × Nat) (fb : List Nat) (w : World) (h : DiskAt w A D ρ fb) (hroom : D.names.length < maxLen) (x : Nm × Option Nat) (hx : linkOk D.files.length x) :
    Calls Tryz.prog 65 #[.pointer (some ⟨A, 0, none⟩), .agg #[.string x.1, ptrV fb x.2]] w fun e w' => e = .returned (.tuple #[]) ∧ Led w A { D with names := nmSet D.names x } ρ fb w' :=
  (lead_n A D ρ fb w h hroom x hx).mono fun _ _ ⟨he, hl⟩ => ⟨he, hl.led⟩
theorem Fr.transS {S : Nat × Nat → Prop} (hS : ¬ S (0, 0)) {ρ ρ1 ρ2 : Nat → Nat × Nat} {w w1 w2 : World} (h : Fr S ρ ρ1 w w1) (k : Fr S ρ1 ρ2 w1 w2) : Fr S ρ ρ2 w w2 where
  os := k.os.trans h.os
  tape := k.tape.trans h.tape
  output := k.output.trans h.output
  size := Nat.le_trans h.size k.size
  block b hb hn := by
    refine (k.block b (Nat.lt_of_lt_of_le hb h.size) ?_).trans (h.block b hb hn)
    by_cases e : ρ b = (0, 0)
    · rw [h.stay b hb e]; exact hS
    · rw [h.keep b e]; exact hn
  keep b hn := by
    have := h.keep b hn
    rw [k.keep b (by rw [this]; exact hn), this]
  stay b hb e := k.stay b (Nat.lt_of_lt_of_le hb h.size) (h.stay b hb e)
  out := k.out
end Go.Proofs.YtioidkbpjkcjeaaGreatDoor
namespace Go.Proofs.YtioidkbpjkcjeaaGreatDoor
open Go.RowKit Dk

theorem linkInfo : (Tryz.prog.info? 144).map (fun i => (i.zero, i.size, i.bytes)) = some (some (.agg #[.string ⟨#[]⟩, .pointer none]), 2, 24) := by kernel_rfl
theorem changeInfo : (Tryz.prog.info? 142).map (fun i => (i.zero, i.size, i.bytes)) = some (some (.slice none 0 0), 1, 24) := by kernel_rfl
theorem Fr.later {S : Nat × Nat → Prop} {ρ ρ' : Nat → Nat × Nat} {w w' w2 : World} (h : Fr S ρ ρ' w w') (os : w2.os = w'.os) (tape : w2.tape = w'.tape) (output : w2.output = w'.output) (size : w'.heap.size ≤ w2.heap.size) (hb : ∀ b, b < w.heap.size → w2.heap[b]? = w'.heap[b]?) : Fr S ρ ρ' w w2 :=
  ⟨os.trans h.os, tape.trans h.tape, output.trans h.output, Nat.le_trans h.size size, fun b hlt hn => (hb b hlt).trans (h.block b hlt hn), h.keep, h.stay, fun b hlt => h.out b (Nat.le_trans size hlt)⟩
theorem befores_append (L : List (Nm × Nat)) (a b : List (Nm × Option Nat)) : befores L (a ++ b) = befores L a ++ befores (a.foldl nmSet L) b := by
  induction a generalizing L with
  | nil => rfl
  | cons x r ih => simp only [List.cons_append, befores, List.foldl_cons, ih]
theorem foldl_length (l : List (Nm × Option Nat)) (L : List (Nm × Nat)) : (l.foldl nmSet L).length ≤ L.length + l.length := by
  induction l generalizing L with
  | nil => simp
  | cons x r ih => have := ih (nmSet L x); have := length_nmSet_le L x; simp only [List.foldl_cons, List.length_cons]; omega
theorem befores_ok {k : Nat} (l : List (Nm × Option Nat)) (L : List (Nm × Nat)) (hs : Sorted L) (hL : ∀ p ∈ L, p.2 < k) (hl : ∀ x ∈ l, linkOk k x) : ∀ x ∈ befores L l, linkOk k x := by
  induction l generalizing L with
  | nil => intro x hx; simp [befores] at hx
  | cons y r ih =>
    intro x hx
    simp only [befores, List.mem_cons] at hx
    rcases hx with rfl | hx
    · exact ⟨(hl y (by simp)).1, fun i hi => hL _ ((nmGet_some hs).1 hi)⟩
    · refine ih _ (sorted_nmSet hs y) (fun p hp => ?_) (fun z hz => hl z (by simp [hz])) x hx
      unfold nmSet at hp
      cases h : y.2 with
      | none => rw [h] at hp; exact hL p (mem_nmDel.1 hp).2
      | some i =>
        rw [h] at hp
        rcases mem_nmPut.1 hp with rfl | hp
        · exact (hl y (by simp)).2 i h
        · exact hL p hp.2
/-- The names behind the first k links. -/
def part (D : DSt) (l : List (Nm × Option Nat)) (k : Nat) : DSt := { D with names := (l.take k).foldl nmSet D.names }
theorem part_succ (D : DSt) (l : List (Nm × Option Nat)) (k : Nat) (hk : k < l.length) : part D l (k + 1) = { part D l k with names := nmSet (part D l k).names l[k] } := by
  simp only [part, List.take_succ_eq_append_getElem hk, List.foldl_append, List.foldl_cons, List.foldl_nil]
def RelR (w : World) (A : Nat) (D : DSt) (ρ : Nat → Nat × Nat) (fb : List Nat) (l : List (Nm × Option Nat)) (k : Nat) (bv : Value) (wr : World) : Prop :=
  ∃ ρk, DiskAt wr A (part D l k) ρk fb ∧ Fr own ρ ρk w wr ∧ wr.ownsRow w.heap.size 144 2 bv k ((befores D.names (l.take k)).flatMap (linkCells fb)) ∧ ∀ g, bv.ownBlock = some g → ρk g = (0, 0)
theorem RelR.start {w : World} {A : Nat} {D : DSt} {ρ : Nat → Nat × Nat} {fb : List Nat} (h : DiskAt w A D ρ fb) (l : List (Nm × Option Nat)) : RelR w A D ρ fb l 0 (.slice none 0 0) w :=
  ⟨ρ, h, ⟨rfl, rfl, rfl, Nat.le_refl _, fun _ _ _ => rfl, fun _ _ => rfl, fun _ _ h => h, h.out⟩, World.ownsRow_nil _ _ _ _, fun g hg => by simp [Value.ownBlock] at hg⟩

/-- One round: what stood under the name is kept. -/
theorem RelR.kept {w : World} {A : Nat} {D : DSt} {ρ : Nat → Nat × Nat} {fb : List Nat} {l : List (Nm × Option Nat)} {k : Nat} {bv : Value} {wr : World} (h : RelR w A D ρ fb l k bv wr) (hk : k < l.length) (hl : l.length ≤ 1000000) (x : Nm × Option Nat) (hx : l[k] = x)
    (V X : World) (hV : V = wr.alloc (.cells #[.string x.1, ptrV fb x.2] 144)) (hX : X = (V.alloc (.cells #[.string x.1, ptrV fb (nmGet (part D l k).names x.1)] 144)).drew) :
    ∃ v' W', (∀ ty, (Builtin.append_ #[142, 142] ty #[bv, .slice (some ⟨wr.heap.size + 1, 0, none⟩) 1 1]).run Tryz.prog X = .ok v' W') ∧
      W'.cell? ⟨wr.heap.size, 0, none⟩ = some (.string x.1) ∧ W'.cell? ⟨wr.heap.size, 1, none⟩ = some (ptrV fb x.2) ∧
      (∀ b, b < wr.heap.size → bv.ownBlock ≠ some b → W'.heap[b]? = wr.heap[b]?) ∧ ∃ ρk, DiskAt W' A (part D l k) ρk fb ∧ Fr own ρ ρk w W' ∧ W'.ownsRow w.heap.size 144 2 v' (k + 1) ((befores D.names (l.take (k + 1))).flatMap (linkCells fb)) ∧ (∀ g, v'.ownBlock = some g → ρk g = (0, 0)) := by
  obtain ⟨ρk, hD, hF, hrow, hro⟩ := h
  obtain ⟨i0, hi, hz0, hz1, hz2⟩ := info_parts linkInfo
  have hsV : V.heap.size = wr.heap.size + 1 := by rw [hV]; simp
  have hsX : X.heap.size = wr.heap.size + 2 := by rw [hX]; show (V.heap.push _).size = _; simp; omega
  have hXo : ∀ b, b < wr.heap.size → X.heap[b]? = wr.heap[b]? := fun b hb => by
    rw [hX]; show (V.alloc _).heap[b]? = _; rw [heap_alloc_lt (by omega), hV, heap_alloc_lt hb]
  have hXr : X.ownsRow w.heap.size 144 2 bv k ((befores D.names (l.take k)).flatMap (linkCells fb)) := ownsRow_same hrow (fun g hg => hXo g (ownsRow_lt hrow g hg))
  have hXn : X.heap[wr.heap.size + 1]? = some (.cells #[.string x.1, ptrV fb (nmGet (part D l k).names x.1)] 144 (0, 0)) := by
    rw [hX, ← hsV]; exact heap_alloc_new V _
  have hXv : X.heap[wr.heap.size]? = some (.cells #[.string x.1, ptrV fb x.2] 144 (0, 0)) := by
    rw [hX]; show (V.alloc _).heap[wr.heap.size]? = _; rw [heap_alloc_lt (by omega), hV]; exact heap_alloc_new wr _
  obtain ⟨g, cap, W', hrun, hrow', hgrow, hat, hlt⟩ := run_append_lies (P := Tryz.prog) (w := X) 142 0 w.heap.size 144 i0 _ 2 24 Tryz.underlying142 hi hz0 hz1 hz2 rfl (by decide) bv k _ hXr
    ⟨wr.heap.size + 1, 0, none⟩ 1 1 [.string x.1, ptrV fb (nmGet (part D l k).names x.1)] rfl (World.news_of_block hXn) (by intro u hu; simp only [List.mem_cons, List.not_mem_nil, or_false] at hu; rcases hu with rfl | rfl <;> rfl) (by decide) (by unfold maxLen; omega) (by omega) (by have := hF.size; omega) _ hsX
  refine ⟨_, W', fun ty => hrun, ?_, ?_, fun b hb hn => (hgrow.block b (by omega) (fun e => hn e.symm)).trans (hXo b hb), ρk, hD.others (Fr.others (hgrow.os.trans (by rw [hX, hV]; rfl)) (hgrow.tape.trans (by rw [hX, hV]; rfl)) (hgrow.output.trans (by rw [hX, hV]; rfl)) (by have := hgrow.size; omega) (fun b hb hn => ?_) hD.out), hF.later (hgrow.os.trans (by rw [hX, hV]; rfl)) (hgrow.tape.trans (by rw [hX, hV]; rfl)) (hgrow.output.trans (by rw [hX, hV]; rfl)) (by have := hgrow.size; omega) (fun b hb => ?_), ?_, ?_⟩
  · have : W'.heap[wr.heap.size]? = X.heap[wr.heap.size]? := hgrow.block _ (by omega) (fun e => by have := ownsRow_lt hrow _ e.symm; omega)
    simp [World.cell?, this, hXv]
  · have : W'.heap[wr.heap.size]? = X.heap[wr.heap.size]? := hgrow.block _ (by omega) (fun e => by have := ownsRow_lt hrow _ e.symm; omega)
    simp [World.cell?, this, hXv]
  · exact (hgrow.block b (by omega) (fun e => hn (hro b e.symm))).trans (hXo b hb)
  · refine (hgrow.block b (by have := hF.size; omega) (fun e => ?_)).trans (hXo b (by have := hF.size; omega))
    have := (hrow.lt b e.symm).1; omega
  · have e : (befores D.names (l.take (k + 1))).flatMap (linkCells fb) = (befores D.names (l.take k)).flatMap (linkCells fb) ++ [.string x.1, ptrV fb (nmGet (part D l k).names x.1)] := by
      rw [List.take_succ_eq_append_getElem hk, befores_append, List.flatMap_append, hx]
      simp [befores, linkCells, part]
    rw [e]; exact hrow'
  · intro g' hg'
    have : g = g' := by simpa [Value.ownBlock] using hg'
    subst this
    rcases hat with hat | hat
    · exact hro _ hat
    · exact hD.out _ (by omega)
/-- .. and the name leads elsewhere. -/
theorem RelR.led {w : World} {A : Nat} {D : DSt} {ρ ρk : Nat → Nat × Nat} {fb : List Nat} {l : List (Nm × Option Nat)} {k : Nat} {v' : Value} {W' W2 : World} (hk : k < l.length) (hF : Fr own ρ ρk w W')
    (hrow : W'.ownsRow w.heap.size 144 2 v' (k + 1) ((befores D.names (l.take (k + 1))).flatMap (linkCells fb))) (hro : ∀ g, v'.ownBlock = some g → ρk g = (0, 0)) (h : Led W' A { part D l k with names := nmSet (part D l k).names l[k] } ρk fb W2) : RelR w A D ρ fb l (k + 1) v' W2 := by
  obtain ⟨ρ', hD, hF'⟩ := h
  refine ⟨ρ', by rw [part_succ D l k hk]; exact hD, hF.trans hF', ownsRow_same hrow (fun g hg => hF'.block g (ownsRow_lt hrow g hg) (by rw [hro g hg]; simp [own])), fun g hg => hF'.stay g (ownsRow_lt hrow g hg) (hro g hg)⟩

theorem ok_part {D : DSt} (ok : D.Ok) {l : List (Nm × Option Nat)} (hl : ∀ x ∈ l, linkOk D.files.length x) (k : Nat) : (part D l k).Ok := by
  have : ∀ (r : List (Nm × Option Nat)) (D : DSt), D.Ok → (∀ x ∈ r, linkOk D.files.length x) → ({ D with names := r.foldl nmSet D.names } : DSt).Ok := by
    intro r
    induction r with
    | nil => intro D h _; exact h
    | cons x r ih => intro D h hx; exact ih _ (ok_set h (hx x (by simp))) (fun y hy => hx y (by simp [hy]))
  exact this _ _ ok (fun x hx => hl x (List.mem_of_mem_take hx))

/-- What of a frame the parts of a disk need. -/
structure Fs (S : Nat × Nat → Prop) (ρ ρ' : Nat → Nat × Nat) (w w' : World) : Prop where
  block : ∀ b, b < w.heap.size → ρ b ≠ (0, 0) → ¬ S (ρ b) → w'.heap[b]? = w.heap[b]?
  keep : ∀ b, b < w.heap.size → ρ b ≠ (0, 0) → ρ' b = ρ b
section
variable {S : Nat × Nat → Prop} {ρ ρ' : Nat → Nat × Nat} {w w' : World} {fb : List Nat}
theorem Fs.at {b : Nat} {r : Nat × Nat} (h : Fs S ρ ρ' w w') (hb : b < w.heap.size) (hr : ρ b = r) (hn : r ≠ (0, 0)) (hs : ¬ S r) : w'.heap[b]? = w.heap[b]? := h.block b hb (by rw [hr]; exact hn) (by rw [hr]; exact hs)
theorem Fs.mark {b : Nat} {r : Nat × Nat} (h : Fs S ρ ρ' w w') (hb : b < w.heap.size) (hr : ρ b = r) (hn : r ≠ (0, 0)) : ρ' b = r := by rw [h.keep b hb (by rw [hr]; exact hn), hr]
theorem NamesAt.fs {m : Option Nat} {L : List (Nm × Nat)} (h : NamesAt w ρ fb m L) (F : Fs S ρ ρ' w w') (hs : ¬ S (2, 0)) : NamesAt w' ρ' fb m L := by
  rcases h with h | ⟨b, h1, h2, h3⟩
  · exact .inl h
  · exact .inr ⟨b, h1, F.mark h3.lt h2 (by simp), h3.kept (F.at h3.lt h2 (by simp) hs)⟩
theorem PlanAt.fs {m : Option Nat} {L : List (Int × Int × Int)} (h : PlanAt w ρ m L) (F : Fs S ρ ρ' w w') (hs : ¬ S (7, 0)) : PlanAt w' ρ' m L := by
  rcases h with h | ⟨b, k, h1, h2, h3⟩
  · exact .inl h
  · exact .inr ⟨b, k, h1, F.mark h3.lt h2 (by simp), h3.kept (F.at h3.lt h2 (by simp) hs)⟩
theorem ChgAt.fs {i : Nat} {v : Value} {l : List (Nm × Option Nat)} (h : ChgAt w ρ fb i v l) (F : Fs S ρ ρ' w w') (hs : ¬ S (4, i)) : ChgAt w' ρ' fb i v l :=
  ⟨ownsRow_same h.1 (fun g hg => F.at (ownsRow_lt h.1 g hg) (h.2 g hg) (by simp) hs), fun g hg => F.mark (ownsRow_lt h.1 g hg) (h.2 g hg) (by simp)⟩
theorem FileAt.fs {i B : Nat} {f : FileC} (h : FileAt w ρ i B f) (F : Fs S ρ ρ' w w') (hs : ¬ S (5, i)) (hs' : ¬ S (6, i)) : FileAt w' ρ' i B f := by
  obtain ⟨h1, v, h2, h3, h4⟩ := h
  exact ⟨F.mark (Array.getElem?_eq_some_iff.1 h2).1 h1 (by simp), v, (F.at (Array.getElem?_eq_some_iff.1 h2).1 h1 (by simp) hs).trans h2, ownsRow_same h3 (fun g hg => F.at (ownsRow_lt h3 g hg) (h4 g hg) (by simp) hs'), fun g hg => F.mark (ownsRow_lt h3 g hg) (h4 g hg) (by simp)⟩
theorem FilesAt.fs {fs : List FileC} (h : FilesAt w ρ fb fs) (F : Fs S ρ ρ' w w') (hs : ∀ i, ¬ S (5, i)) (hs' : ∀ i, ¬ S (6, i)) : FilesAt w' ρ' fb fs :=
  ⟨h.1, fun i f hf => let ⟨B, h1, h2⟩ := h.2 i f hf; ⟨B, h1, h2.fs F (hs i) (hs' i)⟩⟩
end
def setR (ρ : Nat → Nat × Nat) (o : Option Nat) (r : Nat × Nat) : Nat → Nat × Nat := fun b => if o = some b then r else ρ b
theorem relink_ok {D : DSt} (ok : D.Ok) {l : List (Nm × Option Nat)} (hl : ∀ x ∈ l, linkOk D.files.length x) : (D.relink l).Ok := by
  have h := ok_part ok hl l.length
  have e : l.take l.length = l := List.take_length
  refine ⟨by have := h.sorted; simpa [part, DSt.relink, e] using this, by have := h.named; simpa [part, DSt.relink, e] using this, ?_, ok.synced⟩
  intro c hc
  simp only [DSt.relink, List.mem_append, List.mem_singleton] at hc
  rcases hc with hc | rfl
  · exact ok.opened c hc
  · exact befores_ok l D.names ok.sorted (fun p hp => (ok.named p hp).2) hl
theorem RelR.done {w : World} {A : Nat} {D : DSt} {ρ : Nat → Nat × Nat} {fb : List Nat} {l : List (Nm × Option Nat)} {bv : Value} {wr : World} (ok : D.Ok) (hl : ∀ x ∈ l, linkOk D.files.length x) (hsz : D.opn.length ≤ 1099511627776) (h : RelR w A D ρ fb l l.length bv wr) :
    ∃ op p' n' c' Y', wr.cell? ⟨A, 1, none⟩ = some op ∧ (∀ ty, (Builtin.append_ #[56, 56] ty #[op, .slice (some ⟨wr.heap.size, 0, none⟩) 1 1]).run Tryz.prog (wr.alloc (.cells #[bv] 142)) = .ok (.slice p' n' c') Y') ∧
      Y'.cell? ⟨A, 1, none⟩ = some op ∧ Y'.frozen? ⟨A, 1, none⟩ = false ∧ Led w A (D.relink l) ρ fb (Y'.setCell ⟨A, 1, none⟩ (.slice p' n' c')) := by
  obtain ⟨ρk, hD, hF, hrow, hro⟩ := h
  obtain ⟨-, out, role, ⟨m, op, pl, hA, hN, ⟨vs, hO1, hO2, hO3⟩, hP⟩, hFi⟩ := hD
  have hlt : A < wr.heap.size := (Array.getElem?_eq_some_iff.1 hA).1
  have el : l.take l.length = l := List.take_length
  have ep : (part D l l.length).opn = D.opn := rfl
  rw [el] at hrow
  rw [ep] at hO1 hO3
  obtain ⟨i0, hi, hz0, hz1, hz2⟩ := info_parts changeInfo
  obtain ⟨Y, hY⟩ : ∃ Y, Y = wr.alloc (.cells #[bv] 142) := ⟨_, rfl⟩
  have hsY : Y.heap.size = wr.heap.size + 1 := by rw [hY]; simp
  have hYo : ∀ b, b < wr.heap.size → Y.heap[b]? = wr.heap[b]? := fun b hb => by rw [hY, heap_alloc_lt hb]
  have hYr : Y.ownsRow 0 142 1 op D.opn.length vs := ownsRow_same hO1 (fun g hg => hYo g (ownsRow_lt hO1 g hg))
  have hYn : Y.heap[wr.heap.size]? = some (.cells #[bv] 142 (0, 0)) := by rw [hY]; exact heap_alloc_new wr _
  have h1 : bv.oneCell' = true := by
    rcases hrow.2 with ⟨rfl, _⟩ | ⟨g, cap, cur, rfl, _⟩ <;> rfl
  obtain ⟨g, cap, Y', hrun, hrow', hgrow, hat, hglt⟩ := run_append_lies (P := Tryz.prog) (w := Y) 56 0 0 142 i0 _ 1 24 Tryz.underlying56 hi hz0 hz1 hz2 rfl (by decide) op D.opn.length vs hYr
    ⟨wr.heap.size, 0, none⟩ 1 1 [bv] rfl (World.news_of_block hYn) (by intro u hu; simp only [List.mem_singleton] at hu; rw [hu]; exact h1) (by decide) (by unfold maxLen; omega) (by omega) (Nat.zero_le _) _ hsY
  have hYb : ∀ b, b < wr.heap.size → op.ownBlock ≠ some b → Y'.heap[b]? = wr.heap[b]? := fun b hb hn => (hgrow.block b (by omega) (fun e => hn e.symm)).trans (hYo b hb)
  have hAop : op.ownBlock ≠ some A := fun e => by have := hO2 A e; rw [role] at this; cases this
  have hA' : Y'.heap[A]? = some (.cells (topCells m op D.steps pl) 59 (0, 0)) := (hYb A hlt hAop).trans hA
  refine ⟨op, some ⟨g, 0, none⟩, D.opn.length + 1, cap, Y', by simp [World.cell?, hA, topCells], fun ty => hY ▸ hrun, by simp [World.cell?, hA', topCells], by simp [World.frozen?, hA'], ?_⟩
  -- the marks: what the name led to, and the row of open changes
  have hgr : op.ownBlock = some g ∨ wr.heap.size < g := by
    rcases hat with h | h
    · exact .inl h
    · exact .inr (by omega)
  have hbg : ∀ c, bv.ownBlock = some c → c ≠ g := by
    intro c hc e
    subst e
    rcases hgr with h | h
    · have h3 := hO2 c h; rw [hro c hc] at h3; cases h3
    · have := ownsRow_lt hrow c hc; omega
  have hgA : g ≠ A := by
    rintro rfl
    rcases hgr with h | h
    · exact hAop h
    · omega
  obtain ⟨ρ', hρ'⟩ : ∃ ρ', ρ' = setR (setR ρk bv.ownBlock (4, D.opn.length)) (some g) (3, 0) := ⟨_, rfl⟩
  have hρg : ρ' g = (3, 0) := by rw [hρ']; simp [setR]
  have hρb : ∀ c, bv.ownBlock = some c → ρ' c = (4, D.opn.length) := fun c hc => by
    have := hbg c hc
    rw [hρ']; simp [setR, hc, Ne.symm this]
  have hρo : ∀ b, b ≠ g → bv.ownBlock ≠ some b → ρ' b = ρk b := fun b h1 h2 => by rw [hρ']; simp [setR, Ne.symm h1, h2]
  have hsz2 : (Y'.setCell ⟨A, 1, none⟩ (.slice (some ⟨g, 0, none⟩) (D.opn.length + 1) cap)).heap.size = Y'.heap.size := by simp [World.setCell]
  obtain ⟨Z, hZ⟩ : ∃ Z, Z = Y'.setCell ⟨A, 1, none⟩ (.slice (some ⟨g, 0, none⟩) (D.opn.length + 1) cap) := ⟨_, rfl⟩
  rw [← hZ]
  have hsZ : Z.heap.size = Y'.heap.size := by rw [hZ]; simp [World.setCell]
  have hZb : ∀ b, b < wr.heap.size → op.ownBlock ≠ some b → b ≠ A → Z.heap[b]? = wr.heap[b]? := fun b hb h1 h2 => by
    rw [hZ, heap_setCell_ne h2]; exact hYb b hb h1
  have hZY : ∀ b, b ≠ A → Z.heap[b]? = Y'.heap[b]? := fun b h2 => by rw [hZ, heap_setCell_ne h2]
  have F : Fs (fun r => r = (1, 0) ∨ r = (3, 0)) ρk ρ' wr Z := by
    refine ⟨fun b hb hn hs => hZb b hb (fun e => hs (.inr (hO2 b e))) (fun e => hs (.inl (by rw [e]; exact role))), fun b hb hn => ?_⟩
    by_cases h1 : b = g
    · subst h1
      rcases hgr with h | h
      · rw [hρg, hO2 b h]
      · omega
    · by_cases h2 : bv.ownBlock = some b
      · exact absurd (hro b h2) hn
      · exact hρo b h1 h2
  have hbw : ∀ c, bv.ownBlock = some c → w.heap.size ≤ c := fun c hc => (hrow.lt c hc).1
  have hgw : ρ g = (0, 0) → w.heap.size ≤ g := fun e => by
    rcases hgr with h | h
    · by_cases hlt : g < w.heap.size
      · have := hF.stay g hlt e; rw [hO2 g h] at this; cases this
      · omega
    · have := hF.size; omega
  have G : Fr own ρ ρ' w Z := by
    have hsz := hF.size
    have hgs := hgrow.size
    refine ⟨?_, ?_, ?_, by omega, fun b hb hn => ?_, fun b hn => ?_, fun b hb e => ?_, fun b hb => ?_⟩
    · rw [hZ]; exact hgrow.os.trans ((show Y.os = wr.os by rw [hY]; rfl).trans hF.os)
    · rw [hZ]; exact hgrow.tape.trans ((show Y.tape = wr.tape by rw [hY]; rfl).trans hF.tape)
    · rw [hZ]; exact hgrow.output.trans ((show Y.output = wr.output by rw [hY]; rfl).trans hF.output)
    · have e : ρ b = (0, 0) := Classical.byContradiction hn
      have e1 := hF.stay b hb e
      exact (hZb b (by omega) (fun h => by have := hO2 b h; rw [e1] at this; cases this) (fun h => by rw [h, role] at e1; cases e1)).trans (hF.block b hb hn)
    · have h1 := hF.keep b hn
      have hlt' : b < wr.heap.size := by
        by_cases h : b < wr.heap.size
        · exact h
        · have := out b (by omega); rw [h1] at this; exact absurd this hn
      rw [F.keep b hlt' (by rw [h1]; exact hn), h1]
    · have e1 := hF.stay b hb e
      rw [hρo b (fun h => by have := hgw (by rw [← h]; exact e); omega) (fun h => by have := hbw b h; omega), e1]
    · rw [hρo b (fun h => by omega) (fun h => by have := ownsRow_lt hrow b h; omega)]
      exact out b (by omega)
  have hAZ : Z.heap[A]? = some (.cells (topCells m (.slice (some ⟨g, 0, none⟩) (D.opn.length + 1) cap) D.steps pl) 59 (0, 0)) := by
    rw [hZ]; exact heap_setCell_same _ _ _ _ _ _ hA'
  refine ⟨ρ', ⟨relink_ok ok hl, G.out, F.mark hlt role (by simp), ⟨m, _, pl, hAZ, ?_, ⟨vs ++ [bv], ?_, ?_, ?_⟩, hP.fs F (by simp)⟩, hFi.fs F (by simp) (by simp)⟩, G⟩
  · have := hN.fs F (by simp)
    simpa [part, DSt.relink, el] using this
  · have e : (D.relink l).opn.length = D.opn.length + 1 := by simp [DSt.relink]
    rw [e]
    exact ownsRow_same hrow' (fun c hc => by
      have : g = c := by simpa [Value.ownBlock] using hc
      subst this; exact hZY g hgA)
  · intro c hc
    have : g = c := by simpa [Value.ownBlock] using hc
    subst this; exact hρg
  · intro i c hc
    simp only [DSt.relink] at hc
    have hvl : vs.length = D.opn.length := by simpa using hO1.1
    rw [List.getElem?_append] at hc
    split at hc
    · rename_i hi'
      obtain ⟨v, h1, h2⟩ := hO3 i c hc
      exact ⟨v, by rw [List.getElem?_append_left (by omega)]; exact h1, h2.fs F (by simp)⟩
    · rename_i hi'
      have hi2 : i = D.opn.length := by
        have := List.getElem?_eq_some_iff.1 hc
        obtain ⟨h, _⟩ := this
        simp at h; omega
      subst hi2
      simp only [Nat.sub_self, List.getElem?_cons_zero, Option.some.injEq] at hc
      subst hc
      refine ⟨bv, by rw [List.getElem?_append_right (by omega)]; simp [hvl], ?_, fun c hc => hρb c hc⟩
      rw [befores_length]
      have h3 := ownsRow_same (w' := Z) hrow (fun c hc => hZb c (ownsRow_lt hrow c hc) (fun h => by have := hO2 c h; rw [hro c hc] at this; cases this) (fun h => by have := hro c hc; rw [h, role] at this; cases this))
      exact Go.Joins.ownsRow_le h3 (Nat.zero_le _)
end Go.Proofs.YtioidkbpjkcjeaaGreatDoor
