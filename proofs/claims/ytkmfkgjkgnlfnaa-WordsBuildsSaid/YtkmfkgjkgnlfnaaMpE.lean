/- 'm[k] = f(m[k])' on a map known by what stands under what: the entry found or made, and the store into it. Conditions: those that each theorem names. -/
import Derived.Test.YtkmfkgjkgnlfnaaMp
namespace Go.Proofs.Ytkmfkgjkgnlfnaa
set_option linter.unusedVariables false
open Go Go.Maps Go.MapKept Go.RowKit
open Go.WideElems (Fit rd rg rd_key rd_mk)
open Go.ChangeMaps (setBlock)
section
variable {P : Program} {k t e : TypeId} {w : World} {b n : Nat} {S : Value → Value → Prop}
theorem findIdx_born {es : Array MapEntry} (h : (es.toList.map fun x => x.born).Nodup) {j : Nat} {e : MapEntry} (hj : es[j]? = some e) : es.findIdx? (fun x => (x.born : Int) == (e.born : Int)) = some j := by
  obtain ⟨hlt, rfl⟩ := Array.getElem?_eq_some_iff.1 hj
  rw [Array.findIdx?_eq_some_iff_getElem]
  refine ⟨hlt, by simp, fun i hi => ?_⟩
  have hil : i < es.size := by omega
  intro hc
  have hb : es[i].born = es[j].born := by have := eq_of_beq hc; omega
  have := nodup_inj h (i := i) (j := j) (by simpa using hil) (by simpa using hlt) (by simpa using hb)
  omega
/-- The value of an entry that is there. -/
theorem mp_mod {es : Array MapEntry} {clock : Nat} (F : Fit P k anyR es clock) (hs : es.size = n) (hS : ∀ y u, (∃ e ∈ es.toList, e.key = y ∧ e.val = u) ↔ S y u) {j : Nat} {e1 : MapEntry} (hj : es[j]? = some e1) {x : Value} (k1 : e1.key = x) (v : Value) :
    ∀ X : World, X.heap[b]? = some (.map (es.modify j fun e => { e with val := v }) clock) → Mp P k X b (fun y u => (y = x ∧ u = v) ∨ (y ≠ x ∧ S y u)) n := by
  intro X hX
  have hj' : es.toList[j]? = some e1 := by simpa using hj
  obtain ⟨hjl, ej⟩ := List.getElem?_eq_some_iff.1 hj'
  have m1 : e1 ∈ es.toList := ej ▸ List.getElem_mem hjl
  obtain ⟨l, hl⟩ := F.keys e1 m1
  have hlist : (es.modify j (fun e' => { e' with val := v })).toList = es.toList.set j { e1 with val := v } := by rw [Array.toList_modify, Go.ChangeMaps.modify_eq_set _ _ _ _ hj']
  refine ⟨_, clock, hX, ⟨by simpa using F.size, stamped_modify F.stamped _ _ (fun _ _ => rfl) (fun e' _ he' => rfl), ?_⟩, by simpa using hs, ?_⟩
  · intro y hy
    rw [hlist] at hy
    rcases List.mem_or_eq_of_mem_set hy with hy | rfl
    · exact F.reads y hy
    · obtain ⟨y, hy⟩ := F.reads e1 m1
      exact ⟨_, rd_mk hl (R := anyR) rfl⟩
  · intro y u
    rw [hlist]
    constructor
    · rintro ⟨e2, m2, k2, v2⟩
      obtain ⟨i, hi, ex⟩ := List.getElem_of_mem m2
      rw [List.getElem_set] at ex
      split at ex
      · subst ex; exact .inl ⟨k2.symm.trans k1, v2.symm⟩
      · rename_i hne
        have hi' : i < es.toList.length := by simpa using hi
        refine .inr ⟨fun hyx => hne ?_, (hS _ _).1 ⟨e2, ex ▸ List.getElem_mem hi', k2, v2⟩⟩
        exact only_one F hj' (show es.toList[i]? = some e2 by rw [List.getElem?_eq_getElem hi', ex]) (by rw [k1, k2, hyx])
    · rintro (⟨rfl, rfl⟩ | ⟨hne, hy⟩)
      · exact ⟨{ e1 with val := u }, List.mem_iff_getElem.2 ⟨j, by simpa using hjl, by simp⟩, k1, rfl⟩
      · obtain ⟨e2, m2, k2, v2⟩ := (hS _ _).2 hy
        obtain ⟨i, hi, ex⟩ := List.getElem_of_mem m2
        have hij : j ≠ i := by
          rintro rfl
          rw [ej] at ex; subst ex
          exact hne (k2.symm.trans k1)
        exact ⟨e2, List.mem_iff_getElem.2 ⟨i, by simpa using hi, by rw [List.getElem_set_ne hij]; exact ex⟩, k2, v2⟩
theorem run_entryStore_at {X : World} {es : Array MapEntry} {clock j : Nat} {e1 : MapEntry} (hst : Stamped es clock) (hX : X.heap[b]? = some (.map es clock)) (hj : es[j]? = some e1) (v : Value) :
    (Instr.entryStore t (.map (some b)) (.int .i64 (e1.born : Int)) v).run P X = .ok () (setBlock X b (.map (es.modify j fun e => { e with val := v }) clock)) := by
  have hb := findIdx_born ((stamped_iff es clock).1 hst).2.1 hj
  simp [Instr.entryStore, MapKept.run_getObj_map hX, asInt, asIntOf, Result.andThen, hb, MapKept.run_setObj_map _ hX, setBlock]
/-- A key that is there. -/
theorem Mp.entry_old (h : Mp P k w b S n) (K : Keyed P k) (ht : P.underlying t = some (.map k e)) {x u0 : Value} (hx : S x u0) :
    ∃ o1 st, (∀ X : World, X.heap[b]? = w.heap[b]? → (Instr.mapEntry t (.map (some b)) x).run P X = .ok (.tuple #[u0, .int .i64 st]) (setBlock X b o1)) ∧
      ∀ v, ∃ o2, (∀ X : World, X.heap[b]? = some o1 → (Instr.entryStore t (.map (some b)) (.int .i64 st) v).run P X = .ok () (setBlock X b o2)) ∧ ∀ X : World, X.heap[b]? = some o2 → Mp P k X b (fun y u => (y = x ∧ u = v) ∨ (y ≠ x ∧ S y u)) n := by
  obtain ⟨es, clock, hb, F, hs, hS⟩ := h
  obtain ⟨e1, m1, k1, v1⟩ := (hS _ _).2 hx
  obtain ⟨l, hl⟩ := F.keys e1 m1
  rw [k1] at hl
  obtain ⟨j, hjl, ej⟩ := List.getElem_of_mem m1
  have hj' : es.toList[j]? = some e1 := by rw [List.getElem?_eq_getElem hjl, ej]
  have hj : es[j]? = some e1 := by simpa using hj'
  have hmod : es.modify j (fun e' => { e' with key := x }) = es := by
    apply Array.ext'
    rw [Array.toList_modify, Go.ChangeMaps.modify_eq_set _ _ _ _ hj']
    have : ({ e1 with key := x } : MapEntry) = e1 := by subst k1; rfl
    rw [this]
    apply List.ext_getElem?
    intro i
    rw [List.getElem?_set]
    split
    · rename_i hij; subst hij; simp [hj']
    · rfl
  refine ⟨.map es clock, e1.born, fun X hX => ?_, fun v => ⟨_, fun X hX => run_entryStore_at F.stamped hX hj v, mp_mod F hs hS hj k1 v⟩⟩
  rw [hb] at hX
  rcases K.find X hl es.toList F.keys with ⟨_, h2⟩ | ⟨j', e0, h1, h2, h3⟩
  · exact absurd k1 (h2 _ m1)
  · obtain rfl := only_one F h2 hj' (h3.trans k1.symm)
    obtain rfl : e0 = e1 := Option.some.inj (h2.symm.trans hj')
    simp [Instr.mapEntry, run_underlying ht, MapKept.run_getObj_map hX, K.check X false hl, h1, hj, k1, K.stays X hl, hmod, MapKept.run_setObj_map _ hX, Result.andThen, setBlock, v1, goInt]
/-- A key that is not there. -/
theorem Mp.entry_new (h : Mp P k w b S n) (K : Keyed P k) (ht : P.underlying t = some (.map k e)) {z : Value} (hz : ∀ W : World, (zeroValue e).run P W = .ok z W) {x : Value} {l : Lit} (hl : keyOf P k x = some l) (hx : ∀ v, ¬ S x v) (hn : n < maxLen) :
    ∃ o1 st, (∀ X : World, X.heap[b]? = w.heap[b]? → (Instr.mapEntry t (.map (some b)) x).run P X = .ok (.tuple #[z, .int .i64 st]) (setBlock X b o1)) ∧
      ∀ v, ∃ o2, (∀ X : World, X.heap[b]? = some o1 → (Instr.entryStore t (.map (some b)) (.int .i64 st) v).run P X = .ok () (setBlock X b o2)) ∧ ∀ X : World, X.heap[b]? = some o2 → Mp P k X b (fun y u => (y = x ∧ u = v) ∨ (y ≠ x ∧ S y u)) (n + 1) := by
  obtain ⟨es, clock, hb, F, hs, hS⟩ := h
  have hno : ∀ e ∈ es.toList, e.key ≠ x := fun e he hk => hx e.val ((hS _ _).1 ⟨e, he, hk, rfl⟩)
  have F' : Fit P k anyR (es.push ⟨x, z, clock⟩) (clock + 1) := ⟨by simp; omega, stamped_push F.stamped hno, by
    intro y hy
    simp only [Array.toList_push, List.mem_append, List.mem_singleton] at hy
    rcases hy with hy | rfl
    · exact F.reads y hy
    · exact ⟨_, rd_mk hl (R := anyR) rfl⟩⟩
  have hS' : ∀ y u, (∃ e ∈ (es.push ⟨x, z, clock⟩).toList, e.key = y ∧ e.val = u) ↔ (S y u ∨ (y = x ∧ u = z)) := by
    intro y u
    rw [← hS]
    simp only [Array.toList_push, List.mem_append, List.mem_singleton]
    constructor
    · rintro ⟨e1, m1 | rfl, k1, v1⟩
      · exact .inl ⟨e1, m1, k1, v1⟩
      · exact .inr ⟨k1.symm, v1.symm⟩
    · rintro (⟨e1, m1, k1, v1⟩ | ⟨rfl, rfl⟩)
      · exact ⟨e1, .inl m1, k1, v1⟩
      · exact ⟨_, .inr rfl, rfl, rfl⟩
  have hj : (es.push ⟨x, z, clock⟩)[es.size]? = some ⟨x, z, clock⟩ := by simp
  refine ⟨.map (es.push ⟨x, z, clock⟩) (clock + 1), (clock : Int), fun X hX => ?_, fun v => ⟨_, fun X hX => run_entryStore_at F'.stamped hX hj v, fun X hX => (mp_mod F' (n := n + 1) (by simp [hs]) hS' hj rfl v X hX).congr fun y u => ?_⟩⟩
  · rw [hb] at hX
    rcases K.find X hl es.toList F.keys with ⟨h1, h2⟩ | ⟨j, e0, h1, h2, h3⟩
    · simp [Instr.mapEntry, run_underlying ht, MapKept.run_getObj_map hX, K.check X false hl, h1, hz, MapKept.run_setObj_map _ hX, Result.andThen, setBlock, goInt]
    · exact absurd h3 (hno _ (List.mem_of_getElem? h2))
  · constructor
    · rintro (a | ⟨a, q | ⟨q, _⟩⟩)
      · exact .inl a
      · exact .inr ⟨a, q⟩
      · exact absurd q a
    · rintro (a | ⟨a, q⟩)
      · exact .inl a
      · exact .inr ⟨a, .inl q⟩
end
end Go.Proofs.Ytkmfkgjkgnlfnaa
