/- A map that is ranged over, known by what stands under what and by what has come: the range's start, its step, and what it leaves. Conditions: those that each theorem names. -/
import Derived.Test.YtkmfkgjkgnlfnaaMp
import Derived.Maps.RangeWalk
namespace Go.Proofs.Ytkmfkgjkgnlfnaa
set_option linter.unusedVariables false
open Go Go.Maps Go.MapKept Go.RowKit
open Go.WideElems (Fit rd rg rd_key rd_mk)
open Go.ChangeMaps (setBlock)

/-- Block r ranges over the map of block b; D has come, cnt entries are left. -/
def Rgm (P : Program) (k : TypeId) (w : World) (b r n : Nat) (S : Value → Value → Prop) (D : List (Value × Value)) (cnt : Nat) : Prop :=
  ∃ (es : Array MapEntry) (clock since : Nat) (seen : Array Nat) (c0 : Nat) (Dn : List MapEntry), w.heap[b]? = some (.map es clock) ∧ Fit P k anyR es clock ∧ es.size = n ∧ (∀ y u, (∃ e ∈ es.toList, e.key = y ∧ e.val = u) ↔ S y u) ∧
    w.heap[r]? = some (.mapIter (some b) since seen c0) ∧ (∀ x ∈ es.toList, x.born < since) ∧ since ≤ c0 ∧ since ≤ clock ∧ (leftOf es seen).size = cnt ∧
    D = Dn.map (fun e => (e.key, e.val)) ∧ seen.toList = Dn.map (fun e => e.born) ∧ (∀ e ∈ Dn, e ∈ es.toList) ∧ (Dn.map fun e => e.born).Nodup
section
variable {P : Program} {k t e : TypeId} {w w' : World} {b r n cnt : Nat} {S : Value → Value → Prop} {D : List (Value × Value)}
theorem Rgm.mp (h : Rgm P k w b r n S D cnt) : Mp P k w b S n := by
  obtain ⟨es, clock, since, seen, c0, Dn, hb, F, hn, hS, _⟩ := h
  exact ⟨es, clock, hb, F, hn, hS⟩
theorem Rgm.lt (h : Rgm P k w b r n S D cnt) : r < w.heap.size := by
  obtain ⟨es, clock, since, seen, c0, Dn, hb, F, hn, hS, hr, _⟩ := h
  exact (Array.getElem?_eq_some_iff.1 hr).1
theorem Rgm.ne (h : Rgm P k w b r n S D cnt) : r ≠ b := by
  obtain ⟨es, clock, since, seen, c0, Dn, hb, F, hn, hS, hr, _⟩ := h
  intro e
  rw [e, hb] at hr
  cases hr
theorem Rgm.kept (h : Rgm P k w b r n S D cnt) (hb' : w'.heap[b]? = w.heap[b]?) (hr' : w'.heap[r]? = w.heap[r]?) : Rgm P k w' b r n S D cnt := by
  obtain ⟨es, clock, since, seen, c0, Dn, hb, F, hn, hS, hr, rest⟩ := h
  exact ⟨es, clock, since, seen, c0, Dn, hb'.trans hb, F, hn, hS, hr'.trans hr, rest⟩
theorem Rgm.left_eq (h : Rgm P k w b r n S D cnt) : w.rangeLeft b r = cnt := by
  obtain ⟨es, clock, since, seen, c0, Dn, hb, F, hn, hS, hr, _, _, _, hc, _⟩ := h
  simp only [World.rangeLeft, hb, hr]
  exact hc
theorem Rgm.all (h : Rgm P k w b r n S D cnt) : ∀ p ∈ D, S p.1 p.2 := by
  obtain ⟨es, clock, since, seen, c0, Dn, hb, F, hn, hS, hr, _, _, _, hc, rfl, _, hD, _⟩ := h
  intro p hp
  obtain ⟨e, he, rfl⟩ := List.mem_map.1 hp
  exact (hS _ _).1 ⟨e, hD e he, rfl, rfl⟩
theorem nodup_map_inj {α β γ : Type} {f : α → β} {g : α → γ} : ∀ {l : List α}, (l.map f).Nodup → (∀ x ∈ l, ∀ y ∈ l, g x = g y → f x = f y) → (l.map g).Nodup
  | [], _, _ => List.nodup_nil
  | a :: l, h, hi => by
    rw [List.map_cons, List.nodup_cons] at h ⊢
    refine ⟨fun hm => ?_, nodup_map_inj h.2 fun x hx y hy => hi x (List.mem_cons_of_mem _ hx) y (List.mem_cons_of_mem _ hy)⟩
    obtain ⟨x, hx, ex⟩ := List.mem_map.1 hm
    exact h.1 (hi x (List.mem_cons_of_mem _ hx) a List.mem_cons_self ex ▸ List.mem_map_of_mem hx)
theorem key_one {es : Array MapEntry} {clock : Nat} (F : Fit P k anyR es clock) {x y : MapEntry} (hx : x ∈ es.toList) (hy : y ∈ es.toList) (h : x.key = y.key) : x = y := by
  obtain ⟨i, hi, rfl⟩ := List.getElem_of_mem hx
  obtain ⟨j, hj, rfl⟩ := List.getElem_of_mem hy
  obtain rfl := only_one F (List.getElem?_eq_getElem hi) (List.getElem?_eq_getElem hj) h
  rfl
/-- No key has come twice. -/
theorem Rgm.keys (h : Rgm P k w b r n S D cnt) : (D.map Prod.fst).Nodup := by
  obtain ⟨es, clock, since, seen, c0, Dn, hb, F, hn, hS, hr, _, _, _, hc, rfl, _, hD, hnd⟩ := h
  rw [List.map_map]
  exact nodup_map_inj hnd fun x hx y hy e => congrArg _ (key_one F (hD x hx) (hD y hy) e)
theorem nodup_sub_len {α : Type} [DecidableEq α] : ∀ {A B : List α}, A.Nodup → (∀ x ∈ A, x ∈ B) → A.length ≤ B.length
  | [], _, _, _ => Nat.zero_le _
  | a :: A, B, h, hs => by
    rw [List.nodup_cons] at h
    have h1 : A.length ≤ (B.erase a).length := nodup_sub_len h.2 fun x hx => (List.mem_erase_of_ne fun e => h.1 (by rw [← e]; exact hx)).2 (hs x (List.mem_cons_of_mem _ hx))
    have h2 := List.length_erase_of_mem (hs a List.mem_cons_self)
    have h3 := List.length_pos_of_mem (hs a List.mem_cons_self)
    rw [List.length_cons]
    omega
theorem Rgm.length (h : Rgm P k w b r n S D cnt) : D.length ≤ n := by
  obtain ⟨es, clock, since, seen, c0, Dn, hb, F, hn, hS, hr, _, _, _, hc, rfl, _, hD, hnd⟩ := h
  have := nodup_sub_len (B := es.toList.map fun e => e.born) hnd fun x hx => by
    obtain ⟨e, he, rfl⟩ := List.mem_map.1 hx
    exact List.mem_map_of_mem (hD e he)
  simp at this
  rw [List.length_map]
  omega
/-- 'range m'. -/
theorem Mp.range (h : Mp P k w b S n) (ht : P.underlying t = some (.map k e)) :
    ∃ o cnt, (Instr.range t (.map (some b))).run P w = .ok (.pointer (some ⟨w.heap.size, 0, none⟩)) (w.alloc o) ∧ Rgm P k (w.alloc o) b w.heap.size n S [] cnt := by
  have hlt := h.lt
  obtain ⟨es, clock, hb, F, hs, hS⟩ := h
  exact ⟨_, _, run_range_map w t k e b es clock ht hb, es, clock, clock, #[], clock, [], ((MapKept.heap_alloc w _).2 b hlt).trans hb, F, hs, hS, (MapKept.heap_alloc w _).1, F.stamped.1, Nat.le_refl _, Nat.le_refl _, rfl, rfl, rfl, by simp, List.nodup_nil⟩
/-- The step. -/
theorem Rgm.next (h : Rgm P k w b r n S D cnt) (ty : TypeId) :
    ((∀ y u, S y u → (y, u) ∈ D) ∧ (Instr.next (.pointer (some ⟨r, 0, none⟩)) false ty).run P w = .ok (.tuple #[.bool false]) w) ∨
    ∃ y u w' cnt', S y u ∧ y ∉ D.map Prod.fst ∧ (Instr.next (.pointer (some ⟨r, 0, none⟩)) false ty).run P w = .ok (.tuple #[.bool true, y, u]) w' ∧
      Rgm P k w' b r n S (D ++ [(y, u)]) cnt' ∧ cnt' < cnt ∧ w.grownBy w' (some r) ∧ w'.heap.size = w.heap.size ∧ (Instr.entry (.pointer (some ⟨r, 0, none⟩))).run P w' = .ok (.tuple #[y, u]) w' := by
  have hne := h.ne
  obtain ⟨es, clock, since, seen, c0, Dn, hb, F, hn, hS, hr, hold, hsc, hsk, rfl, rfl, hsn, hD, hnd⟩ := h
  have hst := (stamped_iff es clock).1 F.stamped
  rcases run_next_at (P := P) w ty r b since c0 seen es clock hr hb hold hsc with ⟨h0, hrun⟩ | ⟨e, he, w1, hal, hrun⟩
  · refine .inl ⟨fun y u hyu => ?_, hrun⟩
    obtain ⟨x, hx, rfl, rfl⟩ := (hS _ _).2 hyu
    have h1 := all_seen es seen h0 x hx
    have h2 : x.born ∈ seen.toList := by simpa using h1
    rw [hsn] at h2
    obtain ⟨x', hx', e'⟩ := List.mem_map.1 h2
    obtain rfl := born_inj hst.2.1 (hD x' hx') hx e'
    exact List.mem_map_of_mem (f := fun e : MapEntry => (e.key, e.val)) hx'
  · obtain ⟨hem, hes⟩ := mem_left he
    have hr1 : w1.heap[r]? = some (.mapIter (some b) since seen c0) := by rcases hal with rfl | rfl <;> exact hr
    have hb1 : w1.heap[b]? = some (.map es clock) := by rcases hal with rfl | rfl <;> exact hb
    have hset := heap_set (o' := .mapIter (some b) since (seen.push e.born) clock) hr1
    have hb' : (setBlock w1 r (.mapIter (some b) since (seen.push e.born) clock)).heap[b]? = some (.map es clock) := (hset.2 b (fun e1 => hne e1.symm)).trans hb1
    have hnot : e ∉ Dn := fun hm => by
      have : e.born ∈ seen.toList := by rw [hsn]; exact List.mem_map_of_mem (f := fun e : MapEntry => e.born) hm
      rw [Array.mem_toList_iff, ← Array.contains_iff_mem] at this
      rw [this] at hes
      cases hes
    refine .inr ⟨e.key, e.val, _, _, (hS _ _).1 ⟨e, hem, rfl, rfl⟩, fun hm => ?_, hrun,
      ⟨es, clock, since, seen.push e.born, clock, Dn ++ [e], hb', F, hn, hS, hset.1, hold, hsk, hsk, rfl, by simp, by simp [hsn], fun x hx => ?_, ?_⟩, left_shrinks es seen e he, ?_, ?_, run_entry_at _ r b since seen es clock e hset.1 hb' hem hst.2.1⟩
    · rw [List.map_map] at hm
      obtain ⟨x, hx, ex⟩ := List.mem_map.1 hm
      exact hnot (key_one F (hD x hx) hem ex ▸ hx)
    · rcases List.mem_append.1 hx with hx | hx
      · exact hD x hx
      · simp at hx; subst hx; exact hem
    · rw [List.map_append]
      refine List.nodup_append.2 ⟨hnd, by simp, fun a ha c hc e1 => ?_⟩
      simp at hc
      subst hc
      subst e1
      obtain ⟨x, hx, ex⟩ := List.mem_map.1 ha
      exact hnot (born_inj hst.2.1 (hD x hx) hem ex ▸ hx)
    · rcases hal with rfl | rfl
      · exact ⟨rfl, rfl, rfl, by simp [setBlock], fun i hi hne' => hset.2 i (fun e1 => hne' (by rw [e1]))⟩
      · exact ⟨rfl, rfl, rfl, by simp [setBlock], fun i hi hne' => hset.2 i (fun e1 => hne' (by rw [e1]))⟩
    · rcases hal with rfl | rfl <;> simp [setBlock]
end
section
variable {P : Program} (w : World) {ops : Array Oper} {rest : List Oper} {o : Oper} {a : Act} {Q : Exit → Act → World → Prop}
/-- 'range m', in the walk. -/
theorem wpList_range_mp (hg : o.guard = none) (m : Operand) (t : TypeId) (hop : o.op = Op.range t m) (k e : TypeId) (ht : P.underlying t = some (.map k e)) (b n : Nat) (S : Value → Value → Prop)
    (hm : a.eval m = .map (some b)) (h : Mp P k w b S n)
    (hK : ∀ ob cnt, Rgm P k (w.alloc ob) b w.heap.size n S [] cnt → wpList P ops Q rest (a.put o.dst (.pointer (some ⟨w.heap.size, 0, none⟩))) (w.alloc ob)) :
    wpList P ops Q (o :: rest) a w := by
  refine wpList_plain hg fun K' hK' => ?_
  obtain ⟨ob, cnt, hrun, r1⟩ := h.range ht
  unfold Oper.wp
  simp [execOp, hop, hm, hrun, Result.andThen]
  exact hK' _ _ (hK ob cnt r1)
/-- The step, in the walk. -/
theorem wpList_next_mp {α β : Type} (hg : o.guard = none) (it : Operand) (hop : o.op = Op.next it false) (k : TypeId) (mkK : α → Value) (mkV : β → Value) (b r n : Nat) (S : Value → Value → Prop) (D : List (Value × Value)) (cnt : Nat)
    (inv : ∀ y u, S y u → ∃ x c, y = mkK x ∧ u = mkV c) (hit : a.eval it = .pointer (some ⟨r, 0, none⟩)) (h : Rgm P k w b r n S D cnt)
    (hDone : (∀ y u, S y u → (y, u) ∈ D) → wpList P ops Q rest (a.put o.dst (.tuple #[.bool false])) w)
    (hMore : ∀ (x : α) (c : β) (w' : World) (cnt' : Nat), S (mkK x) (mkV c) → mkK x ∉ D.map Prod.fst → Rgm P k w' b r n S (D ++ [(mkK x, mkV c)]) cnt' → cnt' < cnt →
      w.grownBy w' (some r) → w'.heap.size = w.heap.size → (Instr.entry (.pointer (some ⟨r, 0, none⟩))).run P w' = .ok (.tuple #[mkK x, mkV c]) w' → wpList P ops Q rest (a.put o.dst (.tuple #[.bool true, mkK x, mkV c])) w') :
    wpList P ops Q (o :: rest) a w := by
  refine wpList_plain hg fun K' hK' => ?_
  unfold Oper.wp
  rcases h.next o.type with ⟨hl, hrun⟩ | ⟨y, u, w', cnt', hs, hnew, hrun, hrg, hlt, hgr, hsz, hen⟩
  · simp [execOp, hop, hit, hrun, Result.andThen]
    exact hK' _ _ (hDone hl)
  · obtain ⟨x, c, rfl, rfl⟩ := inv y u hs
    simp [execOp, hop, hit, hrun, Result.andThen]
    exact hK' _ _ (hMore x c w' cnt' hs hnew hrg hlt hgr hsz hen)
end
end Go.Proofs.Ytkmfkgjkgnlfnaa
