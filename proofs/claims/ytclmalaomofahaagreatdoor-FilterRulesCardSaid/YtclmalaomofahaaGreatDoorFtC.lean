/- The law's Twin: a condition in memory of its own. Conditions: those that each theorem names. -/
import Derived.Test.YtclmalaomofahaaGreatDoorFtB
namespace Go.Proofs.YtclmalaomofahaaGreatDoor
set_option linter.unusedVariables false
namespace Ft
open Go Go.RowKit Pq Pq.Pl Rk Px
abbrev zC : Obj := .cells #[.int .i64 0, .string ⟨#[]⟩, .int .i64 0, .int .i64 0, .string ⟨#[]⟩, .int .i64 0, .int .i64 0, .slice none 0 0] 26
abbrev kobj (r : Rc) (lv : Value) : Obj := .cells #[.int .i64 r.kind, .string r.name, .int .i64 r.val.kind, .int .i64 r.val.n, .string r.val.text, .int .i64 r.low, .int .i64 r.high, lv] 26
theorem set_row {w : World} {g k : Nat} {cs : Array Value} {T : TypeId} {m : Nat × Nat} (h : w.heap[g]? = some (.cells cs T m)) (v : Value) : (w.setCell ⟨g, k, none⟩ v).heap[g]? = some (.cells (cs.setIfInBounds k v) T m) := Pq.setCell_at h v
theorem set_else {w : World} {g k b : Nat} (v : Value) (h : b ≠ g) : (w.setCell ⟨g, k, none⟩ v).heap[b]? = w.heap[b]? := heap_setCell_other _ _ _ _ h
theorem set_size {w : World} {g k : Nat} (v : Value) : (w.setCell ⟨g, k, none⟩ v).heap.size = w.heap.size := by simp [World.setCell]
theorem below_set {w0 w : World} {B g k : Nat} (v : Value) (h : Below B w0 w) (hg : B ≤ g) : Below B w0 (w.setCell ⟨g, k, none⟩ v) :=
  ⟨h.os, h.tape, h.output, by rw [set_size]; exact h.size, fun b hb => (set_else v (by omega)).trans (h.block b hb)⟩
theorem set8 {w : World} {g : Nat} {a0 a1 a2 a3 a4 a5 a6 a7 : Value} {T : TypeId} (h : w.heap[g]? = some (.cells #[a0, a1, a2, a3, a4, a5, a6, a7] T (0, 0))) (x0 x1 x2 x3 x4 x5 x6 x7 : Value) :
    ∃ W, W = ((((((((w.setCell ⟨g, 0, none⟩ x0).setCell ⟨g, 1, none⟩ x1).setCell ⟨g, 2, none⟩ x2).setCell ⟨g, 3, none⟩ x3).setCell ⟨g, 4, none⟩ x4).setCell ⟨g, 5, none⟩ x5).setCell ⟨g, 6, none⟩ x6).setCell ⟨g, 7, none⟩ x7) ∧
      W.heap[g]? = some (.cells #[x0, x1, x2, x3, x4, x5, x6, x7] T (0, 0)) ∧ W.heap.size = w.heap.size ∧ (∀ b, b ≠ g → W.heap[b]? = w.heap[b]?) ∧ ∀ (w0 : World) B, Below B w0 w → B ≤ g → Below B w0 W := by
  refine ⟨_, rfl, ?_, by simp [World.setCell], fun b hb => ?_, fun w0 B hB hg => ?_⟩
  · have h0 := set_row (k := 0) h x0
    have h1 := set_row (k := 1) h0 x1
    have h2 := set_row (k := 2) h1 x2
    have h3 := set_row (k := 3) h2 x3
    have h4 := set_row (k := 4) h3 x4
    have h5 := set_row (k := 5) h4 x5
    have h6 := set_row (k := 6) h5 x6
    have h7 := set_row (k := 7) h6 x7
    simp only [List.setIfInBounds_toArray, List.set_cons_zero, List.set_cons_succ] at h7
    exact h7
  · repeat rw [set_else _ hb]
  · exact below_set _ (below_set _ (below_set _ (below_set _ (below_set _ (below_set _ (below_set _ (below_set _ hB hg) hg) hg) hg) hg) hg) hg) hg
theorem cells8 {w : World} {g : Nat} {a0 a1 a2 a3 a4 a5 a6 a7 : Value} {T : TypeId} {m : Nat × Nat} (h : w.heap[g]? = some (.cells #[a0, a1, a2, a3, a4, a5, a6, a7] T m)) :
    w.cell? ⟨g, 0, none⟩ = some a0 ∧ w.cell? ⟨g, 1, none⟩ = some a1 ∧ w.cell? ⟨g, 2, none⟩ = some a2 ∧ w.cell? ⟨g, 3, none⟩ = some a3 ∧ w.cell? ⟨g, 4, none⟩ = some a4 ∧ w.cell? ⟨g, 5, none⟩ = some a5 ∧ w.cell? ⟨g, 6, none⟩ = some a6 ∧ w.cell? ⟨g, 7, none⟩ = some a7 :=
  ⟨Lib.cell_of_heap h 0, Lib.cell_of_heap h 1, Lib.cell_of_heap h 2, Lib.cell_of_heap h 3, Lib.cell_of_heap h 4, Lib.cell_of_heap h 5, Lib.cell_of_heap h 6, Lib.cell_of_heap h 7⟩
theorem frozen8 {w : World} {g : Nat} {cs : Array Value} {T : TypeId} (h : w.heap[g]? = some (.cells cs T (0, 0))) :
    w.frozen? ⟨g, 0, none⟩ = false ∧ w.frozen? ⟨g, 1, none⟩ = false ∧ w.frozen? ⟨g, 2, none⟩ = false ∧ w.frozen? ⟨g, 3, none⟩ = false ∧ w.frozen? ⟨g, 4, none⟩ = false ∧ w.frozen? ⟨g, 5, none⟩ = false ∧ w.frozen? ⟨g, 6, none⟩ = false ∧ w.frozen? ⟨g, 7, none⟩ = false :=
  ⟨Lib.frozen_of_heap h 0, Lib.frozen_of_heap h 1, Lib.frozen_of_heap h 2, Lib.frozen_of_heap h 3, Lib.frozen_of_heap h 4, Lib.frozen_of_heap h 5, Lib.frozen_of_heap h 6, Lib.frozen_of_heap h 7⟩
/-- What the loop of Twin has made behind q parts. -/
structure TwI (w : World) (r : Rc) (l : List Cd) (q : Nat) (lv : Value) (R : List Rc) (x : World) : Prop where
  bel : Below w.heap.size w x
  one : x.heap[w.heap.size]? = some (cobj r)
  two : x.heap[w.heap.size + 1]? = some zC
  thr : x.heap[w.heap.size + 2]? = some (kobj r lv)
  own : Rk.Own encC 8 26 x (w.heap.size + 3) lv R
  kids : KidsW (fun b => w.heap.size + 3 ≤ b ∧ some b ≠ lv.ownBlock) x (l.take q) R
  len : R.length = q
theorem TwI.size {w x : World} {r : Rc} {l : List Cd} {q : Nat} {lv : Value} {R : List Rc} (h : TwI w r l q lv R x) : w.heap.size + 3 ≤ x.heap.size := by
  have := Rk.lt_of_block h.thr; omega
theorem take_snoc {l : List Cd} {q : Nat} (h : q < l.length) : l.take (q + 1) = l.take q ++ [l[q]] := by rw [List.take_add_one, List.getElem?_eq_getElem h]; rfl
theorem KidsW.push {S : Nat → Prop} {w : World} {l : List Cd} {R : List Rc} {c : Cd} {r : Rc} (h : KidsW S w l R) (hc : CdW S w c r) : KidsW S w (l ++ [c]) (R ++ [r]) := by
  have hl := h.len
  refine KidsW.mk (by simp [hl]) fun j h1 h2 => ?_
  rcases Nat.lt_or_ge j l.length with c' | c'
  · rw [List.getElem_append_left c', List.getElem_append_left (by omega)]
    exact h.at j c' (by omega)
  · have : j = l.length := by simp at h1; omega
    subst this
    have e : (R ++ [r])[l.length] = r := by simp [← hl]
    rw [List.getElem_concat_length rfl, e]
    exact hc
/-- One part more. -/
theorem TwI.next {w x y : World} {r r' : Rc} {l : List Cd} {q : Nat} {lv : Value} {R : List Rc} (h : TwI w r l q lv R x) (hq : q < l.length) (hb : Below x.heap.size x y) (hc : CdW (fun b => x.heap.size ≤ b) y l[q] r') (hn : l.length * 96 ≤ 140737488355328) :
    ∃ v' z, (∀ ty, (Builtin.append_ #[24, 24] ty #[lv, .slice (some ⟨y.heap.size, 0, none⟩) 1 1]).run Tryz.prog (y.alloc (cobj r')) = .ok v' z) ∧ (∃ g cap, v' = .slice (some ⟨g, 0, none⟩) (q + 1) cap) ∧ z.heap[w.heap.size]? = some (cobj r) ∧ z.heap[w.heap.size + 2]? = some (kobj r lv) ∧
      z.cell? ⟨w.heap.size + 2, 7, none⟩ = some lv ∧ z.frozen? ⟨w.heap.size + 2, 7, none⟩ = false ∧ Below x.heap.size x (y.alloc (cobj r')) ∧ (∀ b, b < x.heap.size → some b ≠ lv.ownBlock → z.heap[b]? = x.heap[b]?) ∧ TwI w r l (q + 1) v' (R ++ [r']) (z.setCell ⟨w.heap.size + 2, 7, none⟩ v') := by
  have hsz := h.size
  have ho := Rk.own_below h.own hb
  have hlen := h.len
  have hya : (y.alloc (cobj r')).heap[y.heap.size]? = some (.cells (encC r').toArray 26 (0, 0)) := Rk.heap_last y _
  have hoa : Rk.Own encC 8 26 (y.alloc (cobj r')) (w.heap.size + 3) lv R := Rk.own_below ho (Rk.fresh_alloc y _)
  have hay : (y.alloc (cobj r')).heap.size = y.heap.size + 1 := by simp
  obtain ⟨v', z, hr, hz, hg, hown, g, cap, hv, hg1, hg2⟩ := Rk.append_el flatC hoa hya (by omega) (by unfold maxLen; omega) (by have := hb.size; omega)
  have hl : ∀ b, lv.ownBlock = some b → w.heap.size + 3 ≤ b ∧ b < x.heap.size := fun b e => Rk.own_block h.own b e
  have keep : ∀ b, b < (y.alloc (cobj r')).heap.size → some b ≠ lv.ownBlock → z.heap[b]? = (y.alloc (cobj r')).heap[b]? := fun b hb' hn => hg.block b hb' (fun e => hn e)
  have keepx : ∀ b, b < x.heap.size → some b ≠ lv.ownBlock → z.heap[b]? = x.heap[b]? := fun b hb' hn => by
    rw [keep b (by have := hb.size; omega) hn, Rk.heap_old _ _ (by have := hb.size; omega), hb.block b hb']
  have n0 : ∀ b, b < w.heap.size + 3 → some b ≠ lv.ownBlock := fun b hb' e => by have := hl b e.symm; omega
  have z1 : z.heap[w.heap.size]? = some (cobj r) := (keepx _ (by omega) (n0 _ (by omega))).trans h.one
  have z2 : z.heap[w.heap.size + 1]? = some zC := (keepx _ (by omega) (n0 _ (by omega))).trans h.two
  have z3 : z.heap[w.heap.size + 2]? = some (kobj r lv) := (keepx _ (by omega) (n0 _ (by omega))).trans h.thr
  have hb1 : Below x.heap.size x (y.alloc (cobj r')) := hb.trans ((Rk.fresh_alloc y _).mono hb.size)
  have hnz : v'.ownBlock = lv.ownBlock ∨ v'.ownBlock = some (y.heap.size + 1) := by rw [← hay]; exact hown
  have hbz : Below w.heap.size w z := ⟨hg.os.trans (hb1.os.trans h.bel.os), hg.tape.trans (hb1.tape.trans h.bel.tape), hg.output.trans (hb1.output.trans h.bel.output), by have := hg.size; have := hb.size; omega, fun b hb' => (keepx b (by omega) (n0 b (by omega))).trans (h.bel.block b hb')⟩
  refine ⟨v', z, hr, ⟨g, cap, by rw [hv, hlen]⟩, z1, z3, (cells8 z3).2.2.2.2.2.2.2, (frozen8 z3).2.2.2.2.2.2.2, hb1, keepx, ?_⟩
  have oth : ∀ b, b ≠ w.heap.size + 2 → (z.setCell ⟨w.heap.size + 2, 7, none⟩ v').heap[b]? = z.heap[b]? := fun b hb' => set_else v' hb'
  have hvb : ∀ b, v'.ownBlock = some b → w.heap.size + 3 ≤ b := fun b e => (Rk.own_block hz b e).1
  refine ⟨below_set _ hbz (by omega), (oth _ (by omega)).trans z1, (oth _ (by omega)).trans z2, set_row z3 v', Rk.own_keep hz fun b e _ => oth b (by have := hvb b e; omega), ?_, by simp [hlen]⟩
  rw [take_snoc hq]
  have hsz2 : (z.setCell ⟨w.heap.size + 2, 7, none⟩ v').heap.size = z.heap.size := set_size v'
  have k1 : KidsW (fun b => w.heap.size + 3 ≤ b ∧ some b ≠ v'.ownBlock) (z.setCell ⟨w.heap.size + 2, 7, none⟩ v') (l.take q) R := by
    refine KidsW.frame (S := fun b => w.heap.size + 3 ≤ b ∧ some b ≠ lv.ownBlock) (w := x) (fun b hb' hS => ⟨hS.1, fun e => ?_⟩) (fun b hS hb' => (oth b (by omega)).trans (keepx b hb' hS.2)) ?_ _ _ h.kids
    · have := hg.size; have := hb.size; omega
    · rcases hnz with e2 | e2
      · exact hS.2 (e.trans e2)
      · rw [e2] at e; injection e with e; have := hb.size; omega
  have k2 : CdW (fun b => w.heap.size + 3 ≤ b ∧ some b ≠ v'.ownBlock) (z.setCell ⟨w.heap.size + 2, 7, none⟩ v') l[q] r' := by
    refine CdW.frame (S := fun b => x.heap.size ≤ b) (w := y) (fun b hb' hS => ⟨by omega, fun e => ?_⟩) (fun b hS hb' => ?_) ?_ _ _ hc
    · rw [oth b (by omega), keep b (by omega) (fun e => by have := hl b e.symm; omega), Rk.heap_old _ _ hb']
    · have := hg.size; omega
    · rcases hnz with e2 | e2
      · rw [e2] at e; have := hl b e.symm; omega
      · rw [e2] at e; injection e with e; omega
  exact k1.push k2
/-- What Twin answers. -/
def TwinOk (c : Cd) : Prop := ∀ (r : Rc) (w : World), CdW (fun _ => True) w c r → Big c →
  Calls Tryz.prog 7 #[cv r] w fun e w' => ∃ r', e = .returned (cv r') ∧ CdW (fun b => w.heap.size ≤ b) w' c r' ∧ Below w.heap.size w w'
end Ft
end Go.Proofs.YtclmalaomofahaaGreatDoor
