/- Rows of points in memory; the program's lasts: of each id the place of its last point. Conditions: those that each theorem names. -/
import Derived.Test.YtkmfkgjkgnlfnaaWdA
import Derived.Test.YtkmfkgjkgnlfnaaWdI
namespace Go.Proofs.Ytkmfkgjkgnlfnaa
set_option linter.unusedVariables false
namespace Wd
open Go Go.RowKit Go.Shelf Go.Sort Go.Maps Pq Pq.Pl Rk
open Go.ChangeMaps (setBlock)
/-! ### Points -/
/-- A slice's header. -/
structure Sl where
  p : Option Addr
  n : Nat
  c : Nat
abbrev slv (s : Sl) : Value := .slice s.p s.n s.c
/-- A point as it lies in a row. -/
structure Rp where
  id : Int
  v : Sl
  f : Sl
instance : Inhabited Rp := ⟨⟨0, ⟨none, 0, 0⟩, ⟨none, 0, 0⟩⟩⟩
def encP (r : Rp) : List Value := [.int .i64 r.id, slv r.v, slv r.f]
abbrev pobj (r : Rp) : Obj := .cells #[.int .i64 r.id, slv r.v, slv r.f] 33
theorem flatP : Flat Try.prog encP 3 33 22 56 where
  under := Try.underlying22
  info := info_of (z := .agg #[.int .i64 0, .slice none 0 0, .slice none 0 0]) (by kernel_rfl) rfl
  pos := by decide
  len _ := rfl
  one x u hu := by simp [encP] at hu; rcases hu with rfl | rfl | rfl <;> rfl
/-- What is read as a point. -/
def PtW (w : World) (r : Rp) (p : Pt) : Prop := r.id = p.id ∧ VecsAt w (slv r.v) p.vecs ∧ FldsAt w (slv r.f) p.flds
theorem PtW.below {w w' : World} {r : Rp} {p : Pt} (h : PtW w r p) (g : Below w.heap.size w w') : PtW w' r p := ⟨h.1, h.2.1.below g, h.2.2.below g⟩
/-- A row of points. -/
def PtsAt (w : World) (v : Value) (L : List Pt) : Prop := ∃ R, RowAt encP 3 w v R ∧ R.length = L.length ∧ ∀ j (h : j < R.length) (h' : j < L.length), PtW w R[j] L[j]
theorem PtsAt.below {w w' : World} {v : Value} {L : List Pt} (h : PtsAt w v L) (g : Below w.heap.size w w') : PtsAt w' v L := by
  obtain ⟨R, h1, h2, h3⟩ := h
  exact ⟨R, h1.below g, h2, fun j a b => (h3 j a b).below g⟩
theorem PtsAt.form {w : World} {v : Value} {L : List Pt} (h : PtsAt w v L) : ∃ p c, v = .slice p L.length c := by
  obtain ⟨R, h1, h2, _⟩ := h
  rw [← h2]
  exact h1.form
/-- A point of bearable size, of numbers of 64 bits. -/
structure OkP (p : Pt) : Prop where
  id : (Lit.int .i64 p.id).wf = true
  flds : FldsOk p.flds
  vals : ∀ f ∈ p.flds, OkV f.val
/-- The cells of a point in a row. -/
theorem pts_at {w : World} {v : Value} {L : List Pt} (h : PtsAt w v L) (hv : ∀ p c, v ≠ .slice p 0 c) :
    ∃ g off c, v = .slice (some ⟨g, off, none⟩) L.length c ∧ g < w.heap.size ∧ ∀ k (hk : k < L.length), ∃ r : Rp, PtW w r L[k] ∧ ∀ W : World, W.heap[g]? = w.heap[g]? →
      W.cell? ⟨g, off + k * 3, none⟩ = some (.int .i64 r.id) ∧ W.cell? ⟨g, off + k * 3 + 1, none⟩ = some (slv r.v) ∧ W.cell? ⟨g, off + k * 3 + 2, none⟩ = some (slv r.f) := by
  obtain ⟨R, h1, h2, h3⟩ := h
  rcases h1 with ⟨rfl, p, c, rfl⟩ | ⟨g, off, c, rfl, hg, hc⟩
  · exact absurd rfl (hv p c)
  · refine ⟨g, off, c, by rw [h2], hg, fun k hk => ?_⟩
    have hk' : k < R.length := by omega
    exact ⟨R[k], h3 k hk' hk, fun W hW => ⟨hc W hW k hk' 0 _ rfl, hc W hW k hk' 1 _ rfl, hc W hW k hk' 2 _ rfl⟩⟩
/-! ### Of each id the place of its last point -/
def lastS (L : List Pt) (y u : Value) : Prop := ∃ (i : Nat) (h : i < L.length), y = .int .i64 (L[i]).id ∧ u = .int .i64 (i : Int) ∧ ∀ j (hj : j < L.length), i < j → (L[j]).id ≠ (L[i]).id
theorem lastS_next {L : List Pt} {k : Nat} (hk : k < L.length) (y u : Value) :
    ((y = .int .i64 (L[k]).id ∧ u = .int .i64 (k : Int)) ∨ (y ≠ .int .i64 (L[k]).id ∧ lastS (L.take k) y u)) ↔ lastS (L.take (k + 1)) y u := by
  have hl : (L.take (k + 1)).length = k + 1 := by simp; omega
  have hl' : (L.take k).length = k := by simp; omega
  constructor
  · rintro (⟨rfl, rfl⟩ | ⟨hne, i, hi, rfl, rfl, hj⟩)
    · exact ⟨k, by omega, by rw [List.getElem_take], rfl, fun j hj hkj => by omega⟩
    · refine ⟨i, by omega, by rw [List.getElem_take, List.getElem_take], rfl, fun j hj2 hij => ?_⟩
      rw [List.getElem_take, List.getElem_take]
      rcases Nat.lt_or_ge j k with c | c
      · have := hj j (by omega) hij
        rwa [List.getElem_take, List.getElem_take] at this
      · obtain rfl : j = k := by omega
        intro e
        apply hne
        rw [List.getElem_take, e]
  · rintro ⟨i, hi, rfl, rfl, hj⟩
    rw [List.getElem_take]
    rcases Nat.lt_or_ge i k with c | c
    · refine .inr ⟨fun e => ?_, i, by omega, by rw [List.getElem_take], rfl, fun j hj2 hij => ?_⟩
      · have := hj k (by omega) c
        rw [List.getElem_take, List.getElem_take] at this
        injection e with _ e
        exact this e.symm
      · have := hj j (by omega) hij
        rw [List.getElem_take, List.getElem_take] at this ⊢
        exact this
    · obtain rfl : i = k := by omega
      exact .inl ⟨rfl, rfl⟩
theorem lastS_has (L : List Pt) (x : Int) : (∃ u, lastS L (.int .i64 x) u) ↔ x ∈ L.map fun p => p.id := by
  constructor
  · rintro ⟨u, i, hi, e, _⟩
    injection e with _ e
    rw [e]
    exact List.mem_map.2 ⟨_, List.getElem_mem hi, rfl⟩
  · intro h
    suffices ∀ n (A : List Pt), A.length = n → x ∈ (A.map fun p => p.id) → ∃ u, lastS A (.int .i64 x) u from this _ L rfl h
    intro n
    induction n with
    | zero =>
      intro A e hx
      obtain rfl := List.length_eq_zero_iff.1 e
      simp at hx
    | succ n ih =>
      intro A e hx
      have hk : n < A.length := by omega
      have hA : A = A.take (n + 1) := by rw [List.take_of_length_le (by omega)]
      rw [hA] at hx ⊢
      by_cases hc : (A[n]).id = x
      · exact ⟨_, (lastS_next hk _ _).1 (.inl ⟨by rw [hc], rfl⟩)⟩
      · rw [List.take_add_one, List.getElem?_eq_getElem hk, List.map_append, List.mem_append] at hx
        rcases hx with hx | hx
        · obtain ⟨u, hu⟩ := ih (A.take n) (by simp; omega) hx
          exact ⟨u, (lastS_next hk _ _).1 (.inr ⟨fun e => hc (by injection e with _ e; exact e.symm), hu⟩)⟩
        · simp at hx
          exact absurd hx.symm hc
theorem lastS_one {L : List Pt} {y u : Value} (h : lastS L y u) : ∃ (i : Nat) (hi : i < L.length), y = .int .i64 (L[i]).id ∧ u = .int .i64 (i : Int) := by
  obtain ⟨i, hi, a, b, _⟩ := h
  exact ⟨i, hi, a, b⟩
def lastWld (w : World) (M : Nat) (L : List Pt) (k : Nat) (wr : World) : Prop := (∃ n, n ≤ k ∧ Mp Try.prog 3 wr M (lastS (L.take k)) n) ∧ Below w.heap.size w wr
theorem int_lessV {n k : Nat} (h : k < n) : n - (RowKit.intOf (.int .i64 ((k + 1 : Nat) : Int))).toNat < n - (RowKit.intOf (.int .i64 (k : Int))).toNat := by
  simp only [RowKit.intOf, Int.toNat_natCast]; omega
theorem last_put {M k n : Nat} {L : List Pt} (hk : k < L.length) {wr W : World} (h : Mp Try.prog 3 wr M (lastS (L.take k)) n) (hn : n ≤ k) (hm : k < maxLen) (hw : (Lit.int .i64 (L[k]).id).wf = true) (hW : W.heap[M]? = wr.heap[M]?) :
    ∃ o, (Instr.mapUpdate 55 (.map (some M)) (.int .i64 (L[k]).id) (.int .i64 (k : Int))).run Try.prog W = .ok () (setBlock W M o) ∧ ∃ n', n' ≤ k + 1 ∧ Mp Try.prog 3 (setBlock W M o) M (lastS (L.take (k + 1))) n' := by
  have hM := h.lt
  have hMW : M < W.heap.size := by
    obtain ⟨es, clock, hb, _⟩ := h
    exact lt_of_block (hW.trans hb)
  by_cases hx : ∃ v, lastS (L.take k) (.int .i64 (L[k]).id) v
  · obtain ⟨v0, hv0⟩ := hx
    obtain ⟨o, h1, h2⟩ := h.put_old int_keyed Try.underlying55 (v := .int .i64 (k : Int)) hv0
    exact ⟨o, h1 W hW, n, by omega, (h2 _ (setBlock_at o hMW)).congr (lastS_next hk)⟩
  · obtain ⟨o, h1, h2⟩ := h.put_new int_keyed Try.underlying55 (v := .int .i64 (k : Int)) (key_int hw) (fun v hv => hx ⟨v, hv⟩) (by omega)
    exact ⟨o, h1 W hW, n + 1, by omega, (h2 _ (setBlock_at o hMW)).congr (lastS_next hk)⟩
set_option maxHeartbeats 1000000 in
set_option maxRecDepth 100000 in
theorem lasts_any (L : List Pt) (v : Value) (w : World) (h : PtsAt w v L) (hl : L.length ≤ Room) (hw : ∀ p ∈ L, (Lit.int .i64 p.id).wf = true) :
    Calls Try.prog 24 #[v] w fun e w' => ∃ M n, e = .returned (.map (some M)) ∧ n ≤ L.length ∧ Mp Try.prog 3 w' M (lastS L) n ∧ w.heap.size ≤ M ∧ Below w.heap.size w w' := by
  have hmm := @run_makeMap Try.prog
  have HS := Lib.hid (room_len hl)
  have H0 : Hid (lastWld w w.heap.size L 0 (w.alloc (.map #[] 0))) := Lib.hid ⟨⟨0, Nat.le_refl _, (Mp.made w 3).congr fun y u => by simp [lastS]⟩, Rk.fresh_alloc w _⟩
  have HW := Lib.hid hw
  have HP := Lib.hid h
  obtain ⟨p, c, rfl⟩ := h.form
  clear hl hw h
  go_enter Try.func24, Try.ntmps24
  go_wp2
  go_loopw [9] (fun i wr => ∃ k : Nat, k ≤ L.length ∧ i = .int .i64 k ∧ lastWld w w.heap.size L k wr) (fun i _ => L.length - (RowKit.intOf i).toNat)
  case atStart => exact ⟨0, Nat.zero_le _, rfl, H0.out⟩
  case round =>
    obtain ⟨k, hk, rfl, hr⟩ := hrel
    by_cases hlt : k < L.length
    · obtain ⟨⟨n, hn, hm⟩, hb⟩ := hr
      obtain ⟨g, off, c', ev, hg, hc⟩ := pts_at (HP.out.below hb) (fun p c e => by injection e with _ e; omega)
      injection ev with ev1 ev2 ev3
      subst ev1
      obtain ⟨r, ⟨hid, _, _⟩, hcell⟩ := hc k hlt
      obtain ⟨c0, c1, c2⟩ := hcell wr rfl
      have hsz := hm.lt
      obtain ⟨o, hu, n', hn', hm'⟩ := last_put hlt hm hn (by have := HS.out; omega) (HW.out _ (List.getElem_mem hlt)) (W := wr.alloc (pobj r)) (Rk.heap_old _ _ hsz)
      have HN : Hid (lastWld w w.heap.size L (k + 1) (setBlock (wr.alloc (pobj r)) w.heap.size o)) := Lib.hid ⟨⟨n', hn', hm'⟩, by
        have b1 := hb.alloc hb.size (pobj r)
        exact ⟨b1.os, b1.tape, b1.output, by rw [setBlock_size]; exact b1.size, fun i hi => by rw [setBlock_ne o (by omega)]; exact b1.block i hi⟩⟩
      obtain ⟨d0, d1, d2⟩ := cells3_of (Pq.heap_last wr (pobj r))
      rw [← hid] at hu
      obtain ⟨rid, ⟨vp, vn, vc⟩, ⟨fp, fn, fc⟩⟩ := r
      simp only at c0 c1 c2 d0 d1 d2 hu HN
      clear hm hm' hn hn' hcell hc hb hid hg ev2 ev3 hsz
      go_wp2_with fail
      go_roundw
      case rel => exact ⟨k + 1, by omega, congrArg _ (wrap_s HS.out hlt), HN.out⟩
      case measure =>
        rw [wrap_s HS.out hlt]
        exact int_lessV hlt
    · obtain rfl : k = L.length := by omega
      have HR := Lib.hid hr
      clear hr
      go_wp2_with fail
      go_ret
      obtain ⟨⟨n, hn, hm⟩, hb⟩ := HR.out
      rw [List.take_length] at hm
      exact ⟨_, n, rfl, hn, hm, Nat.le_refl _, hb⟩
end Wd
end Go.Proofs.Ytkmfkgjkgnlfnaa
