/- The walk of the law's own copy of a row of points: each lies in blocks of its own. Conditions: those that each theorem names. -/
import Derived.Test.YtkmfkgjkgnlfnaaWdOd
namespace Go.Proofs.Ytkmfkgjkgnlfnaa
set_option linter.unusedVariables false
namespace Wd
open Go Go.RowKit Go.Shelf Go.Sort Go.Maps Pq Pq.Pl Rk Ids
/-- What lies in the blocks from lo to hi tells the point; its fields are a row from a block's start. -/
def Held (W0 : World) (lo hi : Nat) (z : Zp) : Prop := ∀ W : World, hi ≤ W.heap.size → (∀ g, lo ≤ g → g < hi → W.heap[g]? = W0.heap[g]?) → PtW W z.1 z.2 ∧ FldsOwn W (slv z.1.f) z.2.flds
theorem Held.next {W0 W1 : World} {lo hi : Nat} {z : Zp} (h : Held W0 lo hi z) (hk : ∀ g, lo ≤ g → g < hi → W1.heap[g]? = W0.heap[g]?) : Held W1 lo hi z :=
  fun W hs hW => h W hs fun g h1 h2 => (hW g h1 h2).trans (hk g h1 h2)
/-- An element of the copy, beside the row o. -/
def Elem (base : Nat) (wr : World) (o : Value) (z : Zp) : Prop := ∃ lo hi, base ≤ lo ∧ hi ≤ wr.heap.size ∧ Held wr lo hi z ∧ (∀ g, o.ownBlock = some g → g < lo ∨ hi ≤ g) ∧ (z.2.flds ≠ [] → ∀ g, (slv z.1.f).ownBlock = some g → lo ≤ g ∧ g < hi)
def TwW (w : World) (Z : List Zp) (k : Nat) (o : Value) (wr : World) : Prop :=
  ∃ M : List Zp, ptsZ M = ptsZ (Z.take k) ∧ OwnP wr w.heap.size o M ∧ Below w.heap.size w wr ∧ ∀ z ∈ M, Elem w.heap.size wr o z
theorem tw_next {w wr w2 : World} {Z : List Zp} {k : Nat} {o : Value} (hk : k < Z.length) (h : TwW w Z k o wr) (hb : Below wr.heap.size wr w2) (z : Zp) (hz : z.2 = (Z[k]).2) {m : Nat}
    (hid : z.1.id = z.2.id) (hv : VecsOwn w2 m (slv z.1.v) z.2.vecs) (hf : FldsOwn w2 (slv z.1.f) z.2.flds) (hm : wr.heap.size ≤ m) (hfb : ∀ g, (slv z.1.f).ownBlock = some g → z.2.flds ≠ [] → wr.heap.size ≤ g ∧ g < m) (hl : (k + 1) * 56 ≤ 140737488355328) :
    ∃ v' w', (∀ ty, (Builtin.append_ #[22, 22] ty #[o, .slice (some ⟨w2.heap.size, 0, none⟩) 1 1]).run Try.prog (w2.alloc (pobj z.1)) = .ok v' w') ∧ TwW w Z (k + 1) v' w' := by
  obtain ⟨M, h1, h2, h3, h4⟩ := h
  have hlen : M.length = k := by
    have := congrArg List.length h1
    simp [ptsZ] at this
    omega
  have hA := Rk.fresh_alloc w2 (pobj z.1)
  have hsz : (w2.alloc (pobj z.1)).heap.size = w2.heap.size + 1 := by simp
  have ho2 : OwnP (w2.alloc (pobj z.1)) w.heap.size o M := Rk.own_below (Rk.own_below h2 hb) hA
  have b2 : Below w.heap.size w (w2.alloc (pobj z.1)) := (h3.trans (hb.mono h3.size)).trans (hA.mono (Nat.le_trans h3.size hb.size))
  obtain ⟨v', w', a1, a2, a3, a4, _⟩ := append_el flatP ho2 (x := z.1) (m := (0, 0)) (Rk.heap_last w2 (pobj z.1)) (by rw [rowsZ_len, hlen]; exact hl) (by rw [rowsZ_len, hlen]; unfold maxLen; omega) (by rw [hsz]; have := h3.size; have := hb.size; omega)
  have hgs : w2.heap.size + 1 ≤ w'.heap.size := by have := a3.size; omega
  have keep : ∀ g, g < w2.heap.size → o.ownBlock ≠ some g → w'.heap[g]? = w2.heap[g]? := fun g hg hne => (a3.block g (by omega) (fun e => hne e.symm)).trans (Rk.heap_old w2 _ hg)
  have hob : ∀ g, v'.ownBlock = some g → o.ownBlock = some g ∨ g = w2.heap.size + 1 := fun g hg => by
    rcases a4 with e | e
    · exact .inl (e ▸ hg)
    · rw [e] at hg
      injection hg with hg
      exact .inr (by omega)
  refine ⟨v', w', a1, M ++ [z], ?_, ?_, b2.grown a3 b2.size (fun j hj => (Rk.own_block ho2 j hj).1), fun y hy => ?_⟩
  · rw [List.take_add_one, List.getElem?_eq_getElem hk]
    simp only [ptsZ, List.map_append] at h1 ⊢
    rw [h1]
    simp [hz]
  · show Rk.Own _ _ _ _ _ _ (rowsZ (M ++ [z]))
    have e : rowsZ (M ++ [z]) = rowsZ M ++ [z.1] := by simp [rowsZ]
    rw [e]
    exact a2
  · rcases List.mem_append.1 hy with hy | hy
    · obtain ⟨lo, hi, c1, c2, c3, c4, c5⟩ := h4 y hy
      refine ⟨lo, hi, c1, by have := hb.size; omega, c3.next fun g g1 g2 => ?_, fun g hg => ?_, c5⟩
      · rw [keep g (by have := hb.size; omega) (fun e => by have := c4 g e; omega)]
        exact hb.block g (by omega)
      · rcases hob g hg with e | e
        · exact c4 g e
        · have := hb.size
          omega
    · obtain rfl : y = z := by simpa using hy
      have hne : ∀ g, wr.heap.size ≤ g → o.ownBlock ≠ some g := fun g hg e => by have := (Rk.own_block h2 g e).2; omega
      refine ⟨wr.heap.size, w2.heap.size, h3.size, by omega, fun W hs hW => ?_, fun g hg => ?_, fun hne' g hg => ⟨(hfb g hg hne').1, ?_⟩⟩
      · have hW2 : ∀ g, wr.heap.size ≤ g → g < w2.heap.size → W.heap[g]? = w2.heap[g]? := fun g g1 g2 => (hW g g1 g2).trans (keep g g2 (hne g g1))
        have hf' : FldsOwn W (slv y.1.f) y.2.flds := hf.moved hs fun hn g hg => hW2 g (hfb g hg hn).1 (by
          rcases hf with ⟨e, _⟩ | ⟨g', c, cs, t, e, hlt, _⟩
          · exact absurd e hn
          · rw [e] at hg
            simp [Value.ownBlock] at hg
            omega)
        exact ⟨⟨hid, (hv.kept hs fun g g1 g2 => hW2 g (by omega) g2).at, hf'.at⟩, hf'⟩
      · rcases hob g hg with e | e
        · exact .inl (Rk.own_block h2 g e).2
        · exact .inr (by omega)
      · rcases hf with ⟨e, _⟩ | ⟨g', c, cs, t, e, hlt, _⟩
        · exact absurd e hne'
        · rw [e] at hg
          simp [Value.ownBlock] at hg
          omega
set_option maxHeartbeats 4000000 in
set_option maxRecDepth 100000 in
theorem twin_any (v0 : Value) (Z : List Zp) (w : World) (hrow : RowAt encP 3 w v0 (rowsZ Z)) (hgood : GoodZ w Z) (s0 : OkA (ptsZ Z)) :
    Calls Try.prog 7 #[v0] w fun e w' => ∃ u, e = .returned u ∧ TwW w Z Z.length u w' := by
  have HS0 := Lib.hid s0
  have HLZ : Hid (Z.length ≤ maxLen) := Lib.hid (by have := s0.len; simp [ptsZ] at this; unfold maxLen; omega)
  have HROW := Lib.hid hrow
  have HGOOD := Lib.hid hgood
  obtain ⟨p0, c0, rfl⟩ : ∃ p c, v0 = .slice p Z.length c := by have := hrow.form; rwa [rowsZ_len] at this
  clear s0 hrow hgood
  go_enter Try.func7, Try.ntmps7
  go_wp2_with fail
  go_loopw [3, 4] (fun o i wr => ∃ k : Nat, k ≤ Z.length ∧ i = .int .i64 k ∧ TwW w Z k o wr) (fun _ i _ => Z.length - (RowKit.intOf i).toNat)
  case atStart => exact ⟨0, Nat.zero_le _, rfl, [], rfl, Rk.own_none _ _, Below.refl _ _, fun z hz => by cases hz⟩
  case round =>
    obtain ⟨k, hk, rfl, ht⟩ := hrel
    have HT := Lib.hid ht
    obtain ⟨wo, rfl⟩ : ∃ wo : World, wo = wr := ⟨_, rfl⟩
    have HB : Hid (Below w.heap.size w wo) := Lib.hid (by obtain ⟨_, _, _, h, _⟩ := ht; exact h)
    by_cases hlt : k < Z.length
    · obtain ⟨g, off, cz, ev, hg, hv⟩ := rowP_at HROW.out (by omega)
      injection ev with ev1 ev2 ev3
      subst ev1
      obtain ⟨e0, e1, e2⟩ := hv wo (HB.out.block g hg) k hlt
      have hm : (Z[k]).2 ∈ ptsZ Z := List.mem_map.2 ⟨_, List.getElem_mem hlt, rfl⟩
      have hgz := HGOOD.out _ (List.getElem_mem hlt)
      have HNX := Lib.hid (fun (w2 : World) (m : Nat) (hb : Below wo.heap.size wo w2) (z : Zp) (hz : z.2 = (Z[k]).2) => tw_next (m := m) hlt HT.out hb z hz)
      have HCP := Lib.hid (pcopy_own (Z[k]).2 _ _ wo (hgz.below HB.out).2.1 (hgz.below HB.out).2.2 (HS0.out.vlen _ hm) (HS0.out.ints _ hm) (HS0.out.flen _ hm))
      rw [hgz.1] at e0
      have hklt : (k : Int) < (Z.length : Int) := by omega
      have HK56 : Hid ((k + 1) * 56 ≤ 140737488355328) := Lib.hid (by have := HS0.out.len; simp [ptsZ] at this; omega)
      generalize Z[k] = zz at *
      obtain ⟨⟨zid, ⟨vp, vn, vc⟩, ⟨fp, fn, fc⟩⟩, pt⟩ := zz
      simp only at e0 e1 e2 HCP HNX
      clear hm hgz hv ev2 ev3 hg ht
      go_wp2_with fail
      refine HCP.out.mono ?_
      rintro e w2 ⟨u', x', m, rfl, hvo, hfo, hm1, hfb, hb2⟩
      obtain ⟨vp', vc', rfl⟩ := hvo.at.form
      obtain ⟨fp', fc', rfl⟩ := hfo.form
      obtain ⟨v', W', hap, hnx⟩ := HNX.out w2 m hb2 (⟨pt.id, ⟨vp', pt.vecs.length, vc'⟩, ⟨fp', pt.flds.length, fc'⟩⟩, pt) rfl rfl hvo hfo hm1 hfb HK56.out
      have HX := Lib.hid hnx
      simp only at hap
      clear hvo hfo hm1 hfb hb2 hnx e0 e1 e2
      go_wp2_with (at_builtin; refine wpList_append_run (by rfl) _ _ _ _ (by rfl) _ _ v' W' (by rfl) (by rfl) hap ?_)
      go_roundw
      case rel => exact ⟨k + 1, by omega, congrArg _ (wrap_s HLZ.out hlt), HX.out⟩
      case measure =>
        rw [wrap_s HLZ.out hlt]
        exact int_lessV hlt
    · obtain rfl : k = Z.length := by omega
      clear ht
      go_wp2_with fail
      go_ret
      exact ⟨_, rfl, HT.out⟩
end Wd
end Go.Proofs.Ytkmfkgjkgnlfnaa
