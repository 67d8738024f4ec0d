/- scalar's Search of what it may be asked. Conditions: those that each theorem names. -/
import Derived.Test.YtfgmkdghpdpdkaaScP
namespace Go.Proofs.Ytfgmkdghpdpdkaa
set_option linter.unusedVariables false
open Go Go.RowKit Go.Shelf Go.Sort Vc Rk
namespace Sc
/-- What Search answers. -/
def SeP (m : Int) (S : List Sp) (L : List Int) (E : List It) (n : Nat) (B : Nat) (e : Ending) (w' : World) : Prop :=
  ∃ (r : Value) (L' : List Ca), e = .returned (.tuple #[r, .int .i64 0]) ∧ Tq.OwnH w' B r (Tk.sortH m ((L'.take n).map fun c => trueH m L c.2)) ∧
      L'.Perm (E.map (caOf m S L)) ∧ L'.Pairwise (fun a b => ltOf (cfC m) b a = false)
set_option maxHeartbeats 8000000 in
set_option maxRecDepth 100000 in
theorem search_any (m : Int) (lo hi L : List Int) (E : List It) (u v x t : Value) (b : Int) (w : World) (hu : IntsAt w u lo) (hv : IntsAt w v hi) (hx : IntsAt w x L) (ht : RowAt encT 2 w t E) (hE : ∀ e ∈ E, ItW w e)
    (hl : lo.length ≤ maxLen) (hh : hi.length ≤ maxLen) (hm : mayB lo hi = true) (hc : chk L lo.length m = 0) (hce : ∀ e ∈ E, chk e.V lo.length m = 0) (h0 : 0 < E.length) (hn : E.length * 48 ≤ 140737488355328) (hst : StOk m (E.map (caOf m (spansL lo hi) L))) :
    Calls Try.prog 20 #[.int .i64 m, .agg #[u, v], x, t, .int .i64 b] w fun e w' => SeP m (spansL lo hi) L E (cutN b E.length) w.heap.size e w' ∧ Below w.heap.size w w' := by
  obtain ⟨W0, hW0⟩ : ∃ W0, W0 = w.alloc (.cells #[u, v] 25) := ⟨_, rfl⟩
  have hb0 : Below w.heap.size w W0 := by rw [hW0]; exact fresh_alloc _ _
  have hz : W0.heap[w.heap.size]? = some (.cells #[u, v] 25) := by rw [hW0]; exact heap_last _ _
  have d0 : W0.cell? ⟨w.heap.size, 0, none⟩ = some u := by rw [Lib.cell_of_heap hz]; rfl
  have d1 : W0.cell? ⟨w.heap.size, 1, none⟩ = some v := by rw [Lib.cell_of_heap hz]; rfl
  have C1 := spansOf_any lo hi u v W0 (hu.below hb0) (hv.below hb0) hl hh
  rw [hm] at C1
  have C1 := Lib.hid C1
  obtain ⟨_, hvl⟩ := may_of hm
  obtain ⟨hmv, hlen, _⟩ : vecB lo = true ∧ lo.length = hi.length ∧ True := ⟨(may_of hm).1, (may_of hm).2.2.1, trivial⟩
  obtain ⟨n1, n64, n3⟩ := parts_of hmv
  clear n3
  obtain ⟨S, hS⟩ : ∃ S, S = spansL lo hi := ⟨_, rfl⟩
  have hSL : S.length = lo.length := by rw [hS]; exact spans_len hlen
  have hSo : ∀ s ∈ S, OkS s := by rw [hS]; exact ok_of hm
  rw [← hS] at C1 hst ⊢
  obtain ⟨hLn, hLv, _⟩ := chk_zero hc
  have HB0 := Lib.hid hb0
  have HS0 : Hid (w.heap.size ≤ W0.heap.size) := Lib.hid hb0.size
  have CK : Hid (∀ W, Below w.heap.size w W → Calls Try.prog 37 #[x, .int .i64 (lo.length : Int), .int .i64 m] W fun e w' => e = .returned (.int .i64 0) ∧ W = w') := Lib.hid (fun W hW => by
    have h := check_any L x lo.length m W (hx.below hW) (vec_len hLv)
    rw [hc] at h
    exact h.mono fun e w' h => ⟨h.1, h.2.symm⟩)
  obtain ⟨pt, ct, htf, hct⟩ := items_row ht
  have HAT : Hid (∀ k, k < E.length → ∃ e : It, (∀ W, Below w.heap.size w W → Calls Try.prog 37 #[.slice e.p e.n e.c, .int .i64 (lo.length : Int), .int .i64 m] W fun e w' => e = .returned (.int .i64 0) ∧ W = w') ∧
      ∃ b off, pt = some ⟨b, off, none⟩ ∧ ∀ wr, Below w.heap.size w wr → wr.cell? ⟨b, off + k * 2, none⟩ = some (.int .i64 e.id) ∧ wr.cell? ⟨b, off + k * 2 + 1, none⟩ = some (.slice e.p e.n e.c)) := Lib.hid (fun k hk => by
    have he : E[k]? = some E[k] := List.getElem?_eq_getElem hk
    have hmem := List.getElem_mem hk
    obtain ⟨b, off, h1, _, h2⟩ := hct k _ he
    refine ⟨E[k], fun W hW => ?_, b, off, h1, h2⟩
    have h := check_any (E[k]).V (.slice (E[k]).p (E[k]).n (E[k]).c) lo.length m W ((hE _ hmem).below hW) (vec_len (chk_zero (hce _ hmem)).2.1)
    rw [hce _ hmem] at h
    exact h.mono fun e w' h => ⟨h.1, h.2.symm⟩)
  have HEV : ∀ e ∈ E, vecB e.V = true ∧ e.V.length = S.length := fun e he => by
    obtain ⟨h1, h2, _⟩ := chk_zero (hce e he)
    exact ⟨h2, by omega⟩
  have RO : Hid (∀ (r : Value) W, Below w.heap.size w W → RowAt encS 2 W r S → Calls Try.prog 40 #[.int .i64 m, r, x, t] W fun e w' => ∃ r, e = .returned r ∧ OwnC w' W.heap.size r (E.map (caOf m S L)) ∧ Below W.heap.size W w') := Lib.hid (fun r W hW hr =>
    rough_any m S L E r x t W hr (hx.below hW) (ht.below hW) (fun e he => (hE e he).below hW) (by omega) (by omega) hSo (vec_len hLv) HEV (by omega))
  have FI : Hid (∀ (r : Value) base W, base ≤ W.heap.size → OwnC W base r (E.map (caOf m S L)) → Calls Try.prog 39 #[.int .i64 m, r, .int .i64 b] W fun e w' => ∃ (r : Value) (L' : List Ca), e = .returned r ∧ RowAt encC 4 w' r (L'.take (cutN b E.length)) ∧ L'.Perm (E.map (caOf m S L)) ∧ L'.Pairwise (fun a b => ltOf (cfC m) b a = false) ∧ Below base W w') := Lib.hid (fun r base W hb ho => by
    have h := first_any m (E.map (caOf m S L)) hst (by simpa using h0) r base W ho hb b (by simp; unfold maxLen; omega)
    rw [List.length_map] at h
    exact h)
  have RE : Hid (∀ (r : Value) (L' : List Ca) W, Below w.heap.size w W → RowAt encC 4 W r (L'.take (cutN b E.length)) → L'.Perm (E.map (caOf m S L)) → Calls Try.prog 38 #[.int .i64 m, x, r] W fun e w' => ∃ r, e = .returned r ∧ Tq.OwnH w' W.heap.size r (Tk.sortH m ((L'.take (cutN b E.length)).map fun c => trueH m L c.2)) ∧ Below W.heap.size W w') := Lib.hid (fun r L' W hW hr hp => by
    refine rescore_any m L (L'.take (cutN b E.length)) r x W (hx.below hW) hr (fun c hc => ?_) (vec_len hLv) ?_
    · have hc' := hp.mem_iff.1 (List.mem_of_mem_take hc)
      obtain ⟨e, he, rfl⟩ := List.mem_map.1 hc'
      exact ⟨(hE e he).below hW, vec_len (chk_zero (hce e he)).2.1⟩
    · have := hp.length_eq
      simp at this ⊢
      omega)
  have HNN : Hid (E.length ≤ 2932031007402) := Lib.hid (by omega)
  obtain ⟨p1, c1, e1⟩ := hu.form
  obtain ⟨p2, c2, e2⟩ := hv.form
  obtain ⟨p3, c3, e3⟩ := hx.form
  subst e1; subst e2; subst e3; subst htf
  have hnb := HNN.out
  have HSL := Lib.hid hSL
  clear hz hu hv hx ht hE hl hh hm hc hce h0 hn hst hvl hmv hlen n1 n64 hS hSL hSo hLn hLv hb0 hct HEV
  generalize E.length = n at *
  go_enter Try.func20, Try.ntmps20
  go_upto_region 1 with fail
  rw [← hW0]
  clear hW0
  go_wp2_with fail
  refine C1.out.mono ?_
  rintro e w1 ⟨⟨r, rfl, h1, _⟩, hb1⟩
  have hr := own_row flatS (h1 (by first | exact trivial | rfl))
  obtain ⟨pr, cr, hrf⟩ := hr.form
  rw [HSL.out] at hrf
  subst hrf
  have HR := Lib.hid hr
  have HW1 := Lib.hid (HB0.out.trans (hb1.mono HS0.out))
  have C2 := Lib.hid (CK.out w1 HW1.out)
  clear h1 hb1 hr d0 d1 C1
  go_wp2_with fail
  refine C2.out.mono ?_
  rintro _ _ ⟨rfl, rfl⟩
  clear C2
  go_wp2_with fail
  go_loopw [33] (fun i wr => ∃ k : Nat, k ≤ n ∧ i = .int .i64 k ∧ Below w1.heap.size w1 wr) (fun i _ => n - (intOf i).toNat)
  case atStart => exact ⟨0, Nat.zero_le _, rfl, Below.refl _ _⟩
  case round =>
    obtain ⟨k, hk, rfl, hbw⟩ := hrel
    obtain ⟨wo, rfl⟩ : ∃ wo : World, wo = wr := ⟨_, rfl⟩
    have HBW := Lib.hid hbw
    have HWW := Lib.hid (HW1.out.trans (hbw.mono HW1.out.size))
    by_cases hlt : k < n
    · obtain ⟨e, hck, bb, off, rfl, hcells⟩ := HAT.out k hlt
      obtain ⟨y0, y1⟩ := hcells wo HWW.out
      have HLT := Lib.hid hlt
      obtain ⟨id, p, n', c', V⟩ := e
      simp only at y0 y1 hck
      have hz := heap_last wo (.cells #[.int .i64 id, .slice p n' c'] 49)
      have z1 : (wo.alloc (.cells #[.int .i64 id, .slice p n' c'] 49)).cell? ⟨wo.heap.size, 1, none⟩ = some (.slice p n' c') := by rw [Lib.cell_of_heap hz]; rfl
      have C3 := Lib.hid (hck _ (HWW.out.alloc HWW.out.size (.cells #[.int .i64 id, .slice p n' c'] 49)))
      have HBA := Lib.hid (HBW.out.alloc HBW.out.size (.cells #[.int .i64 id, .slice p n' c'] 49))
      clear hcells hck hbw hz
      go_wp2_with fail
      refine C3.out.mono ?_
      rintro _ _ ⟨rfl, rfl⟩
      go_wp2_with fail
      go_roundw
      case rel => exact ⟨k + 1, HLT.out, by first | rfl | go_num, HBA.out⟩
      case measure => have := HLT.out; simp only [intOf]; omega
    · obtain rfl : k = n := by omega
      have C4 := Lib.hid (RO.out _ wo HWW.out (HR.out.below hbw))
      clear hbw
      go_wp2_with fail
      refine C4.out.mono ?_
      rintro e w4 ⟨q, rfl, ho4, hb4⟩
      have C5 := Lib.hid (FI.out q wo.heap.size w4 hb4.size ho4)
      obtain ⟨pq, nq', cq, hqf⟩ : ∃ p n c, q = .slice p n c := by
        rcases ho4.2 with ⟨e, _⟩ | ⟨_, _, _, e, _⟩
        · exact ⟨_, _, _, e⟩
        · exact ⟨_, _, _, e⟩
      subst hqf
      have HW4 := Lib.hid (HWW.out.trans (hb4.mono HWW.out.size))
      have HS4 := Lib.hid HWW.out.size
      clear ho4 hb4
      go_wp2_with fail
      refine C5.out.mono ?_
      rintro e w5 ⟨q5, L', rfl, hr5, hp5, hpw5, hb5⟩
      have hw5 := HW4.out.trans (hb5.mono HS4.out)
      have C6 := Lib.hid (RE.out q5 L' w5 hw5 hr5 hp5)
      have HPP := Lib.hid (And.intro hp5 hpw5)
      have HW5 := Lib.hid hw5
      obtain ⟨pz, nz, cz, hzf⟩ : ∃ p n c, q5 = .slice p n c := by
        obtain ⟨p, c, e⟩ := hr5.form
        exact ⟨p, _, c, e⟩
      subst hzf
      clear hr5 hp5 hpw5 hb5 hw5 C4 C5
      go_wp2_with fail
      refine C6.out.mono ?_
      rintro e w6 ⟨r6, rfl, ho6, hb6⟩
      have HF := Lib.hid (HW5.out.trans (hb6.mono HW5.out.size))
      have HO := Lib.hid (Go.Joins.ownsRow_le ho6 HW5.out.size)
      clear ho6 hb6
      go_wp2_with fail
      go_ret2
      exact ⟨⟨_, L', rfl, HO.out, HPP.out.1, HPP.out.2⟩, HF.out⟩
end Sc
end Go.Proofs.Ytfgmkdghpdpdkaa
