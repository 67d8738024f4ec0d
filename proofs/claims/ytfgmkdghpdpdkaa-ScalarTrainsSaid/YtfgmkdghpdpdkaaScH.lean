/- scalar's Encode and Decode. Conditions: those that each theorem names. -/
import Derived.Test.YtfgmkdghpdpdkaaScG
namespace Go.Proofs.Ytfgmkdghpdpdkaa
set_option linter.unusedVariables false
open Go Go.RowKit Vc Rk
namespace Sc
def encQ (lo hi L : List Int) : List UInt8 × Int := if mayB lo hi = true then if okR lo.length L = true then (encL (spansL lo hi) L, 0) else ([], 60) else ([], 170)
def decQ (lo hi : List Int) (C : List UInt8) : List Int × Int := if mayB lo hi = true then if C.length = lo.length then (decL (spansL lo hi) C, 0) else ([], 60) else ([], 170)
theorem vec_in {L : List Int} (h : vecB L = true) : ∀ x ∈ L, -32768 ≤ x ∧ x ≤ 32767 := fun x hx => by
  obtain ⟨k, hk, rfl⟩ := List.getElem_of_mem hx
  exact (parts_of h).2.2 k hk
set_option maxHeartbeats 4000000 in
set_option maxRecDepth 100000 in
theorem Encode_any (lo hi L : List Int) (u v x : Value) (w : World) (hu : IntsAt w u lo) (hv : IntsAt w v hi) (hx : IntsAt w x L) (hl : lo.length ≤ maxLen) (hh : hi.length ≤ maxLen) (hL : L.length ≤ maxLen) :
    Calls Try.prog 11 #[.agg #[u, v], x] w fun e w' => e = .returned (.tuple #[.string (tx (encQ lo hi L).1), .int .i64 (encQ lo hi L).2]) ∧ Below w.heap.size w w' := by
  obtain ⟨W0, hW0⟩ : ∃ W0, W0 = w.alloc (.cells #[u, v] 25) := ⟨_, rfl⟩
  have hb0 : Below w.heap.size w W0 := by rw [hW0]; exact fresh_alloc _ _
  have hz : W0.heap[w.heap.size]? = some (.cells #[u, v] 25) := by rw [hW0]; exact heap_last _ _
  have d0 : W0.cell? ⟨w.heap.size, 0, none⟩ = some u := by rw [Lib.cell_of_heap hz]; rfl
  have d1 : W0.cell? ⟨w.heap.size, 1, none⟩ = some v := by rw [Lib.cell_of_heap hz]; rfl
  have C1 := Lib.hid (spansOf_any lo hi u v W0 (hu.below hb0) (hv.below hb0) hl hh)
  have HB0 := Lib.hid hb0
  have HX0 := Lib.hid (hx.below hb0)
  have HLL := Lib.hid hL
  obtain ⟨p1, c1, e1⟩ := hu.form
  obtain ⟨p2, c2, e2⟩ := hv.form
  obtain ⟨p3, c3, e3⟩ := hx.form
  subst e1; subst e2; subst e3
  have hmay : ∀ h : mayB lo hi = true, lo.length = hi.length ∧ vecB lo = true := fun h => ⟨(may_of h).2.2.1, (may_of h).1⟩
  clear hz hu hv hx hl hh hb0 hL
  cases hm : mayB lo hi with
  | false =>
    have he : encQ lo hi L = ([], 170) := by unfold encQ; rw [hm]; rfl
    rw [he]
    rw [hm] at C1
    clear hmay he
    go_enter Try.func11, Try.ntmps11
    go_upto_region 1 with fail
    rw [← hW0]
    clear hW0
    go_wp2_with fail
    refine C1.out.mono ?_
    rintro e w1 ⟨⟨r, rfl, _, h2⟩, hb1⟩
    have hr := h2 (by first | exact trivial | rfl)
    subst hr
    have HF := Lib.hid (HB0.out.trans (hb1.mono HB0.out.size))
    clear h2 hb1
    go_wp2_with fail
    go_ret2
    exact ⟨rfl, HF.out⟩
  | true =>
    obtain ⟨hlen, hvl⟩ := hmay hm
    rw [hm] at C1
    have HSL := Lib.hid (spans_len hlen)
    obtain ⟨n1, n64, _⟩ := parts_of hvl
    have HN : Hid (1 ≤ lo.length ∧ lo.length ≤ 64) := Lib.hid ⟨n1, n64⟩
    have HOK := Lib.hid (ok_of hm)
    cases ho : okR lo.length L with
    | false =>
      have he : encQ lo hi L = ([], 60) := by unfold encQ; rw [hm, ho]; rfl
      rw [he]
      have HO := Lib.hid ho
      clear hmay he hm ho hlen hvl n1 n64
      go_enter Try.func11, Try.ntmps11
      go_upto_region 1 with fail
      rw [← hW0]
      clear hW0
      go_wp2_with fail
      refine C1.out.mono ?_
      rintro e w1 ⟨⟨r, rfl, h1, _⟩, hb1⟩
      obtain ⟨p, c, hrf⟩ := (own_row flatS (h1 (by first | exact trivial | rfl))).form
      subst hrf
      have C2 := isv_any L _ ((spansL lo hi).length : Int) w1 (HX0.out.below hb1) HLL.out
      have e2 : (decide ((L.length : Int) = ((spansL lo hi).length : Int)) && vecB L) = false := by rw [HSL.out]; exact HO.out
      rw [e2] at C2
      have C2 := Lib.hid (C2.mono fun e w' h => (⟨h.1, h.2.symm⟩ : e = .returned (.bool false) ∧ w1 = w'))
      have HF := Lib.hid (HB0.out.trans (hb1.mono HB0.out.size))
      clear h1 hb1 e2
      generalize (spansL lo hi).length = ns at *
      go_wp2_with (refine C2.out.mono ?_; rintro _ _ ⟨rfl, rfl⟩)
      go_ret2
      exact ⟨rfl, HF.out⟩
    | true =>
      have he : encQ lo hi L = (encL (spansL lo hi) L, 0) := by unfold encQ; rw [hm, ho]; rfl
      rw [he]
      obtain ⟨E, hE⟩ : ∃ E, E = encL (spansL lo hi) L := ⟨_, rfl⟩
      rw [← hE]
      have HE := Lib.hid hE
      have HO := Lib.hid ho
      clear hE
      clear hmay he hm ho hlen hvl n1 n64
      go_enter Try.func11, Try.ntmps11
      go_upto_region 1 with fail
      rw [← hW0]
      clear hW0
      go_wp2_with fail
      refine C1.out.mono ?_
      rintro e w1 ⟨⟨r, rfl, h1, _⟩, hb1⟩
      have hr := own_row flatS (h1 (by first | exact trivial | rfl))
      obtain ⟨p, c, hrf⟩ := hr.form
      subst hrf
      have C2 := isv_any L _ ((spansL lo hi).length : Int) w1 (HX0.out.below hb1) HLL.out
      have e2 : (decide ((L.length : Int) = ((spansL lo hi).length : Int)) && vecB L) = true := by rw [HSL.out]; exact HO.out
      have hol : L.length = (spansL lo hi).length ∧ vecB L = true := by
        simp only [Bool.and_eq_true, decide_eq_true_eq] at e2
        exact ⟨by omega, e2.2⟩
      rw [e2] at C2
      have C2 := Lib.hid (C2.mono fun e w' h => (⟨h.1, h.2.symm⟩ : e = .returned (.bool true) ∧ w1 = w'))
      have C3 := Lib.hid (encode_any (spansL lo hi) L _ _ w1 hr (HX0.out.below hb1) hol.1.symm (by rw [HSL.out]; exact HN.out.1) (by rw [HSL.out]; exact HN.out.2) HOK.out (vec_in hol.2))
      have HF := Lib.hid (HB0.out.trans (hb1.mono HB0.out.size))
      have HS1 : Hid (w.heap.size ≤ w1.heap.size) := Lib.hid HF.out.size
      clear h1 hb1 e2 hr hol
      rw [← HE.out] at C3
      clear HE
      generalize (spansL lo hi).length = ns at *
      have hC2 := C2
      go_upto_region 6 with (refine hC2.out.mono ?_; rintro _ _ ⟨rfl, rfl⟩)
      clear hC2 C2
      go_wp2_with fail
      refine C3.out.mono ?_
      rintro e w2 ⟨rfl, hb2⟩
      have HF2 := Lib.hid (HF.out.trans (hb2.mono HS1.out))
      clear hb2
      go_wp2_with fail
      go_ret2
      exact ⟨rfl, HF2.out⟩
set_option maxHeartbeats 4000000 in
set_option maxRecDepth 100000 in
theorem Decode_any (lo hi : List Int) (C : List UInt8) (u v : Value) (w : World) (hu : IntsAt w u lo) (hv : IntsAt w v hi) (hl : lo.length ≤ maxLen) (hh : hi.length ≤ maxLen) (hC : C.length ≤ maxLen) :
    Calls Try.prog 13 #[.agg #[u, v], .string (tx C)] w fun e w' => ∃ r, e = .returned (.tuple #[r, .int .i64 (decQ lo hi C).2]) ∧ OwnN w' w.heap.size r (decQ lo hi C).1 ∧ Below w.heap.size w w' := by
  obtain ⟨W0, hW0⟩ : ∃ W0, W0 = w.alloc (.cells #[u, v] 25) := ⟨_, rfl⟩
  have hb0 : Below w.heap.size w W0 := by rw [hW0]; exact fresh_alloc _ _
  have hz : W0.heap[w.heap.size]? = some (.cells #[u, v] 25) := by rw [hW0]; exact heap_last _ _
  have d0 : W0.cell? ⟨w.heap.size, 0, none⟩ = some u := by rw [Lib.cell_of_heap hz]; rfl
  have d1 : W0.cell? ⟨w.heap.size, 1, none⟩ = some v := by rw [Lib.cell_of_heap hz]; rfl
  have C1 := Lib.hid (spansOf_any lo hi u v W0 (hu.below hb0) (hv.below hb0) hl hh)
  have HB0 := Lib.hid hb0
  have HCL := Lib.hid hC
  obtain ⟨p1, c1, e1⟩ := hu.form
  obtain ⟨p2, c2, e2⟩ := hv.form
  subst e1; subst e2
  have hmay : ∀ h : mayB lo hi = true, lo.length = hi.length ∧ vecB lo = true := fun h => ⟨(may_of h).2.2.1, (may_of h).1⟩
  obtain ⟨D, hD⟩ : ∃ D, D = decQ lo hi C := ⟨_, rfl⟩
  obtain ⟨D1, D2⟩ := D
  rw [← hD]
  obtain ⟨s, hs⟩ : ∃ s, s = tx C := ⟨_, rfl⟩
  have hsz : s.size = C.length := by rw [hs, tx_size]
  rw [← hs]
  have HSS := Lib.hid hs
  have HSZ := Lib.hid hsz
  clear hz hu hv hl hh hb0 hC hs hsz
  cases hm : mayB lo hi with
  | false =>
    have he : ((D1, D2) : List Int × Int) = ([], 170) := by rw [hD]; unfold decQ; rw [hm]; rfl
    injection he with he1 he2
    subst he1; subst he2
    rw [hm] at C1
    clear hmay hD
    go_enter Try.func13, Try.ntmps13
    go_upto_region 1 with fail
    rw [← hW0]
    clear hW0
    go_wp2_with fail
    refine C1.out.mono ?_
    rintro e w1 ⟨⟨r, rfl, _, h2⟩, hb1⟩
    have hr := h2 (by first | exact trivial | rfl)
    subst hr
    have HF := Lib.hid (HB0.out.trans (hb1.mono HB0.out.size))
    clear h2 hb1
    go_wp2_with fail
    go_ret2
    exact ⟨_, rfl, own_none _ _, HF.out⟩
  | true =>
    obtain ⟨hlen, hvl⟩ := hmay hm
    rw [hm] at C1
    have HSL := Lib.hid (spans_len hlen)
    obtain ⟨n1, n64, _⟩ := parts_of hvl
    have HN : Hid (1 ≤ lo.length ∧ lo.length ≤ 64) := Lib.hid ⟨n1, n64⟩
    have HOK := Lib.hid (ok_of hm)
    by_cases ho : C.length = lo.length
    · have he : ((D1, D2) : List Int × Int) = (decL (spansL lo hi) C, 0) := by rw [hD]; unfold decQ; rw [hm, if_pos rfl, if_pos ho]
      injection he with he1 he2
      subst he2
      have HE1 := Lib.hid he1
      have HO := Lib.hid ho
      have hcs : (s.size : Int) = ((spansL lo hi).length : Int) := by rw [HSZ.out, ho, HSL.out]
      have hcn : ((s.size : Int) == ((spansL lo hi).length : Int)) = true := beq_iff_eq.2 hcs
      have H64 : Hid ((spansL lo hi).length ≤ 64) := Lib.hid (by rw [HSL.out]; exact n64)
      have HOL : Hid ((spansL lo hi).length = C.length) := Lib.hid (by rw [HSL.out, ho])
      clear hmay hD he1 hm ho hlen hvl n1 n64
      go_enter Try.func13, Try.ntmps13
      go_upto_region 1 with fail
      rw [← hW0]
      clear hW0
      go_wp2_with fail
      refine C1.out.mono ?_
      rintro e w1 ⟨⟨r, rfl, h1, _⟩, hb1⟩
      have hr := own_row flatS (h1 (by first | exact trivial | rfl))
      obtain ⟨p, c, hrf⟩ := hr.form
      subst hrf
      have C3 := Lib.hid (decode_any (spansL lo hi) C _ w1 hr HOL.out H64.out HOK.out)
      rw [← HSS.out, ← HE1.out] at C3
      have HF := Lib.hid (HB0.out.trans (hb1.mono HB0.out.size))
      have HS1 : Hid (w.heap.size ≤ w1.heap.size) := Lib.hid HF.out.size
      clear h1 hb1 hr
      generalize (spansL lo hi).length = ns at *
      go_wp2_with fail
      refine C3.out.mono ?_
      rintro e w2 ⟨r, rfl, hr2, hb2⟩
      have HF2 := Lib.hid (HF.out.trans (hb2.mono HS1.out))
      have HR2 := Lib.hid (own_le hr2 HS1.out)
      clear hb2 hr2
      go_wp2_with fail
      go_ret2
      exact ⟨_, rfl, HR2.out, HF2.out⟩
    · have he : ((D1, D2) : List Int × Int) = ([], 60) := by rw [hD]; unfold decQ; rw [hm, if_pos rfl, if_neg ho]
      injection he with he1 he2
      subst he1; subst he2
      have hcs : ¬ (s.size : Int) = ((spansL lo hi).length : Int) := by rw [HSZ.out, HSL.out]; omega
      have hcn : ((s.size : Int) == ((spansL lo hi).length : Int)) = false := beq_eq_false_iff_ne.2 hcs
      clear hmay hD hm ho hlen hvl n1 n64
      go_enter Try.func13, Try.ntmps13
      go_upto_region 1 with fail
      rw [← hW0]
      clear hW0
      go_wp2_with fail
      refine C1.out.mono ?_
      rintro e w1 ⟨⟨r, rfl, h1, _⟩, hb1⟩
      obtain ⟨p, c, hrf⟩ := (own_row flatS (h1 (by first | exact trivial | rfl))).form
      subst hrf
      have HF := Lib.hid (HB0.out.trans (hb1.mono HB0.out.size))
      clear h1 hb1
      generalize (spansL lo hi).length = ns at *
      go_wp2_with fail
      go_ret2
      exact ⟨_, rfl, own_none _ _, HF.out⟩
end Sc
end Go.Proofs.Ytfgmkdghpdpdkaa
