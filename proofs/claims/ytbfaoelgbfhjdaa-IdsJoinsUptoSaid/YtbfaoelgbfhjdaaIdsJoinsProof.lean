/- For any two rows of whole numbers, of together at most 1048576 places, the law IdsJoins of the document's chapter 8 returns true over the program's own Union, Inter and Diff and the document's own answers: what two lists of any numbers have together, in both, and in the first alone. Condition: what is read is of bulk at most 1048576. -/
import Derived.Test.YtbfaoelgbfhjdaaRows
import Derived.WalkKit
import Derived.ProofKit
import Derived.OpenShut
import Derived.ShutString
import Derived.ChangeOld
import Derived.Below
import Derived.SizedLaws
import Derived.JoinedCond
import Derived.Test.YtbfaoelgbfhjdaaIdR
namespace Go.Proofs.Ytbfaoelgbfhjdaa.idsJoins
open Go.ChangeShapes Go.WideShapes Go.ChangeAt Go.RowKit Go.Proofs.Ytbfaoelgbfhjdaa
open Go.ChangeMaps (open_string shut_string)
set_option linter.unusedVariables false

theorem own : ownKnob Try.prog.godebug = none := by kernel_rfl
theorem laidOut : laidOutB Try.prog = true := by kernel_rfl

/-- A row of integers that came in: nil; or a row of 'cap' cells, the numbers 'zs'. -/
def IsRow (k : IntKind) (w : World) (a : Option Addr) (len cap : Nat) (zs : List Int) : Prop :=
  (a = none ∧ len = 0 ∧ cap = 0 ∧ zs = []) ∨
  ∃ x, a = some x ∧ len ≤ cap ∧ cap ≤ maxLen ∧ zs.length = cap ∧ (∀ i, i < zs.length → w.cell? (x.add i) = some (.int k (zs.getD i 0))) ∧ ∀ n ∈ zs, (Lit.int k n).wf = true
theorem bulk_lits {H : Type} (k : IntKind) : ∀ zs : List Int, Rows.uptoBulkAll (lits (H := H) k zs) = zs.length
  | [] => rfl
  | z :: zs => by
    have := bulk_lits (H := H) k zs
    simp only [lits] at this
    simp only [lits, List.map_cons, Rows.uptoBulkAll, Rows.uptoBulk, this, List.length_cons]
    omega
/-- The row that came in, as a row of whole numbers. -/
theorem row_in {w : World} {a : Option Addr} {len cap : Nat} {z : List Int} (h : IsRow .i64 w a len cap z) : IntsAt w (.slice a len cap) (z.take len) ∧ (z.take len).length = len := by
  rcases h with ⟨rfl, rfl, rfl, rfl⟩ | ⟨x, rfl, h1, h2, h3, h4, _⟩
  · exact ⟨.inl ⟨rfl, none, 0, rfl⟩, rfl⟩
  · have hl : (z.take len).length = len := by simp; omega
    refine ⟨?_, hl⟩
    rcases Nat.eq_zero_or_pos len with h0 | h0
    · subst h0
      exact .inl ⟨by simp, some x, cap, rfl⟩
    · have hsome := h4 0 (by omega)
      have hsp : x.spot = none := by
        cases hs : x.spot with
        | none => rfl
        | some q =>
          simp [World.cell?, Addr.add, hs] at hsome
          split at hsome <;> simp at hsome
      obtain ⟨g, off, sp⟩ := x
      simp only at hsp
      subst hsp
      have hg : g < w.heap.size := by
        rcases Nat.lt_or_ge g w.heap.size with hlt | hge
        · exact hlt
        · simp [World.cell?, Addr.add, Array.getElem?_eq_none hge] at hsome
      refine .inr ⟨g, off, cap, by rw [hl], hg, fun W' hW' j hj => ?_⟩
      have hj' : j < z.length := by simp at hj; omega
      have := h4 j hj'
      have hjl : (z.take len)[j] = z.getD j 0 := by simp [List.getD, List.getElem?_eq_getElem hj']
      rw [hjl]
      have ha : (⟨g, off, none⟩ : Addr).add j = ⟨g, off + j, none⟩ := by unfold Addr.add; split <;> simp_all
      rw [ha] at this
      unfold World.cell? at this ⊢
      simp only [hW']
      exact this

/-! ### The walk -/
open Ids
theorem own_len {w : World} {base : Nat} {v : Value} {L : List Int} (h : Own w base v L) : L.length ≤ maxLen := by
  rcases h.2 with ⟨_, h0⟩ | ⟨g, cap, cur, _, _, _, h1, h2, _⟩
  · omega
  · omega
/-- The first k numbers turned to -77. -/
def mix (L : List Int) (k : Nat) : List Int := List.replicate k (-77) ++ L.drop k
theorem mix_zero (L : List Int) : mix L 0 = L := by simp [mix]
theorem mix_length (L : List Int) (k : Nat) (h : k ≤ L.length) : (mix L k).length = L.length := by simp [mix]; omega
theorem mix_at (L : List Int) (k : Nat) (h : k < L.length) : (mix L k)[k]? = some L[k] := by
  unfold mix
  rw [List.getElem?_append_right (by simp)]
  simp [List.getElem?_drop, List.getElem?_eq_getElem h]
theorem mix_set (L : List Int) (k : Nat) (h : k < L.length) : (mix L k).set k (-77) = mix L (k + 1) := by
  unfold mix
  rw [List.set_append_right _ _ (by simp), List.length_replicate, Nat.sub_self, List.drop_eq_getElem_cons h, List.set_cons_zero, List.replicate_succ']
  simp
set_option maxHeartbeats 4000000 in
set_option maxRecDepth 100000 in
theorem walk (v0 : Value) (z0 : List Int) (v1 : Value) (z1 : List Int) (w : World) (i0 : IntsAt w v0 z0) (i1 : IntsAt w v1 z1) (tot : z0.length + z1.length ≤ 1048576) :
    Calls Try.prog 4 #[v0, v1] w fun e w' => e = .returned (.bool true) ∧ Below w.heap.size w w' := by
  have T0 := Lib.hid (twin_any z0 v0 w i0 (by omega))
  have T1 := Lib.hid fun wx (hq : Below w.heap.size w wx) => twin_any z1 v1 wx (i1.below hq) (by omega)
  have HT := Lib.hid tot
  have HI0 := Lib.hid i0
  have HI1 := Lib.hid i1
  clear i0 i1 tot
  go_enter Try.func4, Try.ntmps4
  go_wp2_with (first
    | (go_at_call 9; refine T0.out.mono ?_; clear T0; rintro e w1 ⟨x, rfl, hx, hb⟩; have HX := Lib.hid hx; have HB1 := Lib.hid hb; clear hx hb)
    | (go_at_call 9; refine (T1.out _ HB1.out).mono ?_; clear T1; rintro e w2 ⟨y, rfl, hy, hb⟩
       have HY := Lib.hid hy.at
       have HX2 := Lib.hid (HX.out.at.below hb)
       have HB2 := Lib.hid (HB1.out.trans (hb.mono HB1.out.size))
       have HV0 := Lib.hid (HI0.out.below HB2.out)
       have HV1 := Lib.hid (HI1.out.below HB2.out)
       have HB := Lib.hid (Below.refl w2.heap.size w2)
       have U1 := Lib.hid fun wx (hq : Below w2.heap.size w2 wx) => union_any z0 z1 x y wx (HX2.out.below hq) (HY.out.below hq) (by have := HT.out; omega)
       have U2 := Lib.hid fun wx (hq : Below w2.heap.size w2 wx) => unionRef_any z0 z1 v0 v1 wx (HV0.out.below hq) (HV1.out.below hq) (by have := HT.out; omega)
       have N1 := Lib.hid fun wx (hq : Below w2.heap.size w2 wx) => inter_any z0 z1 x y wx (HX2.out.below hq) (HY.out.below hq) (by have := HT.out; omega)
       have N2 := Lib.hid fun wx (hq : Below w2.heap.size w2 wx) => interRef_any z0 z1 v0 v1 wx (HV0.out.below hq) (HV1.out.below hq) (by have := HT.out; omega) (by have := HT.out; omega)
       have D1 := Lib.hid fun wx (hq : Below w2.heap.size w2 wx) => diff_any z0 z1 x y wx (HX2.out.below hq) (HY.out.below hq) (by have := HT.out; omega)
       have D2 := Lib.hid fun wx (hq : Below w2.heap.size w2 wx) => diffRef_any z0 z1 v0 v1 wx (HV0.out.below hq) (HV1.out.below hq) (by have := HT.out; omega) (by have := HT.out; omega)
       have S0 := Lib.hid fun wx (hq : Below w2.heap.size w2 wx) => sameLaw_any z0 z0 x v0 wx (HX2.out.below hq) (HV0.out.below hq) (by have := HT.out; unfold maxLen; omega) (by have := HT.out; unfold maxLen; omega)
       have S1 := Lib.hid fun wx (hq : Below w2.heap.size w2 wx) => sameLaw_any z1 z1 y v1 wx (HY.out.below hq) (HV1.out.below hq) (by have := HT.out; unfold maxLen; omega) (by have := HT.out; unfold maxLen; omega)
       rw [eqB_same] at S0 S1
       have U3 := U1
       have U4 := U2
       clear hy hb HX HB1 HI0 HI1 HY HX2 HV0 HV1)
    | (go_at_call 18; refine (U1.out _ HB.out).mono ?_; clear U1; rintro e w3 ⟨u, rfl, hu, hb⟩
       have HU := Lib.hid hu
       have HUB := Lib.hid HB.out.size
       have HP := Lib.hid hu.at
       have HN := Lib.hid (own_len hu)
       have hb' := HB.out.trans (hb.mono HB.out.size); clear HB; have HB := Lib.hid hb'
       have HBU := Lib.hid (Below.refl w3.heap.size w3)
       clear hb hb' hu)
    | (go_at_call 19; refine (U2.out _ HB.out).mono ?_; clear U2; rintro e w4 ⟨p, rfl, hp, hb⟩; have HQ := Lib.hid hp.at; have hx := HP.out.below hb; clear HP; have HP := Lib.hid hx; have hbu := HBU.out.trans (hb.mono HBU.out.size); clear HBU; have HBU := Lib.hid hbu; have hb' := HB.out.trans (hb.mono HB.out.size); clear HB; have HB := Lib.hid hb'; clear hb hb' hp hx hbu)
    | (go_at_call 14; refine (sameLaw_any _ _ _ _ _ HP.out HQ.out HN.out HN.out).mono ?_; rw [eqB_same]; clear HP HQ HN; rintro e w5 ⟨rfl, hb⟩; have hbu := HBU.out.trans (hb.mono HBU.out.size); clear HBU; have HBU := Lib.hid hbu; have hb' := HB.out.trans (hb.mono HB.out.size); clear HB; have HB := Lib.hid hb'; clear hb hb' hbu)
    | (go_at_call 20; refine (N1.out _ HB.out).mono ?_; clear N1; rintro e w6 ⟨p, rfl, hp, hb⟩; have HP := Lib.hid hp.at; have HN := Lib.hid (own_len hp); have hbu := HBU.out.trans (hb.mono HBU.out.size); clear HBU; have HBU := Lib.hid hbu; have hb' := HB.out.trans (hb.mono HB.out.size); clear HB; have HB := Lib.hid hb'; clear hb hb' hp hbu)
    | (go_at_call 21; refine (N2.out _ HB.out).mono ?_; clear N2; rintro e w7 ⟨p, rfl, hp, hb⟩; have HQ := Lib.hid hp.at; have hx := HP.out.below hb; clear HP; have HP := Lib.hid hx; have hbu := HBU.out.trans (hb.mono HBU.out.size); clear HBU; have HBU := Lib.hid hbu; have hb' := HB.out.trans (hb.mono HB.out.size); clear HB; have HB := Lib.hid hb'; clear hb hb' hp hx hbu)
    | (go_at_call 22; refine (D1.out _ HB.out).mono ?_; clear D1; rintro e w8 ⟨p, rfl, hp, hb⟩; have HP := Lib.hid hp.at; have HN := Lib.hid (own_len hp); have hbu := HBU.out.trans (hb.mono HBU.out.size); clear HBU; have HBU := Lib.hid hbu; have hb' := HB.out.trans (hb.mono HB.out.size); clear HB; have HB := Lib.hid hb'; clear hb hb' hp hbu)
    | (go_at_call 23; refine (D2.out _ HB.out).mono ?_; clear D2; rintro e w9 ⟨p, rfl, hp, hb⟩; have HQ := Lib.hid hp.at; have hx := HP.out.below hb; clear HP; have HP := Lib.hid hx; have hbu := HBU.out.trans (hb.mono HBU.out.size); clear HBU; have HBU := Lib.hid hbu; have hb' := HB.out.trans (hb.mono HB.out.size); clear HB; have HB := Lib.hid hb'; clear hb hb' hp hx hbu))
  have HL := Lib.hid (uniL_length z0 z1)
  obtain ⟨pu, cu, hue⟩ := HU.out.at.form
  subst hue
  have HUC := Lib.hid (own_below HU.out HBU.out)
  have HML : Hid ((uniL z0 z1).length ≤ maxLen) := Lib.hid (by have := HL.out; have := HT.out; unfold maxLen; omega)
  clear HU HBU HL
  go_loopw [9] (fun i wr => ∃ k : Nat, k ≤ (uniL z0 z1).length ∧ i = .int .i64 k ∧ Own wr w2.heap.size (.slice pu (uniL z0 z1).length cu) (mix (uniL z0 z1) k) ∧ Below w2.heap.size w2 wr) (fun i _ => (uniL z0 z1).length - (intOf i).toNat)
  case atStart => exact ⟨0, Nat.zero_le _, rfl, by rw [mix_zero]; exact HUC.out, HB.out⟩
  case round =>
    obtain ⟨k, hk, rfl, ho, hbel⟩ := hrel
    have HO := Lib.hid ho
    have HBL := Lib.hid hbel
    clear ho hbel
    obtain ⟨wo, rfl⟩ : ∃ wo : World, wo = wr := ⟨_, rfl⟩
    by_cases hlt : k < (uniL z0 z1).length
    · obtain ⟨g, cap, he, hg, _⟩ := own_form HO.out (by rw [mix_length _ _ hk]; omega)
      injection he with e1 e2 e3
      subst e1 e3
      obtain ⟨c1, f1, s1⟩ := own_cell HO.out k _ (mix_at _ _ hlt)
      have s2 := s1 (-77)
      rw [mix_set _ _ hlt] at s2
      have HS2 := Lib.hid s2
      have HG := Lib.hid hg
      have hlt' : (k : Int) < ((uniL z0 z1).length : Int) := by omega
      clear s1 s2 HO e2 hg
      generalize (uniL z0 z1)[k] = xx at c1
      go_wp2_with fail
      go_roundw
      case rel => exact ⟨k + 1, by omega, congrArg _ (wrap_s HML.out hlt), HS2.out, HBL.out.setCell HG.out _⟩
      case measure =>
        rw [wrap_s HML.out hlt]
        exact int_less hlt
    · obtain rfl : k = (uniL z0 z1).length := by omega
      have H8 := Lib.hid sure_yes
      clear HB HO HUC
      have HB := HBL
      clear HBL
      go_wp2_with (first
        | (go_at_call 14; refine (S0.out _ HB.out).mono ?_; clear S0; rintro e w5 ⟨rfl, hb⟩; have hb' := HB.out.trans (hb.mono HB.out.size); clear HB; have HB := Lib.hid hb'; clear hb hb')
        | (go_at_call 14; refine (S1.out _ HB.out).mono ?_; clear S1; rintro e w5 ⟨rfl, hb⟩; have hb' := HB.out.trans (hb.mono HB.out.size); clear HB; have HB := Lib.hid hb'; clear hb hb')
        | (go_at_call 18; refine (U3.out _ HB.out).mono ?_; clear U3; rintro e w3 ⟨u, rfl, hu, hb⟩; have HP := Lib.hid hu.at; have HN := Lib.hid (own_len hu); have hb' := HB.out.trans (hb.mono HB.out.size); clear HB; have HB := Lib.hid hb'; clear hb hb' hu)
        | (go_at_call 19; refine (U4.out _ HB.out).mono ?_; clear U4; rintro e w4 ⟨p, rfl, hp, hb⟩; have HQ := Lib.hid hp.at; have hx := HP.out.below hb; clear HP; have HP := Lib.hid hx; have hb' := HB.out.trans (hb.mono HB.out.size); clear HB; have HB := Lib.hid hb'; clear hb hb' hp hx)
        | (go_at_call 14; refine (sameLaw_any _ _ _ _ _ HP.out HQ.out HN.out HN.out).mono ?_; rw [eqB_same]; clear HP HQ HN; rintro e w5 ⟨rfl, hb⟩; have hb' := HB.out.trans (hb.mono HB.out.size); clear HB; have HB := Lib.hid hb'; clear hb hb')
        | (go_at_call 17; refine (H8.out _).mono ?_; rintro e w5 ⟨rfl, hb⟩; have hb' := HB.out.trans (hb.mono HB.out.size); clear HB; have HB := Lib.hid hb'; clear hb hb'))
      go_ret
      exact ⟨rfl, HB2.out.trans (HB.out.mono HB2.out.size)⟩

theorem toLen (s : ByteArray) : s.data.toList.length = s.size := by rw [Array.length_toList]; rfl

/-! ### The row -/
set_option maxRecDepth 100000 in
theorem contract (H : Type) (enc : TypeId × Value → H) (W : World) (base : Nat) (args : Array Value) (ds gs : List (DataW H)) (before : List MemPlace)
    (hval0 : ∀ (j : Nat) t v, Try.f4.params[j]? = some t → args[j]? = some v → Value.okWide Try.prog W .any base t v)
    (hW : DataW.Whole enc Try.prog Try.f4.params.toList Rows.idsJoinsSpec.vars false W args.toList ds gs before) (hsz : Rows.uptoSmall H (ds ++ gs) = true) :
    Calls Try.prog 4 args W fun e W' => ∃ v, e = .returned v ∧ Rows.idsJoinsSpec.post enc Try.prog Try.f4 false true false false W args v W' := by
  have hval : ∀ (j : Nat) t v, Try.f4.params[j]? = some t → args[j]? = some v → Value.okWide Try.prog W .any base t v := hval0
  have hW' := hW
  obtain ⟨p, q, hA0, hV, rfl, hfz, hnd⟩ := hW
  have hA : DataW.TrodAll enc Try.prog W 0 (fun _ => true) true Try.f4.params.toList args.toList ds p := hA0
  rw [Try.params4] at hA hval
  obtain ⟨v0, vs0, d0, ds0, p0, q0, hargs, rfl, rfl, h0, r0⟩ := trodAll_cons hA
  obtain ⟨v1, vs1, d1, ds1, p1, q1, rfl, rfl, rfl, h1, r1⟩ := trodAll_cons r0
  obtain ⟨rfl, rfl, rfl⟩ := trodAll_nil r1
  obtain rfl : args = #[v0, v1] := by cases args; simp_all
  obtain ⟨rfl, rfl⟩ := trodVars_none hV
  obtain ⟨a0, len0, cap0, rfl⟩ := okWide_slice Try.underlying22 (hval 0 22 v0 rfl rfl)
  have k0 := h0
  have lt0 : ∀ x ∈ p0, x.block < W.heap.size := by obtain ⟨m, hm⟩ := k0; exact DataW.trod_lt m _ _ _ hm
  obtain ⟨z0, w0, b0⟩ : ∃ zs, IsRow .i64 W a0 len0 cap0 zs ∧ len0 + 1 ≤ Rows.uptoBulk d0 := by
    obtain ⟨fuel, hf⟩ := h0
    rcases open_ints Try.underlying22 Try.underlying3 (by kernel_rfl) hf with ⟨hcs, hx⟩ | ⟨x, l, c, zs, hcs, _, hl, hm, hz, hx, hcell, hwz⟩
    · simp [Value.cells] at hcs
      obtain ⟨rfl, rfl, rfl⟩ := hcs
      have hx' := congrArg Prod.fst hx
      simp only at hx'
      subst hx'
      exact ⟨[], .inl ⟨rfl, rfl, rfl, rfl⟩, by simp [Rows.uptoBulk]⟩
    · simp [Value.cells] at hcs
      obtain ⟨rfl, rfl, rfl⟩ := hcs
      have hx' := congrArg Prod.fst hx
      simp only at hx'
      subst hx'
      simp only [if_true] at hz
      refine ⟨zs, .inr ⟨_, rfl, hl, hm, by simpa using hz, hcell, hwz⟩, ?_⟩
      simp only [Rows.uptoBulk, bulk_lits, List.length_take, List.length_drop]
      omega
  obtain ⟨a1, len1, cap1, rfl⟩ := okWide_slice Try.underlying22 (hval 1 22 v1 rfl rfl)
  have k1 := h1
  have lt1 : ∀ x ∈ p1, x.block < W.heap.size := by obtain ⟨m, hm⟩ := k1; exact DataW.trod_lt m _ _ _ hm
  obtain ⟨z1, w1, b1⟩ : ∃ zs, IsRow .i64 W a1 len1 cap1 zs ∧ len1 + 1 ≤ Rows.uptoBulk d1 := by
    obtain ⟨fuel, hf⟩ := h1
    rcases open_ints Try.underlying22 Try.underlying3 (by kernel_rfl) hf with ⟨hcs, hx⟩ | ⟨x, l, c, zs, hcs, _, hl, hm, hz, hx, hcell, hwz⟩
    · simp [Value.cells] at hcs
      obtain ⟨rfl, rfl, rfl⟩ := hcs
      have hx' := congrArg Prod.fst hx
      simp only at hx'
      subst hx'
      exact ⟨[], .inl ⟨rfl, rfl, rfl, rfl⟩, by simp [Rows.uptoBulk]⟩
    · simp [Value.cells] at hcs
      obtain ⟨rfl, rfl, rfl⟩ := hcs
      have hx' := congrArg Prod.fst hx
      simp only at hx'
      subst hx'
      simp only [if_true] at hz
      refine ⟨zs, .inr ⟨_, rfl, hl, hm, by simpa using hz, hcell, hwz⟩, ?_⟩
      simp only [Rows.uptoBulk, bulk_lits, List.length_take, List.length_drop]
      omega
  have tot : (z0.take len0).length + (z1.take len1).length ≤ 1048576 := by
    have h := of_decide_eq_true hsz
    simp only [List.append_nil, Rows.uptoBulkAll, Rows.uptoBulk, toLen] at h
    rw [(row_in w0).2]
    rw [(row_in w1).2]
    omega
  clear hA0 hval0
  refine (walk (.slice a0 len0 cap0) (z0.take len0) (.slice a1 len1 cap1) (z1.take len1) W (row_in w0).1 (row_in w1).1 tot).mono fun e W' ⟨he, bel⟩ => ?_
  subst he
  exact ⟨_, rfl, _, _, _, [], _, [], hW', trodAll_mk1 (shut_bool Try.underlying4 _), (trodAll_cons_mk (Below.trod laidOut (by kernel_rfl) (of_decide_eq_true (by kernel_rfl)) k0 bel lt0) (trodAll_cons_mk (Below.trod laidOut (by kernel_rfl) (of_decide_eq_true (by kernel_rfl)) k1 bel lt1) trodAll_mk0)), rfl, bel.frame _, fun h => by cases h⟩

set_option maxRecDepth 100000 in
theorem lifted (os : Os) (started : os.Started) (H : Type) (enc : TypeId × Value → H) (F : Stop.Interp) :
    ReturnsInHanded {} Try.checked os 4 .any ((Rows.OpenSpec.upto Rows.idsJoinsSpec).pre6 enc Try.prog Try.f4 Rows.idsJoinsUptoRow.domain false) (((Rows.OpenSpec.upto Rows.idsJoinsSpec).at F).post enc Try.prog Try.f4 false true false false) := by
  refine returnsInHanded_of_cond (C := Try.checked) (s := Rows.OpenSpec.upto Rows.idsJoinsSpec) (k := Rows.uptoSmall) rfl own started (by kernel_rfl) Try.func4
    (OpenSpec.witness (enc := enc) (C := Try.checked) (s := Rows.OpenSpec.upto Rows.idsJoinsSpec) (k := Rows.uptoSmall) rfl false ⟨#[], #[.slice none 0 0, .slice none 0 0], []⟩ 8 (by kernel_rfl) (by kernel_rfl) (by kernel_rfl)
      (x := ([.nil, .nil], [], [])) (by kernel_rfl) rfl (by kernel_rfl)) ?_
  intro W base args ds gs before hval hW _ hk _
  exact contract H enc W base args ds gs before hval hW hk

/-- The statement. -/
theorem proved : Rows.IdsJoinsUptoSaid :=
  OpenClaim.holds_of_cond 4 Try.f4 rfl rfl rfl rfl rfl rfl rfl ⟨rfl, rfl, rfl, rfl, rfl⟩ rfl rfl rfl rfl rfl (by kernel_rfl) Try.func4 (by kernel_rfl)
    (of_decide_eq_true (by kernel_rfl)) (by unfold Func.isWrapper; first | (rw [if_pos (by decide +kernel)]; kernel_rfl) | (rw [if_neg (by decide +kernel)]; exact ⟨rfl, rfl⟩))
    (fun os started H enc _ F => lifted os started H enc F)
#print axioms proved
end Go.Proofs.Ytbfaoelgbfhjdaa.idsJoins
