/- For any point, any text behind its bytes and any cut the law PayloadBack of the document's chapter 5 returns true over the program's own Encode and Decode and the document's own answers: a point that is written is read as it was, whatever stands behind it; a beginning of its bytes is none. Conditions: the listed package-level variables read as the program lays them; each string and each row takes no more than the form's reach. -/
import Derived.Test.YtokjmgkoifakdaaDoorPayloadBackZ2
import Derived.Test.YtokjmgkoifakdaaDoorCards
import Derived.Test.YtokjmgkoifakdaaDoorTie
import Derived.WalkKit
import Derived.ProofKit
import Derived.OpenShut
import Derived.ShutString
import Derived.ChangeOld
import Derived.Below
import Derived.SizedLaws
import Derived.JoinedCond
import Derived.Deep.DeepHandedRow
import Derived.Lay
import Derived.SevenTiedAt
namespace Go.Proofs.YtokjmgkoifakdaaDoor
set_option linter.unusedVariables false
open Go Go.RowKit Go.Shelf Pl
theorem dec_back (a : Pt) (hm : ptMay a = true) (S more : ByteArray) (hS : S.data.toList = bPt a) (W : World) (G : Gp W) (hs : (S ++ more).size ≤ 281474976710656) :
    Calls Tryd.prog 20 #[.string (S ++ more)] W (DecYes W a (S.size : Int)) := by
  have hp : ptR (S ++ more).data.toList = (a, ⟨more.data.toList, false⟩) := by rw [app_list, hS]; exact ptR_back a hm _
  refine (decode_any (S ++ more) W G hs).mono ?_
  intro e w' h
  have e1 : ptOf (S ++ more) = a := by unfold ptOf; rw [hp]
  have e2 : leftOf (S ++ more) = ⟨more.data.toList, false⟩ := by unfold leftOf; rw [hp]
  rcases h with ⟨h, _⟩ | ⟨_, _, h⟩
  · rw [e1, e2, hm] at h
    rcases h with h | h <;> cases h
  · rw [e1, e2] at h
    have e3 : (S ++ more).size - (⟨more.data.toList, false⟩ : Rs).rest.length = S.size := by
      show (S ++ more).size - more.data.toList.length = _
      rw [ln, ByteArray.size_append]; omega
    rw [e3] at h
    exact h
theorem dec_cut (a : Pt) (hm : ptMay a = true) (S : ByteArray) (hS : S.data.toList = bPt a) (c : Nat) (hc : c < S.size) (W : World) (G : Gp W) (hs : S.size ≤ 281474976710656) :
    Calls Tryd.prog 20 #[.string (S.extract 0 c)] W (DecNo W) := by
  have hl : (S.extract 0 c).data.toList = (bPt a).take c := by rw [ext_any, hS]; simp
  refine (decode_any (S.extract 0 c) W G (by rw [ByteArray.size_extract]; omega)).mono ?_
  intro e w' h
  have e2 : (leftOf (S.extract 0 c)).short = true := by unfold leftOf; rw [hl]; exact ptR_cut a hm c (by rw [← hS, ln]; exact hc)
  rcases h with ⟨_, h⟩ | ⟨h, _⟩
  · exact h
  · rw [e2] at h; cases h
theorem may_in (W : World) (p : Value) (a : Pt) (h : PtIn W p a) :
    Calls Tryd.prog 22 #[p] W fun e w' => e = .returned (.bool (ptMay a)) ∧ Below W.heap.size W w' := by
  obtain ⟨u, x, rfl, h1, h2, h3, h4⟩ := h
  exact rmay_any a.id u x a.vecs a.flds W h1 h2 h3 h4
theorem same_one (W : World) (p q : Value) (a b : Pt) (g : Bool) (hg : isB (a = b) = g) (h : PtIn W p a) (k : PtIn W q b) :
    Calls Tryd.prog 16 #[p, q] W fun e w' => e = .returned (.bool g) ∧ Below W.heap.size W w' := by
  obtain ⟨u, x, rfl, h1, h2, h3, h4⟩ := h
  obtain ⟨v, y, rfl, k1, k2, k3, k4⟩ := k
  rw [← hg]
  exact rsame_any a b u v x y W h1 k1 h2 k2 h3 k3 h4 k4
def nPt : Pt := ⟨0, [], []⟩
theorem ptIn_none (W : World) : PtIn W (.agg #[.int .i64 0, .slice none 0 0, .slice none 0 0]) nPt :=
  ⟨_, _, rfl, .inl ⟨rfl, _, _, rfl⟩, .inl ⟨rfl, _, _, rfl⟩, ⟨Nat.zero_le _, fun x hx => by cases hx⟩, ⟨Nat.zero_le _, fun x hx => by cases hx⟩⟩
theorem wrI' {x y : Int} (h : x = y) (h2 : -9223372036854775808 ≤ y ∧ y ≤ 9223372036854775807) : wrap64 x = y := by subst h; unfold wrap64; omega
theorem cut_of (S : Nat) (cut : Int) (h0 : 1 ≤ S) (hS : S ≤ 20971520) : ∃ (d d2 : Int) (c : Nat), cut.tmod (S : Int) = d ∧ wrap64 (d + (S : Int)) = d2 ∧ d2.tmod (S : Int) = (c : Int) ∧ c < S := by
  have hp : (0 : Int) < (S : Int) := by omega
  have h1 : -((S : Int)) ≤ cut.tmod (S : Int) ∧ cut.tmod (S : Int) ≤ (S : Int) := by
    rcases Int.le_total 0 cut with h | h
    · have a := Int.tmod_nonneg (S : Int) h
      have b := Int.tmod_lt_of_pos cut hp
      omega
    · have a := Int.tmod_nonneg (S : Int) (a := -cut) (by omega)
      have b := Int.tmod_lt_of_pos (-cut) hp
      rw [Int.neg_tmod] at a b
      omega
  generalize cut.tmod (S : Int) = d at h1
  have a := Int.tmod_nonneg (S : Int) (a := d + S) (by omega)
  have b := Int.tmod_lt_of_pos (d + S) hp
  obtain ⟨c, hc⟩ : ∃ c : Nat, (d + S).tmod (S : Int) = (c : Int) := ⟨((d + S).tmod (S : Int)).toNat, by omega⟩
  exact ⟨d, d + S, c, rfl, wrI' rfl (by omega), hc, by omega⟩
theorem bPt_len {a : Pt} (h : ptMay a = true) : 1 ≤ (bPt a).length ∧ (bPt a).length ≤ 8000 := by
  have h2 := preF_len (ptIs h) a.flds.length
  rw [preF_all] at h2
  refine ⟨?_, h2⟩
  unfold bPt
  simp only [List.length_append, fixL_length]
  omega
set_option maxHeartbeats 8000000 in
set_option maxRecDepth 100000 in
theorem back_walk (a : Pt) (u x : Value) (more : ByteArray) (cut : Int) (w : World) (G : Gp w) (ha : PtIn w (.agg #[.int .i64 a.id, u, x]) a) (hmore : more.size ≤ 140737488351232) :
    Calls Tryd.prog 5 #[.agg #[.int .i64 a.id, u, x], .string more, .int .i64 cut] w fun e w' => e = .returned (.bool true) ∧ Below w.heap.size w w' := by
  obtain ⟨u, x, e0, k1, k2, k3, k4⟩ := ha
  injection e0 with e0
  have e0' : [Value.int .i64 a.id, _, _] = [Value.int .i64 a.id, u, x] := congrArg Array.toList e0
  simp only [List.cons.injEq, and_true, true_and] at e0'
  obtain ⟨rfl, rfl⟩ := e0'
  have hpt : PtIn w (.agg #[.int .i64 a.id, u, x]) a := ⟨u, x, rfl, k1, k2, k3, k4⟩
  obtain ⟨pv, cv, rfl⟩ := k1.form
  obtain ⟨pf, cf, rfl⟩ := k2.form
  clear k1 k2 k3 k4 e0
  obtain ⟨nv, hnv⟩ : ∃ n, n = a.vecs.length := ⟨_, rfl⟩
  obtain ⟨nf, hnf⟩ : ∃ n, n = a.flds.length := ⟨_, rfl⟩
  rw [← hnv, ← hnf] at hpt ⊢
  clear hnv hnf
  obtain ⟨i, hi⟩ : ∃ i, i = a.id := ⟨_, rfl⟩
  rw [← hi] at hpt ⊢
  obtain ⟨d0, d1, d2⟩ := cells3 w (.int .i64 i) (.slice pv nv cv) (.slice pf nf cf) 29
  have HB := Lib.hid (fresh_alloc w (.cells #[.int .i64 i, .slice pv nv cv, .slice pf nf cf] 29))
  have HZ : Hid ((w.alloc (.cells #[.int .i64 i, .slice pv nv cv, .slice pf nf cf] 29)).heap[w.heap.size]? = some (.cells #[.int .i64 i, .slice pv nv cv, .slice pf nf cf] 29 (0, 0))) := Lib.hid (heap_last w _)
  have HS : Hid (w.heap.size < (w.alloc (.cells #[.int .i64 i, .slice pv nv cv, .slice pf nf cf] 29)).heap.size) := Lib.hid (by simp)
  have HPT := Lib.hid (hpt.below HB.out)
  have HE := Lib.hid (enc_in _ (G.fresh HB.out) _ a HPT.out)
  have HG := Lib.hid (fun W (h : Below w.heap.size w W) => G.fresh h)
  have HW := Lib.hid (fun W (h : Below w.heap.size w W) => awake_yes W (G.fresh h))
  clear G hpt hi
  go_enter Tryd.func5, Tryd.ntmps5
  go_wp2_with fail
  generalize w.alloc (.cells #[.int .i64 i, .slice pv nv cv, .slice pf nf cf] 29) = W0 at *
  cases hm : ptMay a with
  | false =>
    have he : EncV a = .tuple #[.string ⟨#[]⟩, .int .i64 120] := by unfold EncV; rw [hm]; rfl
    rw [he] at HE
    have HM := Lib.hid hm
    clear he hm
    refine HE.out.mono ?_
    rintro e w1 ⟨rfl, b1⟩
    have HQ1 := Lib.hid b1
    have HB1 := Lib.hid (HB.out.trans (b1.mono HB.out.size))
    have HP1 := Lib.hid (HPT.out.below b1)
    obtain ⟨c0, c1, c2⟩ := cells3_of ((b1.block _ HS.out).trans HZ.out)
    have HY := Lib.hid (may_in w1 _ a HP1.out)
    rw [HM.out] at HY
    clear b1 d0 d1 d2
    go_wp2_with fail
    refine HY.out.mono ?_
    rintro e w2 ⟨rfl, b2⟩
    have HB2 := Lib.hid (HB1.out.trans (b2.mono HB1.out.size))
    clear b2
    go_wp2_with fail
    refine (HW.out _ HB2.out).mono ?_
    rintro e w3 ⟨rfl, b3⟩
    have HB3 := Lib.hid (HB2.out.trans (b3.mono HB2.out.size))
    clear b3
    go_wp2_with fail
    go_ret
    exact ⟨rfl, HB3.out⟩
  | true =>
    obtain ⟨S, hS⟩ : ∃ S : ByteArray, S = ⟨(bPt a).toArray⟩ := ⟨_, rfl⟩
    have hSl : S.data.toList = bPt a := by rw [hS]
    have he : EncV a = .tuple #[.string S, .int .i64 0] := by unfold EncV; rw [hm, hS]; rfl
    rw [he] at HE
    have hb := bPt_len hm
    have hSz : S.size = (bPt a).length := by rw [← ln, hSl]
    have hne : S.toList.isEmpty = false := by
      rw [Go.ByteArray.toList_eq, List.isEmpty_eq_false_iff, hSl]
      intro c; rw [c] at hb; simp at hb
    obtain ⟨d, d2', c, q1, q2, q3, q4⟩ := cut_of S.size cut (by omega) (by omega)
    have HD1 := Lib.hid (fun W (h : Below w.heap.size w W) => dec_back a hm S more hSl W (HG.out W h) (by rw [ByteArray.size_append]; omega))
    have HD2 := Lib.hid (fun W (h : Below w.heap.size w W) => dec_cut a hm S hSl c q4 W (HG.out W h) (by omega))
    have hcat : S.size + more.size ≤ 9223372036854775807 := by omega
    have HSS : Hid (1 ≤ S.size ∧ S.size ≤ 8000) := Lib.hid (by omega)
    obtain ⟨n, hn⟩ : ∃ n : Nat, n = S.size := ⟨_, rfl⟩
    have hn0 : ((S.size : Int) == 0) = false := beq_eq_false_iff_ne.2 (by omega)
    have hn1 : ¬ S.size = 0 := by omega
    have hn2 : ¬ (S.size : Int) = 0 := by omega
    have hc0 : (0 : Int) ≤ (c : Int) := by omega
    have hc1 : (c : Int) ≤ (S.size : Int) := by omega
    clear he hm hb hSz hS hSl q4 HG hn
    refine HE.out.mono ?_
    rintro e w1 ⟨rfl, b1⟩
    have HQ1 := Lib.hid b1
    have HB1 := Lib.hid (HB.out.trans (b1.mono HB.out.size))
    have HP1 := Lib.hid (HPT.out.below b1)
    have HZ1 := Lib.hid ((b1.block _ HS.out).trans HZ.out)
    have HS1 := Lib.hid (Nat.lt_of_lt_of_le HS.out b1.size)
    clear b1 d0 d1 d2 HE
    go_wp2_with fail
    refine (HD1.out _ HB1.out).mono ?_
    rintro e w2 ⟨u2, f2, rfl, v2, g2, o2, p2, b2⟩
    have HPX : Hid (PtIn w2 (.agg #[.int .i64 a.id, u2, f2]) a) := Lib.hid ⟨_, _, rfl, v2, g2, o2, p2⟩
    obtain ⟨pu, cu, rfl⟩ := v2.form
    obtain ⟨pg, cg, rfl⟩ := g2.form
    have HB2 := Lib.hid (HB1.out.trans (b2.mono HB1.out.size))
    have HP2 := Lib.hid (HP1.out.below b2)
    have HZ2 := Lib.hid ((b2.block _ HS1.out).trans HZ1.out)
    have HS2 := Lib.hid (Nat.lt_of_lt_of_le HS1.out b2.size)
    clear b2 v2 g2 o2 p2
    generalize a.vecs.length = mv at *
    generalize a.flds.length = mf at *
    generalize a.id = ai at *
    go_wp2_with fail
    have HB3 := Lib.hid (HB2.out.alloc HB2.out.size (.cells #[.int .i64 ai, .slice pu mv cu, .slice pg mf cg] 29))
    have HX3 : Hid ((w2.alloc (.cells #[.int .i64 ai, .slice pu mv cu, .slice pg mf cg] 29)).heap[w2.heap.size]? = some (.cells #[.int .i64 ai, .slice pu mv cu, .slice pg mf cg] 29 (0, 0))) := Lib.hid (heap_last w2 _)
    have HQ3 : Hid (Below w2.heap.size w2 (w2.alloc (.cells #[.int .i64 ai, .slice pu mv cu, .slice pg mf cg] 29))) := Lib.hid (fresh_alloc w2 _)
    have HL3 : Hid (w2.heap.size < (w2.alloc (.cells #[.int .i64 ai, .slice pu mv cu, .slice pg mf cg] 29)).heap.size) := Lib.hid (by simp)
    generalize w2.alloc (.cells #[.int .i64 ai, .slice pu mv cu, .slice pg mf cg] 29) = w3 at *
    refine (HD2.out _ HB3.out).mono ?_
    rintro e w4 ⟨rfl, b4⟩
    have HQ4 := Lib.hid (HQ3.out.trans (b4.mono HQ3.out.size))
    have HB4 := Lib.hid (HB3.out.trans (b4.mono HB3.out.size))
    have HX4 := Lib.hid ((b4.block _ HL3.out).trans HX3.out)
    have HZ4 := Lib.hid ((HQ4.out.block _ HS2.out).trans HZ2.out)
    have HL4 := Lib.hid (Nat.lt_of_lt_of_le HL3.out b4.size)
    have HS4 := Lib.hid (Nat.lt_of_lt_of_le HS2.out HQ4.out.size)
    clear b4
    have HQ5 := Lib.hid (fresh_alloc w4 (.cells #[.int .i64 0, .slice none 0 0, .slice none 0 0] 29))
    have HX5 := Lib.hid ((HQ5.out.block _ HL4.out).trans HX4.out)
    have HZ5 := Lib.hid ((HQ5.out.block _ HS4.out).trans HZ4.out)
    have HY5 : Hid ((w4.alloc (.cells #[.int .i64 0, .slice none 0 0, .slice none 0 0] 29)).heap[w4.heap.size]? = some (.cells #[.int .i64 0, .slice none 0 0, .slice none 0 0] 29 (0, 0))) := Lib.hid (heap_last w4 _)
    have HL5 : Hid (w4.heap.size < (w4.alloc (.cells #[.int .i64 0, .slice none 0 0, .slice none 0 0] 29)).heap.size) := Lib.hid (by simp)
    have HB5 := Lib.hid (HB4.out.trans (HQ5.out.mono HB4.out.size))
    have HQ25 := Lib.hid (HQ4.out.trans (HQ5.out.mono HQ4.out.size))
    have HPX5 := Lib.hid (HPX.out.below HQ25.out)
    have HP5 := Lib.hid (HP2.out.below HQ25.out)
    have HSM := Lib.hid (same_one _ _ _ a a true (isB_yes rfl) HPX5.out HP5.out)
    obtain ⟨x0, x1, x2⟩ := cells3_of HX5.out
    obtain ⟨z0, z1, z2⟩ := cells3_of HZ5.out
    have HNS := Lib.hid (fun W => same_one W _ _ nPt nPt true (isB_yes rfl) (ptIn_none W) (ptIn_none W))
    go_wp2_with fail
    refine HSM.out.mono ?_
    rintro e w6 ⟨rfl, b6⟩
    have HB6 := Lib.hid (HB5.out.trans (b6.mono HB5.out.size))
    obtain ⟨y0, y1, y2⟩ := cells3_of ((b6.block _ HL5.out).trans HY5.out)
    clear b6 x0 x1 x2 z0 z1 z2
    go_wp2_with fail
    refine (HNS.out _).mono ?_
    rintro e w7 ⟨rfl, b7⟩
    have HB7 := Lib.hid (HB6.out.trans (b7.mono HB6.out.size))
    clear b7 y0 y1 y2
    go_wp2_with fail
    refine (HW.out _ HB7.out).mono ?_
    rintro e w8 ⟨rfl, b8⟩
    have HB8 := Lib.hid (HB7.out.trans (b8.mono HB7.out.size))
    clear b8
    go_wp2_with fail
    go_ret
    exact ⟨rfl, HB8.out⟩
end Go.Proofs.YtokjmgkoifakdaaDoor
namespace Go.Proofs.YtokjmgkoifakdaaDoor.payloadBack
open Go.ChangeShapes Go.WideShapes Go.ChangeAt Go.RowKit Go.Proofs.YtokjmgkoifakdaaDoor
open Go.ChangeMaps (open_string shut_string)
open Pl
set_option linter.unusedVariables false

theorem own : ownKnob Tryd.prog.godebug = none := by kernel_rfl
theorem laidOut : laidOutB Tryd.prog = true := by kernel_rfl

/-! ### The walk -/
set_option maxHeartbeats 2000000 in
set_option maxRecDepth 100000 in
theorem walk (x0 : Pt) (u0 f0 : Value) (a1 : ByteArray) (a2 : Int) (w : World) (li0 : -9223372036854775808 ≤ x0.id ∧ x0.id ≤ 9223372036854775807) (wv0 : VecsAt w u0 x0.vecs) (wf0 : FldsAt w f0 x0.flds) (s0 : VecsOk x0.vecs ∧ FldsOk x0.flds) (c0 : x0.vecs.length * 40 ≤ 140737488355328 ∧ (∀ y ∈ x0.vecs, y.v.length * 8 ≤ 140737488355328) ∧ x0.flds.length * 48 ≤ 140737488355328) (w1 : a1.size ≤ 140737488351232) (w2 : (Lit.int .i64 a2).wf = true) (G : Gp w) :
    Calls Tryd.prog 5 #[.agg #[.int .i64 x0.id, u0, f0], .string a1, .int .i64 a2] w fun e w' => e = .returned (.bool true) ∧ Below w.heap.size w w' := by
  exact back_walk x0 u0 f0 a1 a2 w G ⟨u0, f0, rfl, wv0, wf0, s0.1, s0.2⟩ w1

theorem toLen (s : ByteArray) : s.data.toList.length = s.size := by rw [Array.length_toList]; rfl

/-! ### The row -/
set_option maxRecDepth 100000 in
theorem contract (H : Type) (enc : TypeId × Value → H) (W : World) (base : Nat) (args : Array Value) (ds gs : List (DataW H)) (before : List MemPlace)
    (hval0 : ∀ (j : Nat) t v, Tryd.f5.params[j]? = some t → args[j]? = some v → Value.okWide Tryd.prog W .any base t v)
    (hW : DataW.Whole enc Tryd.prog Tryd.f5.params.toList Rows.payloadBackSpec.vars false W args.toList ds gs before) (hsz0 : (DataW.weightsEach Tryd.prog (Tryd.f5.params.toList ++ Rows.payloadBackSpec.plain.varTypes Tryd.prog) (ds ++ gs)).all (· ≤ reachBytes) = true)
    (hL0 : laidMetH Tryd.prog Rows.payloadBackRow.laid W) (hsh : W.ShapedOpen Tryd.prog) :
    Calls Tryd.prog 5 args W fun e W' => ∃ v, e = .returned v ∧ Rows.payloadBackSpec.post enc Tryd.prog Tryd.f5 false true false false W args v W' := by
  have hL := hL0
  rw [MakeChecks.laidMetH_plain _ _ _ (by kernel_rfl)] at hL
  have G : Gp W := gp_of hsh hL
  clear hL hL0
  have hsz := hsz0
  have hval : ∀ (j : Nat) t v, Tryd.f5.params[j]? = some t → args[j]? = some v → Value.okWide Tryd.prog W .any base t v := hval0
  have hW' := hW
  obtain ⟨p, q, hA0, hV, rfl, hfz, hnd⟩ := hW
  have hA : DataW.TrodAll enc Tryd.prog W 0 (fun _ => true) true Tryd.f5.params.toList args.toList ds p := hA0
  rw [Tryd.params5] at hA hval hsz
  obtain ⟨v0, vs0, d0, ds0, p0, q0, hargs, rfl, rfl, h0, r0⟩ := trodAll_cons hA
  obtain ⟨v1, vs1, d1, ds1, p1, q1, rfl, rfl, rfl, h1, r1⟩ := trodAll_cons r0
  obtain ⟨v2, vs2, d2, ds2, p2, q2, rfl, rfl, rfl, h2, r2⟩ := trodAll_cons r1
  obtain ⟨rfl, rfl, rfl⟩ := trodAll_nil r2
  obtain rfl : args = #[v0, v1, v2] := by cases args; simp_all
  obtain ⟨rfl, rfl⟩ := trodVars_none hV
  have k0 := h0
  have lt0 : ∀ x ∈ p0, x.block < W.heap.size := by obtain ⟨m, hm⟩ := k0; exact DataW.trod_lt m _ _ _ hm
  obtain ⟨x0, u0, f0, rfl, pd0, wv0, wf0, li0⟩ := open_pt (hval 0 29 v0 rfl rfl) h0
  obtain ⟨a1, rfl, rfl, rfl, w1⟩ := open_string Tryd.underlying9 (hval 1 9 v1 rfl rfl) h1
  obtain ⟨a2, rfl, rfl, rfl, w2⟩ := open_int Tryd.underlying3 (hval 2 3 v2 rfl rfl) h2
  have s0 := sized_pt hsz (j := 0) rfl rfl pd0
  have c0 := sized_copy hsz (j := 0) rfl rfl pd0
  have s1 : a1.size ≤ 140737488351232 := by have := sized_string hsz (j := 1) (t := 9) rfl rfl; simpa [reachBytes] using this
  clear hA0 hval0 hsz0
  refine (walk x0 u0 f0 a1 a2 W li0 wv0 wf0 s0 c0 s1 w2 G).mono fun e W' ⟨he, bel⟩ => ?_
  subst he
  exact ⟨_, rfl, _, _, _, [], _, [], hW', trodAll_mk1 (shut_bool Tryd.underlying4 _), (trodAll_cons_mk (Below.trod laidOut (by kernel_rfl) (of_decide_eq_true (by kernel_rfl)) k0 bel lt0) (trodAll_cons_mk (shut_string Tryd.underlying9 w1) (trodAll_cons_mk (shut_int Tryd.underlying3 w2) trodAll_mk0))), rfl, bel.frame _, fun h => by cases h⟩

/-! ### A world that fits -/
noncomputable def laidWorld (os : Os) : World := World.laidAll Tryd.prog os Rows.payloadBackRow.laid
theorem laid_met (os : Os) : laidMetH Tryd.prog Rows.payloadBackRow.laid ((laidWorld os).forCall (fun _ _ => 0) ⟨#[], #[.agg #[.int .i64 0, .slice none 0 0, .slice none 0 0], .string ByteArray.empty, .int .i64 0], []⟩).memory := by
  rw [MakeChecks.laidMetH_plain _ _ _ (by kernel_rfl)]
  exact laidMet_laidAll _ (by kernel_rfl) (by kernel_rfl)
theorem reads (os : Os) {H : Type} (enc : TypeId × Value → H) : ∃ places, DataW.whole enc Tryd.prog ((laidWorld os).forCall (fun _ _ => 0) ⟨#[], #[.agg #[.int .i64 0, .slice none 0 0, .slice none 0 0], .string ByteArray.empty, .int .i64 0], []⟩).memory Tryd.f5.params.toList Rows.payloadBackSpec.vars false #[.agg #[.int .i64 0, .slice none 0 0, .slice none 0 0], .string ByteArray.empty, .int .i64 0].toList 8 = some ([.agg [.lit (.int .i64 0), .nil, .nil], .lit (.string []), .lit (.int .i64 0)], [], places) :=
  ⟨[], by kernel_rfl⟩
theorem shaped (os : Os) : ((laidWorld os).forCall (fun _ _ => 0) ⟨#[], #[.agg #[.int .i64 0, .slice none 0 0, .slice none 0 0], .string ByteArray.empty, .int .i64 0], []⟩).Shaped Tryd.prog := World.shaped_of_ZipB (by kernel_rfl) (by kernel_rfl)
set_option maxRecDepth 100000 in
theorem lifted (os : Os) (started : os.Started) (H : Type) (enc : TypeId × Value → H) (F : Stop.Interp) :
    ReturnsInHanded {} Tryd.checked os 5 .any ((OpenSpec.ofChange Rows.payloadBackSpec).preRow enc Tryd.prog Tryd.f5 Rows.payloadBackRow.domain false Rows.payloadBackRow.laid) (((OpenSpec.ofChange Rows.payloadBackSpec).at F).post enc Tryd.prog Tryd.f5 false true false false) := by
  obtain ⟨places, hx⟩ := reads os enc
  refine returnsInHanded_of_row (C := Tryd.checked) (s := (OpenSpec.ofChange Rows.payloadBackSpec)) own started (by kernel_rfl) Tryd.func5
    ⟨laidWorld os, fun _ _ => 0, ⟨#[], #[.agg #[.int .i64 0, .slice none 0 0, .slice none 0 0], .string ByteArray.empty, .int .i64 0], []⟩, World.laidAll_os _ _ _, shaped os, rfl, (Input.okWide_of_okWideB (by kernel_rfl)).2,
      OpenSpec.preRow_of_cond 8 hx (by kernel_rfl) (fun k hk => by cases hk) (by kernel_rfl) (laid_met os), by simp [Assume.holds]⟩ ?_
  intro W base args ds gs before hval hW _ hk hz hL hsh _
  exact contract H enc W base args ds gs before hval hW  hz hL hsh
theorem said : Rows.PayloadBackSaid :=
  OpenClaim.holds_of_cond 5 Tryd.f5 rfl rfl rfl rfl rfl rfl rfl ⟨rfl, rfl, rfl, rfl, rfl⟩ rfl rfl rfl rfl rfl (by kernel_rfl) Tryd.func5 (by kernel_rfl)
    (of_decide_eq_true (by kernel_rfl)) (by unfold Func.isWrapper; first | (rw [if_pos (by decide +kernel)]; kernel_rfl) | (rw [if_neg (by decide +kernel)]; exact ⟨rfl, rfl⟩))
    (fun os started H enc _ F => by rw [OpenClaim.pre_eq_preRow]; exact lifted os started H enc F)
theorem plain (f : FuncId) (fn : Func) (hf : Tryd.pinned.checked.prog.funcNamed "lodestar/lodestarlaw05.PayloadBack" = some f) (hfn : Tryd.pinned.checked.prog.funcs[f]? = some fn) :
    false = Tryd.pinned.checked.prog.looks [] ∧ ∀ (j : Nat) t, fn.params[j]? = some t → Tryd.pinned.checked.prog.wantsStandIn t = false := by
  obtain rfl : f = 5 := Option.some.inj ((show Tryd.prog.funcNamed "lodestar/lodestarlaw05.PayloadBack" = some 5 by kernel_rfl).symm.trans hf) |>.symm
  obtain rfl : fn = Tryd.f5 := (Option.some.inj (Tryd.func5.symm.trans hfn)).symm
  refine ⟨by kernel_rfl, fun j t ht => ?_⟩
  rw [Tryd.params5] at ht
  have hm : t ∈ [29, 9, 3] := by simpa using Array.mem_of_getElem? ht
  have hall : ([29, 9, 3].all fun u => !Tryd.prog.wantsStandIn u) = true := by kernel_rfl
  exact (show Tryd.prog.wantsStandIn t = false by simpa using List.all_eq_true.1 hall t hm)

/-- The statement. -/
theorem proved : Rows.PayloadBackCardSaid :=
  Claim7.holds_tied_plain_at .later [] _ _ _ _ said (fun _ h => by cases h) (by kernel_rfl) (fun _ h => by cases h) payloadBack_row_tie rfl ⟨rfl, rfl⟩ (by kernel_rfl) rfl plain (by kernel_rfl)
#print axioms proved
end Go.Proofs.YtokjmgkoifakdaaDoor.payloadBack
