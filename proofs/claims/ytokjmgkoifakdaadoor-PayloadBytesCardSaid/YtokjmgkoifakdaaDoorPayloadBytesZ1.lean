/- For any point and any bytes the law PayloadBytes of the document's chapter 5 returns true over the program's own Encode and Decode and the document's own answers: the bytes of the point, or the error, and the point with which the bytes begin, how many it has, or the error, are those that the document says. Conditions: the listed package-level variables read as the program lays them; each string and each row takes no more than the form's reach. -/
import Derived.Test.YtokjmgkoifakdaaDoorPayloadBackZ2
import Derived.OwnWalk
import Derived.Deep.RegionHeld3
import Derived.Deep.QuietTactic
import Derived.OrdersHeld
import Derived.Deep.RegionHeld
import Derived.Test.YtokjmgkoifakdaaDoorCards
import Derived.Test.YtokjmgkoifakdaaDoorTie
import Derived.WalkKit
import Derived.ProofKit
import Derived.OpenShut
import Derived.ShutString
import Derived.ChangeOld
import Derived.Below
import Derived.SizedLaws
import Derived.JoinedCond
import Derived.Deep.DeepHandedRow
import Derived.Lay
import Derived.SevenTiedAt
namespace Go.Proofs.YtokjmgkoifakdaaDoor
set_option linter.unusedVariables false
open Go Go.RowKit Go.Shelf Pl
theorem dec_back (a : Pt) (hm : ptMay a = true) (S more : ByteArray) (hS : S.data.toList = bPt a) (W : World) (G : Gp W) (hs : (S ++ more).size ≤ 281474976710656) :
    Calls Tryd.prog 20 #[.string (S ++ more)] W (DecYes W a (S.size : Int)) := by
  have hp : ptR (S ++ more).data.toList = (a, ⟨more.data.toList, false⟩) := by rw [app_list, hS]; exact ptR_back a hm _
  refine (decode_any (S ++ more) W G hs).mono ?_
  intro e w' h
  have e1 : ptOf (S ++ more) = a := by unfold ptOf; rw [hp]
  have e2 : leftOf (S ++ more) = ⟨more.data.toList, false⟩ := by unfold leftOf; rw [hp]
  rcases h with ⟨h, _⟩ | ⟨_, _, h⟩
  · rw [e1, e2, hm] at h
    rcases h with h | h <;> cases h
  · rw [e1, e2] at h
    have e3 : (S ++ more).size - (⟨more.data.toList, false⟩ : Rs).rest.length = S.size := by
      show (S ++ more).size - more.data.toList.length = _
      rw [ln, ByteArray.size_append]; omega
    rw [e3] at h
    exact h
theorem dec_cut (a : Pt) (hm : ptMay a = true) (S : ByteArray) (hS : S.data.toList = bPt a) (c : Nat) (hc : c < S.size) (W : World) (G : Gp W) (hs : S.size ≤ 281474976710656) :
    Calls Tryd.prog 20 #[.string (S.extract 0 c)] W (DecNo W) := by
  have hl : (S.extract 0 c).data.toList = (bPt a).take c := by rw [ext_any, hS]; simp
  refine (decode_any (S.extract 0 c) W G (by rw [ByteArray.size_extract]; omega)).mono ?_
  intro e w' h
  have e2 : (leftOf (S.extract 0 c)).short = true := by unfold leftOf; rw [hl]; exact ptR_cut a hm c (by rw [← hS, ln]; exact hc)
  rcases h with ⟨_, h⟩ | ⟨h, _⟩
  · exact h
  · rw [e2] at h; cases h
theorem may_in (W : World) (p : Value) (a : Pt) (h : PtIn W p a) :
    Calls Tryd.prog 22 #[p] W fun e w' => e = .returned (.bool (ptMay a)) ∧ Below W.heap.size W w' := by
  obtain ⟨u, x, rfl, h1, h2, h3, h4⟩ := h
  exact rmay_any a.id u x a.vecs a.flds W h1 h2 h3 h4
theorem same_one (W : World) (p q : Value) (a b : Pt) (g : Bool) (hg : isB (a = b) = g) (h : PtIn W p a) (k : PtIn W q b) :
    Calls Tryd.prog 16 #[p, q] W fun e w' => e = .returned (.bool g) ∧ Below W.heap.size W w' := by
  obtain ⟨u, x, rfl, h1, h2, h3, h4⟩ := h
  obtain ⟨v, y, rfl, k1, k2, k3, k4⟩ := k
  rw [← hg]
  exact rsame_any a b u v x y W h1 k1 h2 k2 h3 k3 h4 k4
def nPt : Pt := ⟨0, [], []⟩
theorem ptIn_none (W : World) : PtIn W (.agg #[.int .i64 0, .slice none 0 0, .slice none 0 0]) nPt :=
  ⟨_, _, rfl, .inl ⟨rfl, _, _, rfl⟩, .inl ⟨rfl, _, _, rfl⟩, ⟨Nat.zero_le _, fun x hx => by cases hx⟩, ⟨Nat.zero_le _, fun x hx => by cases hx⟩⟩
theorem wrI' {x y : Int} (h : x = y) (h2 : -9223372036854775808 ≤ y ∧ y ≤ 9223372036854775807) : wrap64 x = y := by subst h; unfold wrap64; omega
theorem cut_of (S : Nat) (cut : Int) (h0 : 1 ≤ S) (hS : S ≤ 20971520) : ∃ (d d2 : Int) (c : Nat), cut.tmod (S : Int) = d ∧ wrap64 (d + (S : Int)) = d2 ∧ d2.tmod (S : Int) = (c : Int) ∧ c < S := by
  have hp : (0 : Int) < (S : Int) := by omega
  have h1 : -((S : Int)) ≤ cut.tmod (S : Int) ∧ cut.tmod (S : Int) ≤ (S : Int) := by
    rcases Int.le_total 0 cut with h | h
    · have a := Int.tmod_nonneg (S : Int) h
      have b := Int.tmod_lt_of_pos cut hp
      omega
    · have a := Int.tmod_nonneg (S : Int) (a := -cut) (by omega)
      have b := Int.tmod_lt_of_pos (-cut) hp
      rw [Int.neg_tmod] at a b
      omega
  generalize cut.tmod (S : Int) = d at h1
  have a := Int.tmod_nonneg (S : Int) (a := d + S) (by omega)
  have b := Int.tmod_lt_of_pos (d + S) hp
  obtain ⟨c, hc⟩ : ∃ c : Nat, (d + S).tmod (S : Int) = (c : Int) := ⟨((d + S).tmod (S : Int)).toNat, by omega⟩
  exact ⟨d, d + S, c, rfl, wrI' rfl (by omega), hc, by omega⟩
theorem bPt_len {a : Pt} (h : ptMay a = true) : 1 ≤ (bPt a).length ∧ (bPt a).length ≤ 8000 := by
  have h2 := preF_len (ptIs h) a.flds.length
  rw [preF_all] at h2
  refine ⟨?_, h2⟩
  unfold bPt
  simp only [List.length_append, fixL_length]
  omega
set_option maxHeartbeats 8000000 in
set_option maxRecDepth 100000 in
theorem back_walk (a : Pt) (u x : Value) (more : ByteArray) (cut : Int) (w : World) (G : Gp w) (ha : PtIn w (.agg #[.int .i64 a.id, u, x]) a) (hmore : more.size ≤ 140737488351232) :
    Calls Tryd.prog 5 #[.agg #[.int .i64 a.id, u, x], .string more, .int .i64 cut] w fun e w' => e = .returned (.bool true) ∧ Below w.heap.size w w' := by
  obtain ⟨u, x, e0, k1, k2, k3, k4⟩ := ha
  injection e0 with e0
  have e0' : [Value.int .i64 a.id, _, _] = [Value.int .i64 a.id, u, x] := congrArg Array.toList e0
  simp only [List.cons.injEq, and_true, true_and] at e0'
  obtain ⟨rfl, rfl⟩ := e0'
  have hpt : PtIn w (.agg #[.int .i64 a.id, u, x]) a := ⟨u, x, rfl, k1, k2, k3, k4⟩
  obtain ⟨pv, cv, rfl⟩ := k1.form
  obtain ⟨pf, cf, rfl⟩ := k2.form
  clear k1 k2 k3 k4 e0
  obtain ⟨nv, hnv⟩ : ∃ n, n = a.vecs.length := ⟨_, rfl⟩
  obtain ⟨nf, hnf⟩ : ∃ n, n = a.flds.length := ⟨_, rfl⟩
  rw [← hnv, ← hnf] at hpt ⊢
  clear hnv hnf
  obtain ⟨i, hi⟩ : ∃ i, i = a.id := ⟨_, rfl⟩
  rw [← hi] at hpt ⊢
  obtain ⟨d0, d1, d2⟩ := cells3 w (.int .i64 i) (.slice pv nv cv) (.slice pf nf cf) 29
  have HB := Lib.hid (fresh_alloc w (.cells #[.int .i64 i, .slice pv nv cv, .slice pf nf cf] 29))
  have HZ : Hid ((w.alloc (.cells #[.int .i64 i, .slice pv nv cv, .slice pf nf cf] 29)).heap[w.heap.size]? = some (.cells #[.int .i64 i, .slice pv nv cv, .slice pf nf cf] 29 (0, 0))) := Lib.hid (heap_last w _)
  have HS : Hid (w.heap.size < (w.alloc (.cells #[.int .i64 i, .slice pv nv cv, .slice pf nf cf] 29)).heap.size) := Lib.hid (by simp)
  have HPT := Lib.hid (hpt.below HB.out)
  have HE := Lib.hid (enc_in _ (G.fresh HB.out) _ a HPT.out)
  have HG := Lib.hid (fun W (h : Below w.heap.size w W) => G.fresh h)
  have HW := Lib.hid (fun W (h : Below w.heap.size w W) => awake_yes W (G.fresh h))
  clear G hpt hi
  go_enter Tryd.func5, Tryd.ntmps5
  go_wp2_with fail
  generalize w.alloc (.cells #[.int .i64 i, .slice pv nv cv, .slice pf nf cf] 29) = W0 at *
  cases hm : ptMay a with
  | false =>
    have he : EncV a = .tuple #[.string ⟨#[]⟩, .int .i64 120] := by unfold EncV; rw [hm]; rfl
    rw [he] at HE
    have HM := Lib.hid hm
    clear he hm
    refine HE.out.mono ?_
    rintro e w1 ⟨rfl, b1⟩
    have HQ1 := Lib.hid b1
    have HB1 := Lib.hid (HB.out.trans (b1.mono HB.out.size))
    have HP1 := Lib.hid (HPT.out.below b1)
    obtain ⟨c0, c1, c2⟩ := cells3_of ((b1.block _ HS.out).trans HZ.out)
    have HY := Lib.hid (may_in w1 _ a HP1.out)
    rw [HM.out] at HY
    clear b1 d0 d1 d2
    go_wp2_with fail
    refine HY.out.mono ?_
    rintro e w2 ⟨rfl, b2⟩
    have HB2 := Lib.hid (HB1.out.trans (b2.mono HB1.out.size))
    clear b2
    go_wp2_with fail
    refine (HW.out _ HB2.out).mono ?_
    rintro e w3 ⟨rfl, b3⟩
    have HB3 := Lib.hid (HB2.out.trans (b3.mono HB2.out.size))
    clear b3
    go_wp2_with fail
    go_ret
    exact ⟨rfl, HB3.out⟩
  | true =>
    obtain ⟨S, hS⟩ : ∃ S : ByteArray, S = ⟨(bPt a).toArray⟩ := ⟨_, rfl⟩
    have hSl : S.data.toList = bPt a := by rw [hS]
    have he : EncV a = .tuple #[.string S, .int .i64 0] := by unfold EncV; rw [hm, hS]; rfl
    rw [he] at HE
    have hb := bPt_len hm
    have hSz : S.size = (bPt a).length := by rw [← ln, hSl]
    have hne : S.toList.isEmpty = false := by
      rw [Go.ByteArray.toList_eq, List.isEmpty_eq_false_iff, hSl]
      intro c; rw [c] at hb; simp at hb
    obtain ⟨d, d2', c, q1, q2, q3, q4⟩ := cut_of S.size cut (by omega) (by omega)
    have HD1 := Lib.hid (fun W (h : Below w.heap.size w W) => dec_back a hm S more hSl W (HG.out W h) (by rw [ByteArray.size_append]; omega))
    have HD2 := Lib.hid (fun W (h : Below w.heap.size w W) => dec_cut a hm S hSl c q4 W (HG.out W h) (by omega))
    have hcat : S.size + more.size ≤ 9223372036854775807 := by omega
    have HSS : Hid (1 ≤ S.size ∧ S.size ≤ 8000) := Lib.hid (by omega)
    obtain ⟨n, hn⟩ : ∃ n : Nat, n = S.size := ⟨_, rfl⟩
    have hn0 : ((S.size : Int) == 0) = false := beq_eq_false_iff_ne.2 (by omega)
    have hn1 : ¬ S.size = 0 := by omega
    have hn2 : ¬ (S.size : Int) = 0 := by omega
    have hc0 : (0 : Int) ≤ (c : Int) := by omega
    have hc1 : (c : Int) ≤ (S.size : Int) := by omega
    clear he hm hb hSz hS hSl q4 HG hn
    refine HE.out.mono ?_
    rintro e w1 ⟨rfl, b1⟩
    have HQ1 := Lib.hid b1
    have HB1 := Lib.hid (HB.out.trans (b1.mono HB.out.size))
    have HP1 := Lib.hid (HPT.out.below b1)
    have HZ1 := Lib.hid ((b1.block _ HS.out).trans HZ.out)
    have HS1 := Lib.hid (Nat.lt_of_lt_of_le HS.out b1.size)
    clear b1 d0 d1 d2 HE
    go_wp2_with fail
    refine (HD1.out _ HB1.out).mono ?_
    rintro e w2 ⟨u2, f2, rfl, v2, g2, o2, p2, b2⟩
    have HPX : Hid (PtIn w2 (.agg #[.int .i64 a.id, u2, f2]) a) := Lib.hid ⟨_, _, rfl, v2, g2, o2, p2⟩
    obtain ⟨pu, cu, rfl⟩ := v2.form
    obtain ⟨pg, cg, rfl⟩ := g2.form
    have HB2 := Lib.hid (HB1.out.trans (b2.mono HB1.out.size))
    have HP2 := Lib.hid (HP1.out.below b2)
    have HZ2 := Lib.hid ((b2.block _ HS1.out).trans HZ1.out)
    have HS2 := Lib.hid (Nat.lt_of_lt_of_le HS1.out b2.size)
    clear b2 v2 g2 o2 p2
    generalize a.vecs.length = mv at *
    generalize a.flds.length = mf at *
    generalize a.id = ai at *
    go_wp2_with fail
    have HB3 := Lib.hid (HB2.out.alloc HB2.out.size (.cells #[.int .i64 ai, .slice pu mv cu, .slice pg mf cg] 29))
    have HX3 : Hid ((w2.alloc (.cells #[.int .i64 ai, .slice pu mv cu, .slice pg mf cg] 29)).heap[w2.heap.size]? = some (.cells #[.int .i64 ai, .slice pu mv cu, .slice pg mf cg] 29 (0, 0))) := Lib.hid (heap_last w2 _)
    have HQ3 : Hid (Below w2.heap.size w2 (w2.alloc (.cells #[.int .i64 ai, .slice pu mv cu, .slice pg mf cg] 29))) := Lib.hid (fresh_alloc w2 _)
    have HL3 : Hid (w2.heap.size < (w2.alloc (.cells #[.int .i64 ai, .slice pu mv cu, .slice pg mf cg] 29)).heap.size) := Lib.hid (by simp)
    generalize w2.alloc (.cells #[.int .i64 ai, .slice pu mv cu, .slice pg mf cg] 29) = w3 at *
    refine (HD2.out _ HB3.out).mono ?_
    rintro e w4 ⟨rfl, b4⟩
    have HQ4 := Lib.hid (HQ3.out.trans (b4.mono HQ3.out.size))
    have HB4 := Lib.hid (HB3.out.trans (b4.mono HB3.out.size))
    have HX4 := Lib.hid ((b4.block _ HL3.out).trans HX3.out)
    have HZ4 := Lib.hid ((HQ4.out.block _ HS2.out).trans HZ2.out)
    have HL4 := Lib.hid (Nat.lt_of_lt_of_le HL3.out b4.size)
    have HS4 := Lib.hid (Nat.lt_of_lt_of_le HS2.out HQ4.out.size)
    clear b4
    have HQ5 := Lib.hid (fresh_alloc w4 (.cells #[.int .i64 0, .slice none 0 0, .slice none 0 0] 29))
    have HX5 := Lib.hid ((HQ5.out.block _ HL4.out).trans HX4.out)
    have HZ5 := Lib.hid ((HQ5.out.block _ HS4.out).trans HZ4.out)
    have HY5 : Hid ((w4.alloc (.cells #[.int .i64 0, .slice none 0 0, .slice none 0 0] 29)).heap[w4.heap.size]? = some (.cells #[.int .i64 0, .slice none 0 0, .slice none 0 0] 29 (0, 0))) := Lib.hid (heap_last w4 _)
    have HL5 : Hid (w4.heap.size < (w4.alloc (.cells #[.int .i64 0, .slice none 0 0, .slice none 0 0] 29)).heap.size) := Lib.hid (by simp)
    have HB5 := Lib.hid (HB4.out.trans (HQ5.out.mono HB4.out.size))
    have HQ25 := Lib.hid (HQ4.out.trans (HQ5.out.mono HQ4.out.size))
    have HPX5 := Lib.hid (HPX.out.below HQ25.out)
    have HP5 := Lib.hid (HP2.out.below HQ25.out)
    have HSM := Lib.hid (same_one _ _ _ a a true (isB_yes rfl) HPX5.out HP5.out)
    obtain ⟨x0, x1, x2⟩ := cells3_of HX5.out
    obtain ⟨z0, z1, z2⟩ := cells3_of HZ5.out
    have HNS := Lib.hid (fun W => same_one W _ _ nPt nPt true (isB_yes rfl) (ptIn_none W) (ptIn_none W))
    go_wp2_with fail
    refine HSM.out.mono ?_
    rintro e w6 ⟨rfl, b6⟩
    have HB6 := Lib.hid (HB5.out.trans (b6.mono HB5.out.size))
    obtain ⟨y0, y1, y2⟩ := cells3_of ((b6.block _ HL5.out).trans HY5.out)
    clear b6 x0 x1 x2 z0 z1 z2
    go_wp2_with fail
    refine (HNS.out _).mono ?_
    rintro e w7 ⟨rfl, b7⟩
    have HB7 := Lib.hid (HB6.out.trans (b7.mono HB6.out.size))
    clear b7 y0 y1 y2
    go_wp2_with fail
    refine (HW.out _ HB7.out).mono ?_
    rintro e w8 ⟨rfl, b8⟩
    have HB8 := Lib.hid (HB7.out.trans (b8.mono HB7.out.size))
    clear b8
    go_wp2_with fail
    go_ret
    exact ⟨rfl, HB8.out⟩
end Go.Proofs.YtokjmgkoifakdaaDoor
namespace Go.Proofs.YtokjmgkoifakdaaDoor
open Go.RowKit
set_option maxHeartbeats 400000 in
theorem unfixRef_wrong (s : ByteArray) (w : World) (h : s.size < 1 ∨ 8 < s.size) (hs : s.size ≤ maxLen) :
    Calls Tryd.prog 114 #[.string s] w fun e w' => e = .returned (.tuple #[.int .u64 0, .int .i64 11]) ∧ w = w' := by
  unfold maxLen at hs
  go_enter Tryd.func114, Tryd.ntmps114
  go_wp2
  all_goals go_ret2
  all_goals exact ⟨rfl, rfl⟩
theorem unfL_le7 (l : List UInt8) (h : l.length ≤ 7) : unfL l ≤ 72057594037927935 := by
  have h1 := unfL_lt l
  have h2 : 256 ^ l.length ≤ 256 ^ 7 := Nat.pow_le_pow_right (by decide) h
  have h3 : (256 : Nat) ^ 7 = 72057594037927936 := by decide
  omega
set_option maxHeartbeats 400000 in
theorem unfixRef_any (s : ByteArray) (w : World) (h : 1 ≤ s.size) (h' : s.size ≤ 8) :
    Calls Tryd.prog 114 #[.string s] w fun e w' => e = .returned (.tuple #[.int .u64 (unfL s.data.toList), .int .i64 0]) ∧ w = w' := by
  go_enter Tryd.func114, Tryd.ntmps114
  go_wp2
  go_loop [4, 5] (fun c i => ∃ j : Nat, j ≤ s.size ∧ i = .int .i64 ((j : Int) - 1) ∧ c = .int .u64 (unfL (s.data.toList.drop j))) (fun _ i => (intOf i + 1).toNat)
  case atStart => exact ⟨s.size, Nat.le_refl _, rfl, by rw [List.drop_of_length_le (by simp)]; rfl⟩
  case round =>
    obtain ⟨j, hj, rfl, rfl⟩ := hrel
    match j, hj with
    | 0, hj =>
      go_wp2
      go_ret2
      exact ⟨rfl, rfl⟩
    | k + 1, hj =>
      have ek : ((k + 1 : Nat) : Int) - 1 = (k : Int) := by omega
      rw [ek]
      have hlt : k < s.size := hj
      have hb : IntKind.u64.wrap ((s[k]'hlt).toNat : Int) = (byN s k : Int) := by rw [byN_get s k hlt]; have := byN_lt s k; exact IntWalk.u64_in _ (by omega)
      have hb2 := byN_lt s k
      have hu := unfL_le7 (s.data.toList.drop (k + 1)) (by simp; omega)
      have hd : unfL (s.data.toList.drop k) = byN s k + 256 * unfL (s.data.toList.drop (k + 1)) := by
        have e : s.data.toList.drop k = s[k] :: s.data.toList.drop (k + 1) := by
          rw [List.drop_eq_getElem_cons (by simpa using hlt)]; rfl
        have e2 : (s[k]'hlt).toNat = byN s k := by unfold byN; rw [dif_pos hlt]
        rw [e]; simp only [unfL, e2]
      have HD := Lib.hid hd
      clear hd ek
      go_wp2
      go_round
      case rel => exact ⟨k, by omega, by first | rfl | go_num, by rw [HD.out]; congr 1; omega⟩
      case measure => simp [intOf]
theorem fixL_snoc : ∀ k n, fixL (k + 1) n = fixL k n ++ [UInt8.ofNat (n / 256 ^ k % 256)]
  | 0, n => by simp [fixL]
  | k + 1, n => by
    rw [show fixL (k + 1 + 1) n = UInt8.ofNat (n % 256) :: fixL (k + 1) (n / 256) from rfl, fixL_snoc k (n / 256), Nat.div_div_eq_div_mul, Nat.pow_succ, Nat.mul_comm 256]
    rfl
theorem Tryd.infoU8 : (Tryd.prog.info? 5).map (fun i => (i.zero, i.size, i.bytes)) = some (some (.int .u8 0), 1, 1) := by kernel_rfl
def u8s (l : List UInt8) : List Value := l.map fun c => Value.int .u8 (c.toNat : Int)
theorem conv_own {w : World} {B : Nat} {v : Value} {l : List UInt8} (h : w.ownsRow B 5 1 v l.length (u8s l)) (hl : 1 ≤ l.length) :
    ∃ g cap, v = .slice (some ⟨g, 0, none⟩) l.length cap ∧ B ≤ g ∧ (convert 74 9 (.slice (some ⟨g, 0, none⟩) l.length cap)).run Tryd.prog w = .ok (.string ⟨l.toArray⟩) w := by
  obtain ⟨_, h | ⟨g, cap, cur, rfl, hg, hrow, hn, _, hsz, htk⟩⟩ := h
  · omega
  · refine ⟨g, cap, rfl, hg, run_convert_bytes_back (P := Tryd.prog) w _ _ 5 _ _ l Tryd.underlying74 Tryd.underlying5 Tryd.underlying9 fun j hj => ?_⟩
    have ha : (⟨g, 0, none⟩ : Addr).add j = ⟨g, j, none⟩ := by unfold Addr.add; split <;> simp_all
    rw [ha, cell_of_row _ _ _ _ _ _ hrow]
    have h1 : (cur.toList.take (l.length * 1))[j]? = (u8s l)[j]? := by rw [htk]
    rw [List.getElem?_take_of_lt (by omega)] at h1
    simp [u8s, hj] at h1
    exact h1
set_option maxHeartbeats 400000 in
theorem fixRef_wrong (N : Nat) (k : Int) (w : World) (h : k < 1 ∨ 8 < k) :
    Calls Tryd.prog 135 #[.int .u64 (N : Int), .int .i64 k] w fun e w' => e = .returned (.tuple #[.string ⟨#[]⟩, .int .i64 11]) ∧ Below w.heap.size w w' := by
  go_enter Tryd.func135, Tryd.ntmps135
  go_wp2
  all_goals go_ret2
  all_goals exact ⟨rfl, Below.refl _ _⟩
set_option maxHeartbeats 800000 in
set_option maxRecDepth 100000 in
theorem fixRef_any (N K : Nat) (w : World) (h : 1 ≤ K) (h' : K ≤ 8) (hN : N < 18446744073709551616) (R : Value) (hR : Hid (R = if N < 256 ^ K then .tuple #[.string ⟨(fixL K N).toArray⟩, .int .i64 0] else .tuple #[.string ⟨#[]⟩, .int .i64 11])) :
    Calls Tryd.prog 135 #[.int .u64 (N : Int), .int .i64 (K : Int)] w fun e w' =>
      e = .returned R ∧ Below w.heap.size w w' := by
  obtain ⟨i0, hi, hz0, hz1, hz2⟩ := info_parts Tryd.infoU8
  go_enter Tryd.func135, Tryd.ntmps135
  go_wp2
  go_loopw [0, 6, 7] (fun n v i wr => ∃ k : Nat, k ≤ K ∧ i = .int .i64 k ∧ n = .int .u64 ((N / 256 ^ k : Nat) : Int) ∧ wr.ownsRow w.heap.size 5 1 v k (u8s (fixL k N)) ∧ Below w.heap.size w wr) (fun _ _ i _ => K - (intOf i).toNat)
  case atStart => exact ⟨0, Nat.zero_le _, rfl, by simp, World.ownsRow_nil _ _ _ _, Below.refl _ _⟩
  case round =>
    obtain ⟨k, hk, rfl, rfl, hown, hbel⟩ := hrel
    by_cases hlt : k < K
    · obtain ⟨n, hn⟩ : ∃ n, n = N / 256 ^ k := ⟨_, rfl⟩
      have hn' : n ≤ 18446744073709551615 := by rw [hn]; have := Nat.div_le_self N (256 ^ k); omega
      have hs := Lib.hid hn
      rw [← hn]
      clear hn
      go_wp2_with (at_builtin; refine wpList_append_own _ rfl _ _ 74 rfl w.heap.size 5 i0 (.int .u8 0) 1 1 Tryd.underlying74 hi hz0 hz1 hz2 rfl (by decide) _ _ _ rfl (hown.alloc _) ⟨wr.heap.size, 0, none⟩ 1 1 [.int .u8 ((n : Int) % 256)] rfl rfl ?c1 ?c2 ?c3 ?c4 ?c5 ?_)
      case c1 =>
        intro j u hj
        match j, hj with
        | 0, hj => simp at hj; subst hj; simp [Addr.add]
      case c2 => intro u hu; simp at hu; subst hu; rfl
      case c3 => unfold maxLen; omega
      case c4 => omega
      case c5 => have := hbel.size; simp; omega
      · intro v' w1 hown' hgrow _
        have ho2 : w1.ownsRow w.heap.size 5 1 v' (k + 1) (u8s (fixL (k + 1) N)) := by
          rw [fixL_snoc, ← hs.out]
          have e : u8s (fixL k N ++ [UInt8.ofNat (n % 256)]) = u8s (fixL k N) ++ [.int .u8 ((n : Int) % 256)] := by
            simp only [u8s, List.map_append, List.map_cons, List.map_nil, UInt8.toNat_ofNat']; congr 3; omega
          rw [e]; exact hown'
        have hb2 : Below w.heap.size w w1 := by
          refine (hbel.alloc hbel.size _).grown hgrow (by have := hbel.size; simp; omega) fun k hk => ?_
          obtain ⟨_, h | ⟨g, cap, cur, rfl, hg, _⟩⟩ := hown
          · rw [h.1] at hk; cases hk
          · simp [Value.ownBlock] at hk; omega
        have HO := Lib.hid ho2
        have HB := Lib.hid hb2
        clear hown' hgrow hown hbel ho2 hb2
        go_wp2
        go_roundw
        case rel => exact ⟨k + 1, by omega, by go_num, by rw [Nat.pow_succ, ← Nat.div_div_eq_div_mul, ← hs.out]; rfl, HO.out, HB.out⟩
        case measure => simp [intOf]; omega
    · obtain rfl : k = K := by omega
      obtain ⟨g, cap, rfl, hg, hcv⟩ := conv_own (l := fixL k N) (by rw [fixL_length]; exact hown) (by rw [fixL_length]; exact h)
      rw [fixL_length] at hcv ⊢
      by_cases hf : N < 256 ^ k
      · have hz : N / 256 ^ k = 0 := Nat.div_eq_of_lt hf
        rw [hz]
        clear hz
        go_wp2
        go_ret2
        exact ⟨by rw [hR.out, if_pos hf]; rfl, hbel⟩
      · have hz : 0 < N / 256 ^ k := Nat.div_pos (by omega) (Nat.pow_pos (by decide))
        have HF := Lib.hid hf
        obtain ⟨n, hn⟩ : ∃ n, n = N / 256 ^ k := ⟨_, rfl⟩
        rw [← hn] at hz ⊢
        clear hn hf
        go_wp2
        go_ret2
        exact ⟨by rw [hR.out, if_neg HF.out]; rfl, hbel⟩
end Go.Proofs.YtokjmgkoifakdaaDoor
namespace Go.Proofs.YtokjmgkoifakdaaDoor
set_option linter.unusedVariables false
open Go Go.RowKit Go.Shelf Pl
/-- r holds z in k bytes. -/
def FixA (z k : Int) (r : ByteArray) : Prop := ∃ (N K : Nat), z = N ∧ k = K ∧ 1 ≤ K ∧ K ≤ 8 ∧ N < 256 ^ K ∧ N < 18446744073709551616 ∧ r = ⟨(fixL K N).toArray⟩
theorem FixA.size {z k : Int} {r : ByteArray} (h : FixA z k r) : r.size ≤ 8 := by
  obtain ⟨N, K, _, _, h1, h2, _, _, rfl⟩ := h
  show (fixL K N).toArray.size ≤ 8
  simp [fixL_length]; omega
theorem FixA.list {N K : Nat} {r : ByteArray} (h : FixA (N : Int) (K : Int) r) : r.data.toList = fixL K N := by
  obtain ⟨N', K', e1, e2, _, _, _, _, rfl⟩ := h
  obtain rfl : N = N' := by omega
  obtain rfl : K = K' := by omega
  simp
theorem fixA_new (N K : Nat) (h1 : 1 ≤ K) (h2 : K ≤ 8) (h3 : N < 256 ^ K) (k : Int) (hk : (K : Int) = k) : ∃ r, FixA (N : Int) k r ∧ r.data.toList = fixL K N ∧ r.size = K := by
  have h4 : 256 ^ K ≤ 256 ^ 8 := Nat.pow_le_pow_right (by omega) h2
  refine ⟨⟨(fixL K N).toArray⟩, ⟨N, K, rfl, hk.symm, h1, h2, h3, by omega, rfl⟩, by simp, ?_⟩
  show (fixL K N).toArray.size = K
  simp [fixL_length]
set_option maxHeartbeats 1000000 in
theorem rfixed_any (z k : Int) (r : ByteArray) (h : FixA z k r) (w : World) :
    Calls Tryd.prog 107 #[.int .u64 z, .int .i64 k] w fun e w' => e = .returned (.string r) ∧ Below w.heap.size w w' := by
  obtain ⟨N, K, rfl, rfl, h1, h2, h3, h4, rfl⟩ := h
  have CF := Lib.hid (fixRef_any N K w h1 h2 h4 (.tuple #[.string ⟨(fixL K N).toArray⟩, .int .i64 0]) (Lib.hid (by rw [if_pos h3])))
  generalize (⟨(fixL K N).toArray⟩ : ByteArray) = r at *
  clear h1 h2 h3 h4
  go_enter Tryd.func107, Tryd.ntmps107
  go_wp2_with fail
  refine CF.out.mono ?_
  rintro e w2 ⟨rfl, hb⟩
  have HB := Lib.hid hb
  clear hb
  go_wp2_with fail
  go_ret
  exact ⟨rfl, HB.out⟩
set_option maxHeartbeats 1000000 in
theorem rfix_any (z k : Int) (r : ByteArray) (h : FixA z k r) (w : World) :
    Calls Tryd.prog 60 #[.int .u64 z, .int .i64 k] w fun e w' => e = .returned (.string r) ∧ Below w.heap.size w w' := by
  have CF := Lib.hid (rfixed_any z k r h w)
  clear h
  go_enter Tryd.func60, Tryd.ntmps60
  go_wp2_with fail
  refine CF.out.mono ?_
  rintro e w2 ⟨rfl, hb⟩
  have HB := Lib.hid hb
  clear hb
  go_wp2_with fail
  go_ret
  exact ⟨rfl, HB.out⟩
theorem u64_nat {n : Nat} (h : n < 18446744073709551616) : IntKind.u64.wrap (n : Int) = (n : Int) := by
  unfold IntKind.wrap; simp [IntKind.bits, IntKind.signed]; omega
end Go.Proofs.YtokjmgkoifakdaaDoor
namespace Go.Proofs.YtokjmgkoifakdaaDoor
set_option linter.unusedVariables false
open Go Go.RowKit Go.Shelf Pl
def headV (x : Vec) : List UInt8 := fixL 1 x.name.size ++ x.name.data.toList ++ fixL 1 x.v.length
set_option maxHeartbeats 8000000 in
set_option maxRecDepth 100000 in
theorem renc_yes (q : Nat) (vv fv : Value) (V : List Vec) (F : List Fld) (w : World) (hv : VecsAt w vv V) (hf : FldsAt w fv F) (kv : VecsOk V) (kf : FldsOk F) (hm : ptMay ⟨q, V, F⟩ = true) :
    Calls Tryd.prog 19 #[.agg #[.int .i64 q, vv, fv]] w fun e w' => e = .returned (.tuple #[.string ⟨(bPt ⟨q, V, F⟩).toArray⟩, .int .i64 0]) ∧ Below w.heap.size w w' := by
  have hp := ptIs hm
  have HP := Lib.hid hp
  have HMY := Lib.hid (fun W (g : Below w.heap.size w W) => rmay_any q vv fv V F W (hv.below g) (hf.below g) kv kf)
  rw [hm] at HMY
  have HV := Lib.hid hv
  have HF := Lib.hid hf
  obtain ⟨pv, cv, rfl⟩ := hv.form
  obtain ⟨pf, cf, rfl⟩ := hf.form
  obtain ⟨R, hR⟩ : ∃ R : ByteArray, R = ⟨(bPt ⟨q, V, F⟩).toArray⟩ := ⟨_, rfl⟩
  have HR : Hid (R.data.toList = bPt ⟨q, V, F⟩) := Lib.hid (by rw [hR])
  rw [← hR]
  obtain ⟨nv, hnv⟩ : ∃ n, n = V.length := ⟨_, rfl⟩
  obtain ⟨nf, hnf⟩ : ∃ n, n = F.length := ⟨_, rfl⟩
  have hi1 := hp.id1
  have hi2 := hp.id2
  unfold maxId at hi2
  have hn1 := hp.nv
  have hn2 := hp.nf
  simp only at hi1 hi2 hn1 hn2
  rw [← hnv] at hn1
  rw [← hnf] at hn2
  rw [← hnv] at HV HMY ⊢
  rw [← hnf] at HF HMY ⊢
  have NV := Lib.hid hnv
  have NF := Lib.hid hnf
  have HN1 := Lib.hid hn1
  have HN2 := Lib.hid hn2
  obtain ⟨r8, f8, l8, s8⟩ := fixA_new q 8 (by omega) (by omega) (by omega) 8 rfl
  obtain ⟨rn, fn, lnn, sn⟩ := fixA_new nv 1 (by omega) (by omega) (by omega) 1 rfl
  obtain ⟨rm, fm, lm, sm⟩ := fixA_new nf 1 (by omega) (by omega) (by omega) 1 rfl
  have L8 := Lib.hid l8
  have LN := Lib.hid lnn
  have LM := Lib.hid lm
  have FM := Lib.hid fm
  have S8 := Lib.hid s8
  have SN := Lib.hid sn
  have SM := Lib.hid sm
  have wq : IntKind.u64.wrap (q : Int) = (q : Int) := u64_nat (by omega)
  have wn : IntKind.u64.wrap (nv : Int) = (nv : Int) := u64_nat (by omega)
  have WM : Hid (IntKind.u64.wrap (nf : Int) = (nf : Int)) := Lib.hid (u64_nat (by omega))
  have CF : Hid (∀ (z k : Int) (r : ByteArray) (h : FixA z k r) (W : World), Calls Tryd.prog 60 #[.int .u64 z, .int .i64 k] W fun e w' => e = .returned (.string r) ∧ Below W.heap.size W w') := Lib.hid rfix_any
  have hcat : ¬ 9223372036854775807 < r8.size + rn.size := by rw [s8, sn]; omega
  obtain ⟨d0, d1, d2⟩ := cells3 w (.int .i64 q) (.slice pv nv cv) (.slice pf nf cf) 29
  have HB := Lib.hid (fresh_alloc w (.cells #[.int .i64 q, .slice pv nv cv, .slice pf nf cf] 29))
  have HZ : Hid ((w.alloc (.cells #[.int .i64 q, .slice pv nv cv, .slice pf nf cf] 29)).heap[w.heap.size]? = some (.cells #[.int .i64 q, .slice pv nv cv, .slice pf nf cf] 29 (0, 0))) := Lib.hid (heap_last w _)
  have HS : Hid (w.heap.size < (w.alloc (.cells #[.int .i64 q, .slice pv nv cv, .slice pf nf cf] 29)).heap.size) := Lib.hid (by simp)
  clear hv hf kv kf hm hp hR hnv hnf hi1 hi2 hn1 hn2 l8 lnn lm fm s8 sn sm
  go_enter Tryd.func19, Tryd.ntmps19
  go_wp2_with fail
  generalize w.alloc (.cells #[.int .i64 q, .slice pv nv cv, .slice pf nf cf] 29) = W0 at *
  refine (HMY.out _ HB.out).mono ?_
  rintro e w1 ⟨rfl, b1⟩
  have HB1 := Lib.hid (HB.out.trans (b1.mono HB.out.size))
  have HZ1 := Lib.hid ((b1.block _ HS.out).trans HZ.out)
  have HS1 := Lib.hid (Nat.lt_of_lt_of_le HS.out b1.size)
  clear b1 d0 d1 d2 HB HZ HS HMY
  go_wp2_with fail
  have hS0 : w1.drew.cell? ⟨w.heap.size, 0, none⟩ = some (.int .i64 q) ∧ w1.drew.cell? ⟨w.heap.size, 1, none⟩ = some (.slice pv nv cv) ∧ Below w1.heap.size w1 w1.drew := by
    obtain ⟨d0, d1, d2⟩ := cells3_of HZ1.out
    exact ⟨d0, d1, (Below.refl _ _).drew⟩
  have ALL : ∀ {x y : World}, (x.cell? ⟨w.heap.size, 0, none⟩ = some (.int .i64 q) ∧ x.cell? ⟨w.heap.size, 1, none⟩ = some (.slice pv nv cv) ∧ Below w1.heap.size w1 x) → Below x.heap.size x y → y.cell? ⟨w.heap.size, 0, none⟩ = some (.int .i64 q) ∧ y.cell? ⟨w.heap.size, 1, none⟩ = some (.slice pv nv cv) ∧ Below w1.heap.size w1 y := fun h g => by
    have hb := h.2.2.trans (g.mono h.2.2.size)
    obtain ⟨d0, d1, d2⟩ := cells3_of ((hb.block _ HS1.out).trans HZ1.out)
    exact ⟨d0, d1, hb⟩
  go_region_held3 (fun x => x.cell? ⟨w.heap.size, 0, none⟩ = some (.int .i64 q) ∧ x.cell? ⟨w.heap.size, 1, none⟩ = some (.slice pv nv cv) ∧ Below w1.heap.size w1 x)
    (first | assumption | exact ALL (by assumption) hb | exact ALL ⟨by assumption, by assumption, by assumption⟩ hb | go_keep)
    (first | (go_at_call 60; refine (CF.out _ _ _ (by assumption) _).mono ?_; rintro e w2 ⟨rfl, hb⟩))
  have hq1 : Below w1.heap.size w1 w2 := (show w2.cell? ⟨w.heap.size, 0, none⟩ = some (.int .i64 q) ∧ w2.cell? ⟨w.heap.size, 1, none⟩ = some (.slice pv nv cv) ∧ Below w1.heap.size w1 w2 by assumption).2.2
  have HQ1 := Lib.hid (HB1.out.trans (hq1.mono HB1.out.size))
  have HZ2 := Lib.hid ((hq1.block _ HS1.out).trans HZ1.out)
  have HS2 := Lib.hid (Nat.lt_of_lt_of_le HS1.out hq1.size)
  clear hS0 ALL hcat f8 fn wq wn
  have HPRE : Hid (∀ S : ByteArray, S = r8 ++ rn → S.data.toList = preV ⟨q, V, F⟩ 0) := Lib.hid (fun S h => by
    rw [h, app_list, L8.out, LN.out]
    unfold preV
    rw [NV.out]
    simp)
  obtain ⟨W1, hW1⟩ : ∃ W1, W1 = w2 := ⟨_, rfl⟩
  rw [← hW1] at HQ1 HZ2 HS2 ⊢
  clear hW1 hq1
  have HNL : Hid (nv ≤ maxLen) := Lib.hid (by have := HN1.out; unfold maxLen; omega)
  have HFL : Hid (nf ≤ maxLen) := Lib.hid (by have := HN2.out; unfold maxLen; omega)
  go_wp2_with fail
  go_loopw [4, 5] (fun o i wr => ∃ (k : Nat) (S : ByteArray), k ≤ nv ∧ i = .int .i64 k ∧ o = .string S ∧ Hid (S.data.toList = preV ⟨q, V, F⟩ k) ∧ Below W1.heap.size W1 wr) (fun _ i _ => nv - (intOf i).toNat)
  case atStart => exact ⟨0, _, Nat.zero_le _, rfl, rfl, Lib.hid (HPRE.out _ rfl), Below.refl _ _⟩
  case round =>
    obtain ⟨k, S, hk, rfl, rfl, HSL, hb⟩ := hrel
    obtain ⟨wz, rfl⟩ : ∃ wz : World, wz = wr := ⟨_, rfl⟩
    have HQ := Lib.hid hb
    have HW := Lib.hid (HQ1.out.trans (hb.mono HQ1.out.size))
    obtain ⟨d0, d1, d2⟩ := cells3_of ((hb.block _ HS2.out).trans HZ2.out)
    have HSZ : Hid (S.size ≤ 1000) := Lib.hid (by rw [← ln, HSL.out]; exact preV_len HP.out k)
    clear hb
    by_cases hlt : k < nv
    · have hlk : k < V.length := by rw [← NV.out]; exact hlt
      obtain ⟨g, off, x, rfl, hi, hc⟩ := vecs_cell HV.out hlk
      obtain ⟨c0, c1⟩ := hc wz HW.out
      have VX := Lib.hid (List.getElem?_eq_getElem hlk)
      have hnm := HP.out.vn _ (List.getElem_mem hlk)
      have hvv := HP.out.vv _ (List.getElem_mem hlk)
      have HI := Lib.hid (hi.below HW.out)
      generalize V[k] = y at c0 VX hnm hvv HI hi
      obtain ⟨nm, L⟩ := y
      simp only at c0 hnm hvv hi HI
      obtain ⟨px, cx, rfl, _⟩ := hi.form
      obtain ⟨m, hm⟩ : ∃ m, m = L.length := ⟨_, rfl⟩
      rw [← hm] at c1 HI hvv
      have HM := Lib.hid hm
      have HVV := Lib.hid hvv
      clear hc hi hlk hm
      obtain ⟨ra, fa, la, sa⟩ := fixA_new nm.size 1 (by omega) (by omega) (by omega) 1 rfl
      obtain ⟨rb, fb, lb, sb⟩ := fixA_new m 1 (by omega) (by omega) (by have := hvv.2.1; omega) 1 rfl
      have LA := Lib.hid la
      have LB := Lib.hid lb
      have wa : IntKind.u64.wrap (nm.size : Int) = (nm.size : Int) := u64_nat (by omega)
      have wb : IntKind.u64.wrap (m : Int) = (m : Int) := u64_nat (by have := hvv.2.1; omega)
      have k1 : ¬ 9223372036854775807 < ra.size + nm.size := by omega
      have k2 : ¬ 9223372036854775807 < ra.size + nm.size + rb.size := by omega
      have k3 : ¬ 9223372036854775807 < S.size + (ra.size + nm.size + rb.size) := by have := HSZ.out; omega
      have HSZ2 : Hid (S.size + (ra.size + nm.size + rb.size) ≤ 1040) := Lib.hid (by have := HSZ.out; omega)
      clear la lb sa sb hvv hnm
      go_wp2_with fail
      obtain ⟨y0, y1⟩ : (wz.alloc (.cells #[.string nm, .slice px m cx] 52)).cell? ⟨wz.heap.size, 0, none⟩ = some (.string nm) ∧ (wz.alloc (.cells #[.string nm, .slice px m cx] 52)).cell? ⟨wz.heap.size, 1, none⟩ = some (.slice px m cx) := by
        have z := heap_last wz (.cells #[.string nm, .slice px m cx] 52)
        exact ⟨by rw [Lib.cell_of_heap z]; rfl, by rw [Lib.cell_of_heap z]; rfl⟩
      have HY : Hid ((wz.alloc (.cells #[.string nm, .slice px m cx] 52)).heap[wz.heap.size]? = some (.cells #[.string nm, .slice px m cx] 52 (0, 0))) := Lib.hid (heap_last wz _)
      have HYL : Hid (wz.heap.size < (wz.alloc (.cells #[.string nm, .slice px m cx] 52)).heap.size) := Lib.hid (by simp)
      have HYB := Lib.hid (HQ.out.alloc HQ.out.size (.cells #[.string nm, .slice px m cx] 52))
      have HI2 := Lib.hid (HI.out.below (fresh_alloc wz (.cells #[.string nm, .slice px m cx] 52)))
      generalize wz.alloc (.cells #[.string nm, .slice px m cx] 52) = W2 at *
      clear d0 d1 d2 c0 c1
      have hS0 : W2.drew.cell? ⟨wz.heap.size, 0, none⟩ = some (.string nm) ∧ W2.drew.cell? ⟨wz.heap.size, 1, none⟩ = some (.slice px m cx) ∧ Below W2.heap.size W2 W2.drew := ⟨y0, y1, (Below.refl _ _).drew⟩
      have CELL : ∀ {x : World}, Below W2.heap.size W2 x → x.cell? ⟨wz.heap.size, 0, none⟩ = some (.string nm) ∧ x.cell? ⟨wz.heap.size, 1, none⟩ = some (.slice px m cx) := fun h => by
        have z := (h.block _ HYL.out).trans HY.out
        exact ⟨by rw [Lib.cell_of_heap z]; rfl, by rw [Lib.cell_of_heap z]; rfl⟩
      have ALL : ∀ {x y : World}, (x.cell? ⟨wz.heap.size, 0, none⟩ = some (.string nm) ∧ x.cell? ⟨wz.heap.size, 1, none⟩ = some (.slice px m cx) ∧ Below W2.heap.size W2 x) → Below x.heap.size x y → y.cell? ⟨wz.heap.size, 0, none⟩ = some (.string nm) ∧ y.cell? ⟨wz.heap.size, 1, none⟩ = some (.slice px m cx) ∧ Below W2.heap.size W2 y := fun h g => by
        have hb := h.2.2.trans (g.mono h.2.2.size)
        exact ⟨(CELL hb).1, (CELL hb).2, hb⟩
      clear y0 y1
      go_region_held3 (fun x => x.cell? ⟨wz.heap.size, 0, none⟩ = some (.string nm) ∧ x.cell? ⟨wz.heap.size, 1, none⟩ = some (.slice px m cx) ∧ Below W2.heap.size W2 x)
        (first | assumption | exact ALL (by assumption) hb | exact ALL ⟨by assumption, by assumption, by assumption⟩ hb | go_keep)
        (first | (go_at_call 60; refine (CF.out _ _ _ (by assumption) _).mono ?_; rintro e w3 ⟨rfl, hb⟩))
      have hq3 : Below W2.heap.size W2 w3 := (show w3.cell? ⟨wz.heap.size, 0, none⟩ = some (.string nm) ∧ w3.cell? ⟨wz.heap.size, 1, none⟩ = some (.slice px m cx) ∧ Below W2.heap.size W2 w3 by assumption).2.2
      have HQ3 := Lib.hid hq3
      obtain ⟨T, hT⟩ : ∃ T : ByteArray, T = S ++ (ra ++ nm ++ rb) := ⟨_, rfl⟩
      have HT : Hid (T.data.toList = preV ⟨q, V, F⟩ k ++ headV ⟨nm, L⟩) := Lib.hid (by
        rw [hT, app_list, app_list, app_list, HSL.out, LA.out, LB.out]
        unfold headV
        rw [HM.out])
      have HTZ : Hid (T.size ≤ 1040) := Lib.hid (by rw [hT, ByteArray.size_append, ByteArray.size_append, ByteArray.size_append]; exact HSZ2.out)
      rw [← hT]
      clear hS0 hq3 k1 k2 k3 hT ALL fa fb wa wb
      obtain ⟨W3, hW3⟩ : ∃ W3, W3 = w3 := ⟨_, rfl⟩
      rw [← hW3] at HQ3 ⊢
      clear hW3
      have HML : Hid (m ≤ maxLen) := Lib.hid (by have := HVV.out.2.1; unfold maxLen; omega)
      go_wp2_with fail
      go_loopw [4, 7] (fun o i wr => ∃ (j : Nat) (U : ByteArray), j ≤ m ∧ i = .int .i64 j ∧ o = .string U ∧ Hid (U.data.toList = T.data.toList ++ bInts (L.take j)) ∧ Below W3.heap.size W3 wr) (fun _ i _ => m - (intOf i).toNat)
      case atStart => exact ⟨0, _, Nat.zero_le _, rfl, rfl, Lib.hid (by simp [bInts]), Below.refl _ _⟩
      case round =>
        obtain ⟨j, U, hj, rfl, rfl, HUL, hb⟩ := hrel
        obtain ⟨wy, rfl⟩ : ∃ wy : World, wy = wr := ⟨_, rfl⟩
        have HR3 := Lib.hid hb
        have HW3 := Lib.hid (HQ3.out.trans (hb.mono HQ3.out.size))
        obtain ⟨y0, y1⟩ := CELL HW3.out
        clear hb
        by_cases hlt2 : j < m
        · have hlj : j < L.length := by rw [← HM.out]; exact hlt2
          obtain ⟨g2, off2, rfl, hc2⟩ := ints_cell HI2.out hlj
          have ca := hc2 wy HW3.out
          have IX := Lib.hid (List.getElem?_eq_getElem hlj)
          have hin := HVV.out.2.2 _ (List.getElem_mem hlj)
          generalize L[j] = n at ca IX hin
          obtain ⟨z, hz⟩ : ∃ z : Nat, n + 32768 = z := ⟨(n + 32768).toNat, by omega⟩
          obtain ⟨r2, f2, l2, s2⟩ := fixA_new z 2 (by omega) (by omega) (by omega) 2 rfl
          have w2' : wrap64 (n + 32768) = (z : Int) := by rw [hz]; unfold wrap64; omega
          have w3' : IntKind.u64.wrap (z : Int) = (z : Int) := u64_nat (by omega)
          have CF2 := Lib.hid (fun W => CF.out _ _ _ f2 W)
          have HUZ : Hid (U.size ≤ 1200) := Lib.hid (by
            have h1 := HVV.out.2.1
            have h2 : (L.take j).length ≤ 64 := by rw [List.length_take]; omega
            rw [← ln, HUL.out, List.length_append, bInts_len, ln]
            have := HTZ.out; omega)
          have kk : U.size + r2.size ≤ 9223372036854775807 := by have := HUZ.out; omega
          have HN2 : Hid ((U ++ r2).data.toList = T.data.toList ++ bInts (L.take (j + 1))) := Lib.hid (by
            rw [app_list, HUL.out, l2, bInts_next IX.out, List.append_assoc, hz]; rfl)
          clear hc2 hlj l2 s2 f2 hin hz
          go_wp2_with fail
          refine (CF2.out _).mono ?_
          rintro e w4 ⟨rfl, b4⟩
          have HB4 := Lib.hid (HR3.out.trans (b4.mono HR3.out.size))
          clear b4
          go_wp2_with fail
          go_roundw
          case rel => exact ⟨j + 1, _, by omega, congrArg _ (wrap_s HML.out hlt2), rfl, HN2, HB4.out⟩
          case measure => rw [wrap_s HML.out hlt2]; exact int_less hlt2
        · obtain rfl : j = m := by omega
          have HN2 : Hid (U.data.toList = preV ⟨q, V, F⟩ (k + 1)) := Lib.hid (by
            rw [HUL.out, HM.out, List.take_length, HT.out, preV_next VX.out, List.append_assoc]
            congr 1)
          have HB4 := Lib.hid (HYB.out.trans (HW3.out.mono HYB.out.size))
          go_wp2_with fail
          go_roundw
          case rel => exact ⟨k + 1, _, by omega, congrArg _ (wrap_s HNL.out hlt), rfl, HN2, HB4.out⟩
          case measure => rw [wrap_s HNL.out hlt]; exact int_less hlt
    · obtain rfl : k = nv := by omega
      have CFM := Lib.hid (fun W => CF.out _ _ _ FM.out W)
      have kk : S.size + rm.size ≤ 9223372036854775807 := by have := HSZ.out; have := SM.out; omega
      have HPF : Hid ((S ++ rm).data.toList = preF ⟨q, V, F⟩ 0) := Lib.hid (by
        rw [app_list, HSL.out, LM.out, ← preV_all]
        rw [NV.out, NF.out])
      have wm := WM.out
      go_wp2_with fail
      refine (CFM.out _).mono ?_
      rintro e w4 ⟨rfl, b4⟩
      have HQ4 := Lib.hid (HW.out.trans (b4.mono HW.out.size))
      have HZ4 := Lib.hid ((b4.block _ (Nat.lt_of_lt_of_le HS2.out HQ.out.size)).trans ((HQ.out.block _ HS2.out).trans HZ2.out))
      have HS4 := Lib.hid (Nat.lt_of_lt_of_le (Nat.lt_of_lt_of_le HS2.out HQ.out.size) b4.size)
      clear b4 d0 d1 d2 HSL HSZ wm
      go_wp2_with fail
      go_loopw [4, 8] (fun o i wr => ∃ (j : Nat) (T : ByteArray), j ≤ nf ∧ i = .int .i64 j ∧ o = .string T ∧ Hid (T.data.toList = preF ⟨q, V, F⟩ j) ∧ Below w4.heap.size w4 wr) (fun _ i _ => nf - (intOf i).toNat)
      case atStart => exact ⟨0, _, Nat.zero_le _, rfl, rfl, HPF, Below.refl _ _⟩
      case round =>
        obtain ⟨j, T, hj, rfl, rfl, HTL, hb⟩ := hrel
        obtain ⟨wz, rfl⟩ : ∃ wz : World, wz = wr := ⟨_, rfl⟩
        have HQ := Lib.hid hb
        have HW := Lib.hid (HQ4.out.trans (hb.mono HQ4.out.size))
        obtain ⟨d0, d1, d2⟩ := cells3_of ((hb.block _ HS4.out).trans HZ4.out)
        have HTZ : Hid (T.size ≤ 8000) := Lib.hid (by rw [← ln, HTL.out]; exact preF_len HP.out j)
        clear hb
        by_cases hlt : j < nf
        · have hlk : j < F.length := by rw [← NF.out]; exact hlt
          obtain ⟨g, off, rfl, hc⟩ := flds_cell HF.out hlk
          obtain ⟨c0, c1, c2, c3⟩ := hc wz HW.out
          have FX := Lib.hid (List.getElem?_eq_getElem hlk)
          have hnm := HP.out.fn _ (List.getElem_mem hlk)
          have hvv := HP.out.fv _ (List.getElem_mem hlk)
          generalize F[j] = y at c0 c1 c2 c3 FX hnm hvv
          have hkk := val_kinds hvv
          obtain ⟨nm, kd, n, tx'⟩ := y
          simp only at c0 c1 c2 c3 hnm hkk
          obtain ⟨K, hK, hK1, hK3⟩ : ∃ K : Nat, kd = K ∧ 1 ≤ K ∧ K ≤ 3 := ⟨kd.toNat, by omega, by omega, by omega⟩
          have HKK := Lib.hid hkk
          have HKE := Lib.hid hK
          obtain ⟨ra, fa, la, sa⟩ := fixA_new nm.size 1 (by omega) (by omega) (by omega) 1 rfl
          obtain ⟨rb, fb, lb, sb⟩ := fixA_new K 1 (by omega) (by omega) (by omega) 1 rfl
          rw [← hK] at fb
          have LA := Lib.hid la
          have LB := Lib.hid lb
          have wa : IntKind.u64.wrap (nm.size : Int) = (nm.size : Int) := u64_nat (by omega)
          have wb : IntKind.u64.wrap kd = kd := by rw [hK]; exact u64_nat (by omega)
          have k1 : ¬ 9223372036854775807 < ra.size + nm.size := by omega
          have k2 : ¬ 9223372036854775807 < ra.size + nm.size + rb.size := by omega
          have k3 : ¬ 9223372036854775807 < T.size + (ra.size + nm.size + rb.size) := by have := HTZ.out; omega
          have HTZ2 : Hid (T.size + (ra.size + nm.size + rb.size) ≤ 8040) := Lib.hid (by have := HTZ.out; omega)
          clear hc hlk hvv hkk hK la lb sa sb hnm hK1 hK3
          go_wp2_with fail
          obtain ⟨y0, y1, y2, y3⟩ := cells4_of (heap_last wz (.cells #[.string nm, .int .i64 kd, .int .i64 n, .string tx'] 56))
          have HY : Hid ((wz.alloc (.cells #[.string nm, .int .i64 kd, .int .i64 n, .string tx'] 56)).heap[wz.heap.size]? = some (.cells #[.string nm, .int .i64 kd, .int .i64 n, .string tx'] 56 (0, 0))) := Lib.hid (heap_last wz _)
          have HYL : Hid (wz.heap.size < (wz.alloc (.cells #[.string nm, .int .i64 kd, .int .i64 n, .string tx'] 56)).heap.size) := Lib.hid (by simp)
          have HYB := Lib.hid (HQ.out.alloc HQ.out.size (.cells #[.string nm, .int .i64 kd, .int .i64 n, .string tx'] 56))
          generalize wz.alloc (.cells #[.string nm, .int .i64 kd, .int .i64 n, .string tx'] 56) = W2 at *
          clear d0 d1 d2 c0 c1 c2 c3
          have CELL : Hid (∀ {x : World}, Below W2.heap.size W2 x → x.cell? ⟨wz.heap.size, 0, none⟩ = some (.string nm) ∧ x.cell? ⟨wz.heap.size, 1, none⟩ = some (.int .i64 kd) ∧ x.cell? ⟨wz.heap.size, 2, none⟩ = some (.int .i64 n) ∧ x.cell? ⟨wz.heap.size, 3, none⟩ = some (.string tx')) := Lib.hid (fun h => cells4_of ((h.block _ HYL.out).trans HY.out))
          have hS0 : W2.drew.cell? ⟨wz.heap.size, 0, none⟩ = some (.string nm) ∧ W2.drew.cell? ⟨wz.heap.size, 1, none⟩ = some (.int .i64 kd) ∧ Below W2.heap.size W2 W2.drew := ⟨y0, y1, (Below.refl _ _).drew⟩
          have ALL : ∀ {x y : World}, (x.cell? ⟨wz.heap.size, 0, none⟩ = some (.string nm) ∧ x.cell? ⟨wz.heap.size, 1, none⟩ = some (.int .i64 kd) ∧ Below W2.heap.size W2 x) → Below x.heap.size x y → y.cell? ⟨wz.heap.size, 0, none⟩ = some (.string nm) ∧ y.cell? ⟨wz.heap.size, 1, none⟩ = some (.int .i64 kd) ∧ Below W2.heap.size W2 y := fun h g => by
            have hb := h.2.2.trans (g.mono h.2.2.size)
            exact ⟨(CELL.out hb).1, (CELL.out hb).2.1, hb⟩
          clear y0 y1 y2 y3
          go_region_held3 (fun x => x.cell? ⟨wz.heap.size, 0, none⟩ = some (.string nm) ∧ x.cell? ⟨wz.heap.size, 1, none⟩ = some (.int .i64 kd) ∧ Below W2.heap.size W2 x)
            (first | assumption | exact ALL (by assumption) hb | exact ALL ⟨by assumption, by assumption, by assumption⟩ hb | go_keep)
            (first | (go_at_call 60; refine (CF.out _ _ _ (by assumption) _).mono ?_; rintro e w5 ⟨rfl, hb⟩))
          have hq5 : Below W2.heap.size W2 w5 := (show w5.cell? ⟨wz.heap.size, 0, none⟩ = some (.string nm) ∧ w5.cell? ⟨wz.heap.size, 1, none⟩ = some (.int .i64 kd) ∧ Below W2.heap.size W2 w5 by assumption).2.2
          have HQ5 := Lib.hid hq5
          obtain ⟨y0, y1, y2, y3⟩ := CELL.out hq5
          obtain ⟨U, hU⟩ : ∃ U : ByteArray, U = T ++ (ra ++ nm ++ rb) := ⟨_, rfl⟩
          have HU : Hid (U.data.toList = preF ⟨q, V, F⟩ j ++ (fixL 1 nm.size ++ nm.data.toList ++ fixL 1 K)) := Lib.hid (by
            rw [hU, app_list, app_list, app_list, HTL.out, LA.out, LB.out])
          have HUZ : Hid (U.size ≤ 8040) := Lib.hid (by rw [hU, ByteArray.size_append, ByteArray.size_append, ByteArray.size_append]; exact HTZ2.out)
          rw [← hU]
          clear hS0 hq5 k1 k2 k3 hU ALL fa fb wa wb
          obtain ⟨W3, hW3⟩ : ∃ W3, W3 = w5 := ⟨_, rfl⟩
          rw [← hW3] at HQ5 y0 y1 y2 y3 ⊢
          clear hW3
          have HQW := Lib.hid (HYB.out.trans (HQ5.out.mono HYB.out.size))
          have HFIN : Hid (∀ (o : ByteArray), o.data.toList = U.data.toList ++ (bVal ⟨kd, n, tx'⟩).drop 1 → o.data.toList = preF ⟨q, V, F⟩ (j + 1)) := Lib.hid (fun o ho => by
            rw [ho, HU.out, preF_next FX.out]
            unfold bFld
            simp only
            have e : bVal ⟨kd, n, tx'⟩ = fixL 1 K ++ (bVal ⟨kd, n, tx'⟩).drop 1 := by
              unfold bVal
              simp only
              have hkt : kd.toNat = K := by rw [HKE.out]; rfl
              split
              · rename_i h2
                have hk2 : K = 2 := by have := HKE.out; omega
                rw [hk2]; rfl
              · rw [hkt]; rfl
            generalize (bVal ⟨kd, n, tx'⟩).drop 1 = D at e ⊢
            rw [e]
            simp [List.append_assoc])
          rcases HKK.out with ⟨rfl, hn, rfl⟩ | ⟨rfl, rfl, ht⟩ | ⟨rfl, hn, rfl⟩
          · obtain ⟨z, hz, hz2⟩ : ∃ z : Nat, IntKind.u64.wrap n = (z : Int) ∧ u64N n = z := ⟨u64N n, u64_wrap n, rfl⟩
            obtain ⟨r2, f2, l2, s2⟩ := fixA_new z 8 (by omega) (by omega) (by have := u64_lt n; omega) 8 rfl
            have CF2 := Lib.hid (fun W => CF.out _ _ _ f2 W)
            have kk : U.size + r2.size ≤ 9223372036854775807 := by have := HUZ.out; omega
            have HN2 : Hid ((U ++ r2).data.toList = preF ⟨q, V, F⟩ (j + 1)) := Lib.hid (HFIN.out _ (by rw [app_list, l2, ← hz2]; rfl))
            clear hz2 hn l2 s2 f2
            go_wp2_with fail
            refine (CF2.out _).mono ?_
            rintro e w6 ⟨rfl, b6⟩
            have HB6 := Lib.hid (HQW.out.trans (b6.mono HQW.out.size))
            clear b6
            go_wp2_with fail
            go_roundw
            case rel => exact ⟨j + 1, _, by omega, congrArg _ (wrap_s HFL.out hlt), rfl, HN2, HB6.out⟩
            case measure => rw [wrap_s HFL.out hlt]; exact int_less hlt
          · obtain ⟨r2, f2, l2, s2⟩ := fixA_new tx'.size 2 (by omega) (by omega) (by omega) 2 rfl
            have w9 : IntKind.u64.wrap (tx'.size : Int) = (tx'.size : Int) := u64_nat (by omega)
            have kk : ¬ 9223372036854775807 < r2.size + tx'.size := by omega
            have kk2 : ¬ 9223372036854775807 < U.size + (r2.size + tx'.size) := by have := HUZ.out; omega
            have HN2 : Hid ((U ++ (r2 ++ tx')).data.toList = preF ⟨q, V, F⟩ (j + 1)) := Lib.hid (HFIN.out _ (by rw [app_list, app_list, l2]; rfl))
            clear l2 s2 ht
            go_wp2_with fail
            have hS0 : W3.drew.cell? ⟨wz.heap.size, 3, none⟩ = some (.string tx') ∧ Below W3.heap.size W3 W3.drew := ⟨y3, (Below.refl _ _).drew⟩
            have ALL : ∀ {x y : World}, (x.cell? ⟨wz.heap.size, 3, none⟩ = some (.string tx') ∧ Below W3.heap.size W3 x) → Below x.heap.size x y → y.cell? ⟨wz.heap.size, 3, none⟩ = some (.string tx') ∧ Below W3.heap.size W3 y := fun h g => by
              have hb := h.2.trans (g.mono h.2.size)
              exact ⟨(CELL.out (HQ5.out.trans (hb.mono HQ5.out.size))).2.2.2, hb⟩
            clear y0 y1 y2 y3
            go_region_held3 (fun x => x.cell? ⟨wz.heap.size, 3, none⟩ = some (.string tx') ∧ Below W3.heap.size W3 x)
              (first | assumption | exact ALL (by assumption) hb | exact ALL ⟨by assumption, by assumption⟩ hb | go_keep)
              (first | (go_at_call 60; refine (CF.out _ _ _ (by assumption) _).mono ?_; rintro e w6 ⟨rfl, hb⟩))
            have hq6 : Below W3.heap.size W3 w6 := (show w6.cell? ⟨wz.heap.size, 3, none⟩ = some (.string tx') ∧ Below W3.heap.size W3 w6 by assumption).2
            have HB6 := Lib.hid (HQW.out.trans (hq6.mono HQW.out.size))
            clear hq6 hS0 ALL kk kk2
            go_wp2_with fail
            go_roundw
            case rel => exact ⟨j + 1, _, by omega, congrArg _ (wrap_s HFL.out hlt), rfl, HN2, HB6.out⟩
            case measure => rw [wrap_s HFL.out hlt]; exact int_less hlt
          · obtain ⟨z, hz⟩ : ∃ z : Nat, n = z := ⟨n.toNat, by omega⟩
            subst hz
            obtain ⟨r2, f2, l2, s2⟩ := fixA_new z 1 (by omega) (by omega) (by omega) 1 rfl
            have w9 : IntKind.u64.wrap (z : Int) = (z : Int) := u64_nat (by omega)
            have CF2 := Lib.hid (fun W => CF.out _ _ _ f2 W)
            have kk : U.size + r2.size ≤ 9223372036854775807 := by have := HUZ.out; omega
            have HN2 : Hid ((U ++ r2).data.toList = preF ⟨q, V, F⟩ (j + 1)) := Lib.hid (HFIN.out _ (by
              rw [app_list, l2]
              have e : u64N (z : Int) = z := by unfold u64N; rw [w9]; rfl
              show _ = U.data.toList ++ fixL 1 (u64N (z : Int))
              rw [e]))
            clear hn l2 s2 f2
            go_wp2_with fail
            refine (CF2.out _).mono ?_
            rintro e w6 ⟨rfl, b6⟩
            have HB6 := Lib.hid (HQW.out.trans (b6.mono HQW.out.size))
            clear b6
            go_wp2_with fail
            go_roundw
            case rel => exact ⟨j + 1, _, by omega, congrArg _ (wrap_s HFL.out hlt), rfl, HN2, HB6.out⟩
            case measure => rw [wrap_s HFL.out hlt]; exact int_less hlt
        · obtain rfl : j = nf := by omega
          have hTR : T = R := by
            apply by_ext
            rw [HTL.out, HR.out, NF.out]; exact preF_all ⟨q, V, F⟩
          subst hTR
          go_wp2_with fail
          go_ret2
          exact ⟨rfl, HW.out⟩
set_option maxHeartbeats 1000000 in
set_option maxRecDepth 100000 in
theorem renc_no (i : Int) (vv fv : Value) (V : List Vec) (F : List Fld) (w : World) (hv : VecsAt w vv V) (hf : FldsAt w fv F) (kv : VecsOk V) (kf : FldsOk F) (hm : ptMay ⟨i, V, F⟩ = false) :
    Calls Tryd.prog 19 #[.agg #[.int .i64 i, vv, fv]] w fun e w' => e = .returned notMay ∧ Below w.heap.size w w' := by
  have HMY := Lib.hid (fun W (g : Below w.heap.size w W) => rmay_any i vv fv V F W (hv.below g) (hf.below g) kv kf)
  rw [hm] at HMY
  obtain ⟨pv, cv, rfl⟩ := hv.form
  obtain ⟨pf, cf, rfl⟩ := hf.form
  clear hv hf kv kf hm
  generalize V.length = nv at *
  generalize F.length = nf at *
  obtain ⟨d0, d1, d2⟩ := cells3 w (.int .i64 i) (.slice pv nv cv) (.slice pf nf cf) 29
  have HB := Lib.hid (fresh_alloc w (.cells #[.int .i64 i, .slice pv nv cv, .slice pf nf cf] 29))
  go_enter Tryd.func19, Tryd.ntmps19
  go_wp2_with fail
  refine (HMY.out _ HB.out).mono ?_
  rintro e w1 ⟨rfl, b1⟩
  have HB1 := Lib.hid (HB.out.trans (b1.mono HB.out.size))
  clear b1
  go_wp2_with fail
  go_ret2
  exact ⟨rfl, HB1.out⟩
theorem renc_in (W : World) (p : Value) (a : Pt) (h : PtIn W p a) :
    Calls Tryd.prog 19 #[p] W fun e w' => e = .returned (EncV a) ∧ Below W.heap.size W w' := by
  obtain ⟨u, x, rfl, h1, h2, h3, h4⟩ := h
  unfold EncV
  cases hm : ptMay a
  · rw [if_neg (by simp)]; exact renc_no a.id u x a.vecs a.flds W h1 h2 h3 h4 hm
  · rw [if_pos rfl]
    have hid := (ptIs hm).id1
    obtain ⟨i, V, F⟩ := a
    simp only at hid h1 h2 h3 h4 ⊢
    obtain ⟨q, rfl⟩ : ∃ q : Nat, i = q := ⟨i.toNat, by omega⟩
    exact renc_yes q u x V F W h1 h2 h3 h4 hm
end Go.Proofs.YtokjmgkoifakdaaDoor
namespace Go.Proofs.YtokjmgkoifakdaaDoor
set_option linter.unusedVariables false
open Go Go.RowKit Go.Shelf Pl
/-- The document's reader at block R over s is as the plain one r. -/
def BAt (R : Nat) (s : ByteArray) (r : Rs) (w : World) : Prop :=
  (r.short = false ∧ ∃ a : Nat, a ≤ s.size ∧ r.rest = s.data.toList.drop a ∧ w.heap[R]? = some (.cells #[.string s, .int .i64 (a : Int), .bool false] 123 (0, 0))) ∨
  (r.short = true ∧ r.rest = [] ∧ ∃ z : Int, w.heap[R]? = some (.cells #[.string s, .int .i64 z, .bool true] 123 (0, 0)))
theorem BAt.lt {R : Nat} {s : ByteArray} {r : Rs} {w : World} (h : BAt R s r w) : R < w.heap.size := by
  rcases h with ⟨_, a, _, _, h⟩ | ⟨_, _, z, h⟩ <;> exact (Array.getElem?_eq_some_iff.1 h).1
theorem BAt.moved {R : Nat} {s : ByteArray} {r : Rs} {w w' : World} (h : BAt R s r w) (g : w'.heap[R]? = w.heap[R]?) : BAt R s r w' := by
  rcases h with ⟨h0, a, h1, h2, h3⟩ | ⟨h0, h1, z, h2⟩
  · exact .inl ⟨h0, a, h1, h2, g.trans h3⟩
  · exact .inr ⟨h0, h1, z, g.trans h2⟩
theorem BAt.len {R : Nat} {s : ByteArray} {r : Rs} {w : World} (h : BAt R s r w) : r.rest.length ≤ s.size := by
  rcases h with ⟨_, a, _, h2, _⟩ | ⟨_, h1, _⟩
  · rw [h2, List.length_drop, ln]; omega
  · rw [h1]; exact Nat.zero_le _
theorem cells3_at {w : World} {g : Nat} {a b c : Value} {T : TypeId} (h : w.heap[g]? = some (.cells #[a, b, c] T (0, 0))) : w.cell? ⟨g, 0, none⟩ = some a ∧ w.cell? ⟨g, 1, none⟩ = some b ∧ w.cell? ⟨g, 2, none⟩ = some c := by
  refine ⟨?_, ?_, ?_⟩ <;> rw [Lib.cell_of_heap h] <;> rfl
def TookB (R : Nat) (s : ByteArray) (w : World) (v : Value) (r' : Rs) (e : Ending) (w' : World) : Prop := e = .returned v ∧ BAt R s r' w' ∧ Kr R w w'
theorem Kr.drewN {R : Nat} {w w' : World} (h : Kr R w w') (n : Nat) : Kr R w (w'.drewN n) := ⟨h.os, h.tape, h.output, h.size, h.block⟩
set_option maxHeartbeats 2000000 in
set_option maxRecDepth 100000 in
theorem cut_any (R : Nat) (s : ByteArray) (r : Rs) (K : Nat) (w : World) (h : BAt R s r w) (hs : s.size ≤ 281474976710656) (hK : K ≤ 281474976710656) :
    Calls Tryd.prog 67 #[.pointer (some ⟨R, 0, none⟩), .int .i64 (K : Int)] w (TookB R s w (.string (tx (takeR K r).1)) (takeR K r).2) := by
  have hk0 : ¬ (K : Int) < 0 := by omega
  rcases h with ⟨h0, a, h1, h2, h3⟩ | ⟨h0, h1, z, h2⟩
  · obtain ⟨c0, c1, c2⟩ := cells3_at h3
    have hlen : r.rest.length = s.size - a := by rw [h2, List.length_drop, ln]
    have e1 : wrap64 ((s.size : Int) - (a : Int)) = ((s.size - a : Nat) : Int) := by unfold wrap64; omega
    obtain ⟨d, hd⟩ : ∃ d, d = s.size - a := ⟨_, rfl⟩
    rw [← hd] at e1 hlen
    have e1' : IntKind.i64.wrap ((s.size : Int) - (a : Int)) = (d : Int) := by rw [IntKind.wrap_i64]; omega
    by_cases hc : r.rest.length < K
    · have hg : (d : Int) < (K : Int) := by omega
      have k2 : w.frozen? ⟨R, 2, none⟩ = false := Lib.frozen_of_heap h3 2
      have HP : Hid (∀ n, TookB R s w (.string (tx (takeR K r).1)) (takeR K r).2 (.returned (.string ⟨#[]⟩)) ((w.drewN n).setCell ⟨R, 2, none⟩ (.bool true))) := Lib.hid (fun n => by
        have e : takeR K r = ([], ⟨[], true⟩) := by unfold takeR; rw [if_pos hc]
        rw [e]
        have z := setCell_row (w := w.drewN n) (k := 2) h3 (.bool true)
        exact ⟨rfl, .inr ⟨rfl, rfl, a, z⟩, ((Kr.refl R w).drewN n).set 2 _⟩)
      clear h0 h1 h2 h3 hlen hd hc
      go_enter Tryd.func67, Tryd.ntmps67
      go_wp2_with fail
      go_quiet (fail)
      go_wp2_with fail
      go_ret
      exact HP.out _
    · have hg : ¬ (d : Int) < (K : Int) := by omega
      have k1 : w.frozen? ⟨R, 1, none⟩ = false := Lib.frozen_of_heap h3 1
      have e2 : wrap64 ((a : Int) + (K : Int)) = ((a + K : Nat) : Int) := by unfold wrap64; omega
      obtain ⟨b, hb⟩ : ∃ b, b = a + K := ⟨_, rfl⟩
      rw [← hb] at e2
      have hbK : (a : Int) + (K : Int) = (b : Int) := by omega
      have e3 : wrap64 ((b : Int) - (K : Int)) = (a : Int) := by unfold wrap64; omega
      have e3' : IntKind.i64.wrap ((b : Int) - (K : Int)) = (a : Int) := by rw [IntKind.wrap_i64]; omega
      have HP : Hid (∀ n m, TookB R s w (.string (tx (takeR K r).1)) (takeR K r).2 (.returned (.string (s.extract a b))) (((w.drewN n).setCell ⟨R, 1, none⟩ (.int .i64 (b : Int))).drewN m)) := Lib.hid (fun n m => by
        have e : takeR K r = (r.rest.take K, ⟨r.rest.drop K, r.short⟩) := by unfold takeR; rw [if_neg hc]
        rw [e]
        have z := setCell_row (w := w.drewN n) (k := 1) h3 (.int .i64 (b : Int))
        refine ⟨?_, .inl ⟨h0, b, by omega, ?_, z⟩, (((Kr.refl R w).drewN n).set 1 _).drewN m⟩
        · congr 2
          apply by_ext
          rw [ext_any, tx_list, h2, hb, show a + K - a = K by omega]
        · show r.rest.drop K = _
          rw [h2, List.drop_drop, hb])
      have hz0 : ∀ n, (((w.drewN n).setCell ⟨R, 1, none⟩ (.int .i64 (b : Int)))).cell? ⟨R, 0, none⟩ = some (.string s) ∧ (((w.drewN n).setCell ⟨R, 1, none⟩ (.int .i64 (b : Int)))).cell? ⟨R, 1, none⟩ = some (.int .i64 (b : Int)) := fun n => by
        have z := setCell_row (w := w.drewN n) (k := 1) h3 (.int .i64 (b : Int))
        exact ⟨(cells3_at z).1, (cells3_at z).2.1⟩
      have HZ := Lib.hid hz0
      have b1 : (b : Int) ≤ (s.size : Int) := by omega
      have b2 : (a : Int) ≤ (b : Int) := by omega
      have b3 : (0 : Int) ≤ (a : Int) := by omega
      have b4 : (0 : Int) ≤ (b : Int) := by omega
      clear h0 h1 h2 h3 hlen hd hc hb hz0
      go_enter Tryd.func67, Tryd.ntmps67
      go_wp2_with fail
      go_quiet (fail)
      go_wp2_with fail
      obtain ⟨z0, z1⟩ := HZ.out nq
      have HPQ := Lib.hid (HP.out nq)
      clear HP HZ c0 c1 c2 k1 e1 e1' e2 hbK
      generalize (w.drewN nq).setCell ⟨R, 1, none⟩ (.int .i64 (b : Int)) = w5 at *
      go_quiet (fail)
      go_wp2_with fail
      go_ret
      exact HPQ.out _
  · obtain ⟨c0, c1, c2⟩ := cells3_at h2
    have k2 : w.frozen? ⟨R, 2, none⟩ = false := Lib.frozen_of_heap h2 2
    have HP : Hid (∀ n, TookB R s w (.string (tx (takeR K r).1)) (takeR K r).2 (.returned (.string ⟨#[]⟩)) ((w.drewN n).setCell ⟨R, 2, none⟩ (.bool true))) := Lib.hid (fun n => by
      have e : takeR K r = ([], ⟨[], true⟩) := by
        unfold takeR
        by_cases hc : r.rest.length < K
        · rw [if_pos hc]
        · rw [if_neg hc, h1, h0]; simp
      rw [e]
      have z' := setCell_row (w := w.drewN n) (k := 2) h2 (.bool true)
      exact ⟨rfl, .inr ⟨rfl, rfl, z, z'⟩, ((Kr.refl R w).drewN n).set 2 _⟩)
    clear h0 h1 h2
    go_enter Tryd.func67, Tryd.ntmps67
    go_wp2_with fail
    go_quiet (fail)
    go_wp2_with fail
    go_ret
    exact HP.out _
set_option maxHeartbeats 1000000 in
set_option maxRecDepth 100000 in
theorem bnum_any (R : Nat) (s : ByteArray) (r : Rs) (K : Nat) (w : World) (h : BAt R s r w) (hs : s.size ≤ 281474976710656) (hK : K ≤ 8) (k : Int) (hk : (K : Int) = k) :
    Calls Tryd.prog 66 #[.pointer (some ⟨R, 0, none⟩), .int .i64 k] w (TookB R s w (.int .u64 ((numR K r).1 : Int)) (numR K r).2) := by
  have CT := Lib.hid (cut_any R s r K w h hs (by omega))
  rw [hk] at CT
  have hlen : (takeR K r).1.length = 0 ∨ (takeR K r).1.length = K := by
    unfold takeR
    by_cases c : r.rest.length < K
    · rw [if_pos c]; exact .inl rfl
    · rw [if_neg c]; exact .inr (by simp; omega)
  have HR : Hid ((numR K r).2 = (takeR K r).2) := Lib.hid rfl
  have HU : Hid ((numR K r).1 = unfL (takeR K r).1) := Lib.hid rfl
  rw [HR.out, HU.out]
  generalize (takeR K r).1 = l at *
  generalize (takeR K r).2 = r' at *
  clear h HR HU hk
  by_cases h0 : l.length = 0
  · have e : l = [] := List.length_eq_zero_iff.mp h0
    subst e
    have CU := Lib.hid (fun W => unfixRef_wrong (tx []) W (.inl (by rw [tx_size]; decide)) (by rw [tx_size]; decide))
    have HE : Hid (unfL [] = 0) := Lib.hid rfl
    rw [HE.out]
    clear hlen h0
    go_enter Tryd.func66, Tryd.ntmps66
    go_wp2_with fail
    refine CT.out.mono ?_
    rintro e w1 ⟨rfl, h1, h2⟩
    have H1 := Lib.hid h1
    have H2 := Lib.hid h2
    clear h1 h2 CT
    go_wp2_with fail
    refine (CU.out _).mono ?_
    rintro e w2 ⟨rfl, rfl⟩
    go_wp2_with fail
    go_ret
    exact ⟨rfl, H1.out, H2.out⟩
  · have CU := Lib.hid (fun W => unfixRef_any (tx l) W (by rw [tx_size]; omega) (by rw [tx_size]; omega))
    rw [tx_list] at CU
    obtain ⟨U, hU⟩ : ∃ U, U = unfL l := ⟨_, rfl⟩
    rw [← hU] at CU ⊢
    clear hlen h0 hU
    go_enter Tryd.func66, Tryd.ntmps66
    go_wp2_with fail
    refine CT.out.mono ?_
    rintro e w1 ⟨rfl, h1, h2⟩
    have H1 := Lib.hid h1
    have H2 := Lib.hid h2
    clear h1 h2 CT
    go_wp2_with fail
    refine (CU.out _).mono ?_
    rintro e w2 ⟨rfl, rfl⟩
    go_wp2_with fail
    go_ret
    exact ⟨rfl, H1.out, H2.out⟩
end Go.Proofs.YtokjmgkoifakdaaDoor
namespace Go.Proofs.YtokjmgkoifakdaaDoor
set_option linter.unusedVariables false
open Go
section
variable {P : Program} {md : Region.Mode} {ops : Array Oper} {Q : Exit → Act → World → Prop} {S : World → Prop} {last : Nat}
/-- Whatever order is picked, and S holds behind every operation but the last. -/
def wpAnyL (P : Program) (md : Region.Mode) (ops : Array Oper) (Q : Exit → Act → World → Prop) (S : World → Prop) (last : Nat) : Nat → Array Bool → Act → World → Prop
  | 0, l, a, w => Region.ready md ops l = [] ∧ Q .normal a w
  | n + 1, l, a, w => (Region.ready md ops l = [] → Q .normal a w) ∧
    ∀ i ∈ Region.ready md ops l, wpOp P ops Q i (fun a' w' => (i ≠ last → S w') ∧ wpAnyL P md ops Q S last n (l.setIfInBounds i true) a' w') a w
theorem wpAny_of_L : ∀ (n : Nat) (l : Array Bool) (a : Act) (w : World), wpAnyL P md ops Q S last n l a w → wpAny P md ops Q n l a w
  | 0, _, _, _, h => h
  | n + 1, _, _, _, h => ⟨h.1, fun i hi => wpOp_mono (fun a' w' k => wpAny_of_L n _ a' w' k.2) (h.2 i hi)⟩
theorem L_first {i : Nat} {oi : Oper} {v : Value} (hi : ops[i]? = some oi) (hsel : ∀ (j : Nat) (o : Oper) cs b, ops[j]? = some o → o.op ≠ .select cs b)
    (hQ : ∀ c a w, Q (.panic c) (a.put oi.dst v) w → Q (.panic c) a w) (hl : ∀ o, ops[last]? = some o → ∃ e ∈ o.after, Region.binds md e = true ∧ e.on = i) :
    ∀ (n : Nat) (l : Array Bool) (a : Act) (w : World),
      (∀ j oj, ops[j]? = some oj → j ≠ i → l.getD j true = false → (∀ e ∈ oj.after, Region.binds md e = true → e.on ≠ i) → oi.apart ops oj = true) →
      i ∈ Region.ready md ops l → YieldsIf P ops S oi v a → S w →
      wpAnyL P md ops Q S last n (l.setIfInBounds i true) (a.put oi.dst v) w → wpAnyL P md ops Q S last (n + 1) l a w := by
  intro n
  induction n with
  | zero =>
    intro l a w _ hr hy hS H
    refine ⟨fun h => (by rw [h] at hr; cases hr), fun j hj => ?_⟩
    by_cases hji : j = i
    · subst hji; exact hy.wpOp hi hS ⟨fun _ => hS, H⟩
    · have h0 := ready_mono hj hji
      rw [H.1] at h0
      cases h0
  | succ n ih =>
    intro l a w hfree hr hy hS H
    refine ⟨fun h => (by rw [h] at hr; cases hr), fun j hj => ?_⟩
    by_cases hji : j = i
    · subst hji; exact hy.wpOp hi hS ⟨fun _ => hS, H⟩
    · have h1 := H.2 j (ready_mono hj hji)
      obtain ⟨hjun, oj, hoj, hall⟩ := mem_ready.1 hj
      have hnot : ∀ e ∈ oj.after, Region.binds md e = true → e.on ≠ i := fun e he hb heq => by
        have h1 := hall e he hb
        have h0 := (mem_ready.1 hr).1
        rw [heq] at h1
        rcases Nat.lt_or_ge i l.size with h' | h'
        · simp [h'] at h0 h1; rw [h0] at h1; cases h1
        · simp [Array.getElem?_eq_none h'] at h1
      have hjl : j ≠ last := fun e => by
        subst e
        obtain ⟨e, he, hb, ho⟩ := hl oj hoj
        exact hnot e he hb ho
      have h2 := wpOp_putIf hoj (hfree j oj hoj hji hjun hnot) (fun cs b => hsel i oi cs b hi) (fun cs b => hsel j oj cs b hoj) hQ hy h1
      have hfree' : ∀ k ok, ops[k]? = some ok → k ≠ i → (l.setIfInBounds j true).getD k true = false →
          (∀ e ∈ ok.after, Region.binds md e = true → e.on ≠ i) → oi.apart ops ok = true := fun k ok hk hki hun hno => by
        refine hfree k ok hk hki ?_ hno
        by_cases hjk : j = k
        · subst hjk; exact hjun
        · rw [getD_set_ne true hjk] at hun; exact hun
      refine wpOp_mono (fun a' w' h3 => ⟨h3.2.1, ih (l.setIfInBounds j true) a' w' hfree' (ready_mono hr (Ne.symm hji)) h3.1 (h3.2.1 hjl) ?_⟩) h2
      rw [Array.setIfInBounds_comm _ _ hji]
      exact h3.2.2
/-- Does the last wait for i? -/
def waitsB (md : Region.Mode) (ops : Array Oper) (last i : Nat) : Bool := match ops[last]? with
  | some o => o.after.any fun e => Region.binds md e && e.on == i
  | none => true
theorem waits_of {i : Nat} (h : waitsB md ops last i = true) : ∀ o, ops[last]? = some o → ∃ e ∈ o.after, Region.binds md e = true ∧ e.on = i := fun o ho => by
  unfold waitsB at h
  rw [ho] at h
  simp only [Array.any_eq_true', Bool.and_eq_true, beq_iff_eq] at h
  obtain ⟨e, he, h1, h2⟩ := h
  exact ⟨e, he, h1, h2⟩
theorem L_take {i : Nat} {oi : Oper} {v : Value} {n : Nat} {l : Array Bool} {a : Act} {w : World} (hi : ops[i]? = some oi)
    (hs : Region.noSelect ops = true) (hf : Region.free md ops l i = true) (hr : (Region.ready md ops l).contains i = true) (hw : waitsB md ops last i = true)
    (hQ : ∀ c a w, Q (.panic c) (a.put oi.dst v) w → Q (.panic c) a w) (hy : YieldsIf P ops S oi v a) (hS : S w)
    (h : wpAnyL P md ops Q S last n (l.setIfInBounds i true) (a.put oi.dst v) w) : wpAnyL P md ops Q S last (n + 1) l a w :=
  L_first hi (Region.noSelect_spec hs) hQ (waits_of hw) n l a w (Region.free_spec hi hf) (by simpa using hr) hy hS h
theorem L_one {i : Nat} {o : Oper} {n : Nat} {l : Array Bool} {a : Act} {w : World} (hr : Region.ready md ops l = [i]) (hi : ops[i]? = some o)
    (h : ∀ K : Act → World → Prop, (∀ a' w', (i ≠ last → S w') → wpAnyL P md ops Q S last n (l.setIfInBounds i true) a' w' → K a' w') →
      if Region.wanted o (yielded ops a.tmps) = true then Oper.wp P o a w K Q else K (a.put o.dst undef) w) : wpAnyL P md ops Q S last (n + 1) l a w := by
  refine ⟨fun h0 => (by rw [h0] at hr; cases hr), fun j hj => ?_⟩
  rw [hr] at hj
  obtain rfl : j = i := by simpa using hj
  exact wpOp_step hi (fun K' hK => h K' fun a w p q => hK a w ⟨p, q⟩)
theorem L_one' {i : Nat} {o : Oper} {rest : List Oper} {n : Nat} {l : Array Bool} {a : Act} {w : World} (hd : ops.toList.drop i = o :: rest) (hr : Region.ready md ops l = [i])
    (h : ∀ K : Act → World → Prop, (∀ a' w', (i ≠ last → S w') → wpAnyL P md ops Q S last n (l.setIfInBounds i true) a' w' → K a' w') →
      if Region.wanted o (yielded ops a.tmps) = true then Oper.wp P o a w K Q else K (a.put o.dst undef) w) : wpAnyL P md ops Q S last (n + 1) l a w := by
  refine L_one (o := o) hr ?_ h
  have e : (ops.toList.drop i)[0]? = some o := by rw [hd]; rfl
  rw [List.getElem?_drop, Nat.add_zero, Array.getElem?_toList] at e
  exact e
theorem L_take' {i : Nat} {oi : Oper} {rest : List Oper} {v : Value} {n : Nat} {l : Array Bool} {a : Act} {w : World} (hd : ops.toList.drop i = oi :: rest)
    (hs : Region.noSelect ops = true) (hf : Region.free md ops l i = true) (hr : (Region.ready md ops l).contains i = true) (hw : waitsB md ops last i = true)
    (hQ : ∀ c a w, Q (.panic c) (a.put oi.dst v) w → Q (.panic c) a w) (hy : YieldsIf P ops S oi v a) (hS : S w)
    (h : wpAnyL P md ops Q S last n (l.setIfInBounds i true) (a.put oi.dst v) w) : wpAnyL P md ops Q S last (n + 1) l a w := by
  refine L_take (oi := oi) ?_ hs hf hr hw hQ hy hS h
  have e : (ops.toList.drop i)[0]? = some oi := by rw [hd]; rfl
  rw [List.getElem?_drop, Nat.add_zero, Array.getElem?_toList] at e
  exact e
theorem L_done {l : Array Bool} {a : Act} {w : World} (hr : Region.ready md ops l = []) (h : Q .normal a w) : ∀ n, wpAnyL P md ops Q S last n l a w
  | 0 => ⟨hr, h⟩
  | _ + 1 => ⟨fun _ => h, by rw [hr]; simp⟩
theorem wp_region_L {id : Nat} {a : Act} {w : World} (last : Nat) (S : World → Prop) (hm : P.follows .mixedOrders = true) (hS : S w.drew)
    (h : S w.drew → wpAnyL P .any ops Q S last ops.size (Array.replicate ops.size false) a w.drew) : (Code.region id ops true).wp P Q a w :=
  wp_region_any hm (wpAny_of_L _ _ _ _ (h hS))
end
end Go.Proofs.YtokjmgkoifakdaaDoor
namespace Go.Proofs.YtokjmgkoifakdaaDoor
set_option linter.unusedVariables false
open Go Go.RowKit Go.Shelf Pl
/-- The vectors so far: reader R, point P (its fields f), the row u in blocks from B on. -/
structure DV (w : World) (s : ByteArray) (R P B : Nat) (i : Int) (u f : Value) (L : List Vec) (r : Rs) (W : World) : Prop where
  rd : BAt R s r W
  pt : W.heap[P]? = some (.cells #[.int .i64 i, u, f] 29 (0, 0))
  vs : VRow B W u L
  below : Below w.heap.size w W
  zero : W.heap[w.heap.size]? = some zPt
theorem DV.kr {w W W' : World} {s : ByteArray} {R P B : Nat} {i : Int} {u f : Value} {L : List Vec} {r r' : Rs} (h : DV w s R P B i u f L r W) (hR : w.heap.size < R) (hRP : R < P) (hPB : P < B) (k : Kr R W W') (hb : BAt R s r' W') : DV w s R P B i u f L r' W' := by
  obtain ⟨h1, h2, h3, h4, h5⟩ := h
  have hp : P < W.heap.size := (Array.getElem?_eq_some_iff.1 h2).1
  have hz : w.heap.size < W.heap.size := (Array.getElem?_eq_some_iff.1 h5).1
  exact ⟨hb, (k.block P hp (by omega)).trans h2, h3.kept k.size (fun g hg1 hg2 => k.block g hg2 (by omega)), h4.trans (k.below (by omega) h4.size), (k.block _ hz (by omega)).trans h5⟩
theorem DV.fresh {w W W' : World} {s : ByteArray} {R P B : Nat} {i : Int} {u f : Value} {L : List Vec} {r : Rs} (h : DV w s R P B i u f L r W) (hR : w.heap.size < R) (hRP : R < P) (hPB : P < B) (k : Below W.heap.size W W') : DV w s R P B i u f L r W' :=
  h.kr hR hRP hPB (Kr.of k) (h.rd.moved (k.block R h.rd.lt))
theorem short_mono {α : Type} {f : Rs → α × Rs} (hf : Mono f) {r : Rs} (h : r.short = true) : (f r).2.short = true := by
  cases c : (f r).2.short with
  | true => rfl
  | false => have := (hf r [] c).1; rw [h] at this; cases this
theorem many_short {α : Type} {f : Rs → α × Rs} (hf : Mono f) {n j : Nat} {r1 rs : Rs} {done : List α} (h : manyR f n r1 = (done ++ (manyR f (n - j) rs).1, (manyR f (n - j) rs).2)) (hs : rs.short = true) : (manyR f n r1).2.short = true := by
  rw [h]; exact short_mono (manyR_mono hf (n - j)) hs
theorem many_short1 {α : Type} {f : Rs → α × Rs} (hf : Mono f) {n j : Nat} {r1 rs : Rs} {done : List α} (h : manyR f n r1 = (done ++ (manyR f (n - j) rs).1, (manyR f (n - j) rs).2)) (hj : j < n) (hs : (f rs).2.short = true) : (manyR f n r1).2.short = true :=
  many_short hf (many_step h hj) hs
/-- A row of parts read so far: all of it as the plain reader reads, or too little is there, and then so it is at the end. -/
def IRd (s : ByteArray) (R Y : Nat) (nm : Nm) (m : Nat) (r3 : Rs) (fin : Prop) (W1 : World) (v : Value) (dl : List Int) (rq : Rs) (wx : World) : Prop :=
  BAt R s rq wx ∧ Kr R W1 wx ∧ wx.heap[Y]? = some (.cells #[.string nm, v] 52 (0, 0)) ∧ wx.ownsRow (Y + 1) 3 1 v dl.length (iCells dl) ∧
    ((rq.short = false ∧ manyR partR m r3 = (dl ++ (manyR partR (m - dl.length) rq).1, (manyR partR (m - dl.length) rq).2)) ∨ (rq.short = true ∧ fin))
/-- Only blocks R and P, of those that were there, have turned. -/
structure KrP (R P : Nat) (w w' : World) : Prop where
  os : w'.os = w.os
  tape : w'.tape = w.tape
  output : w'.output = w.output
  size : w.heap.size ≤ w'.heap.size
  block : ∀ b, b < w.heap.size → b ≠ R → b ≠ P → w'.heap[b]? = w.heap[b]?
theorem KrP.refl (R P : Nat) (w : World) : KrP R P w w := ⟨rfl, rfl, rfl, Nat.le_refl _, fun _ _ _ _ => rfl⟩
theorem KrP.then {R P : Nat} {w w1 w2 : World} (h : KrP R P w w1) (k : Kr R w1 w2) : KrP R P w w2 :=
  ⟨k.os.trans h.os, k.tape.trans h.tape, k.output.trans h.output, Nat.le_trans h.size k.size, fun b hb h1 h2 => (k.block b (Nat.lt_of_lt_of_le hb h.size) h1).trans (h.block b hb h1 h2)⟩
/-- The fields so far, behind all vectors. -/
def FInv (s : ByteArray) (R P : Nat) (wB : World) (i : Int) (u : Value) (n : Nat) (r1 : Rs) (k : Nat) (fd : List Fld) (rq : Rs) (f : Value) (wx : World) : Prop :=
  fd.length = k ∧ BAt R s rq wx ∧ KrP R P wB wx ∧ wx.heap[P]? = some (.cells #[.int .i64 i, u, f] 29 (0, 0)) ∧ wx.ownsRow wB.heap.size 56 4 f fd.length (fCells fd) ∧
    ((rq.short = false ∧ manyR fldR n r1 = (fd ++ (manyR fldR (n - k) rq).1, (manyR fldR (n - k) rq).2)) ∨ (rq.short = true ∧ (leftOf s).short = true))
theorem fld_tail {s : ByteArray} {R P n k : Nat} {wB : World} {i : Int} {u : Value} {r1 rq : Rs} {fd : List Fld} {pf : Option Addr} {cf : Nat} {aF : World} (x : Fld)
    (hk : fd.length = k) (hb : BAt R s rq aF) (hkP : KrP R P wB aF) (hP : aF.heap[P]? = some (.cells #[.int .i64 i, u, .slice pf k cf] 29 (0, 0)))
    (ho : aF.ownsRow wB.heap.size 56 4 (.slice pf k cf) k (fCells fd)) (hl : k < 256) (hPB : P < wB.heap.size) (hRB : R < wB.heap.size) (hRP : R < P)
    (hor : (rq.short = false ∧ manyR fldR n r1 = ((fd ++ [x]) ++ (manyR fldR (n - (k + 1)) rq).1, (manyR fldR (n - (k + 1)) rq).2)) ∨ (rq.short = true ∧ (leftOf s).short = true)) :
    ∃ p9 c9 w9, (∀ ty, (Builtin.append_ #[27, 27] ty #[.slice pf k cf, .slice (some ⟨aF.heap.size, 0, none⟩) 1 1]).run Tryd.prog (aF.alloc (.cells #[.string x.name, .int .i64 x.val.kind, .int .i64 x.val.n, .string x.val.text] 56)) = .ok (.slice p9 (k + 1) c9) w9) ∧
      aF.cell? ⟨P, 2, none⟩ = some (.slice pf k cf) ∧ w9.cell? ⟨P, 2, none⟩ = some (.slice pf k cf) ∧ w9.frozen? ⟨P, 2, none⟩ = false ∧ FInv s R P wB i u n r1 (k + 1) (fd ++ [x]) rq (.slice p9 (k + 1) c9) (w9.setCell ⟨P, 2, none⟩ (.slice p9 (k + 1) c9)) := by
  obtain ⟨v9, w9, hr9, ho9, hb9, hn9, hs9, hv9⟩ := append_el (cs := [.string x.name, .int .i64 x.val.kind, .int .i64 x.val.n, .string x.val.text]) Tryd.underlying27 infoF rfl (by decide) ho rfl (fun u hu => by simp at hu; rcases hu with rfl | rfl | rfl | rfl <;> rfl) (by omega) (by unfold maxLen; omega) hkP.size
  obtain ⟨p9, c9, rfl⟩ := own_slice ho9
  have hP9 : w9.heap[P]? = _ := (hb9.block P hPB).trans hP
  have oth : ∀ b, b ≠ P → (w9.setCell ⟨P, 2, none⟩ (.slice p9 (k + 1) c9)).heap[b]? = w9.heap[b]? := fun b hb => heap_setCell_other _ _ _ _ hb
  have hsz : (w9.setCell ⟨P, 2, none⟩ (.slice p9 (k + 1) c9)).heap.size = w9.heap.size := by simp [World.setCell]
  refine ⟨p9, c9, w9, hr9, (cells3_at hP).2.2, (cells3_at hP9).2.2, Lib.frozen_of_heap hP9 2, by rw [List.length_append, hk]; rfl, hb.moved ((oth R (by omega)).trans (hb9.block R hRB)), ?_, setCell_row hP9 _, ?_, hor⟩
  · exact ⟨hb9.os.trans hkP.os, hb9.tape.trans hkP.tape, hb9.output.trans hkP.output, by rw [hsz]; exact Nat.le_trans hkP.size (Nat.le_of_lt hs9), fun b hb h1 h2 => by
      rw [oth b h2, hb9.block b hb]; exact hkP.block b hb h1 h2⟩
  · have e : fCells (fd ++ [x]) = fCells fd ++ [.string x.name, .int .i64 x.val.kind, .int .i64 x.val.n, .string x.val.text] := by simp [fCells]
    rw [e, List.length_append, hk]
    exact own_same ho9 (fun g hg => oth g (by have := own_lt ho9 hg; omega))
theorem fld_tail2 {s : ByteArray} {R P n k : Nat} {wB : World} {i : Int} {u : Value} {r1 rq : Rs} {fd : List Fld} {pf : Option Addr} {cf : Nat} {wx aF : World} (x : Fld)
    (hk : fd.length = k) (hkP : KrP R P wB wx) (hP : wx.heap[P]? = some (.cells #[.int .i64 i, u, .slice pf k cf] 29 (0, 0)))
    (ho : wx.ownsRow wB.heap.size 56 4 (.slice pf k cf) k (fCells fd)) (hl : k < 256) (hPB : P < wB.heap.size) (hRB : R < wB.heap.size) (hRP : R < P) (hkr : Kr R wx aF) (hb : BAt R s rq aF)
    (hor : (rq.short = false ∧ manyR fldR n r1 = ((fd ++ [x]) ++ (manyR fldR (n - (k + 1)) rq).1, (manyR fldR (n - (k + 1)) rq).2)) ∨ (rq.short = true ∧ (leftOf s).short = true)) :
    ∃ p9 c9 w9, (∀ ty, (Builtin.append_ #[27, 27] ty #[.slice pf k cf, .slice (some ⟨aF.heap.size, 0, none⟩) 1 1]).run Tryd.prog (aF.alloc (.cells #[.string x.name, .int .i64 x.val.kind, .int .i64 x.val.n, .string x.val.text] 56)) = .ok (.slice p9 (k + 1) c9) w9) ∧
      aF.cell? ⟨P, 2, none⟩ = some (.slice pf k cf) ∧ w9.cell? ⟨P, 2, none⟩ = some (.slice pf k cf) ∧ w9.frozen? ⟨P, 2, none⟩ = false ∧ FInv s R P wB i u n r1 (k + 1) (fd ++ [x]) rq (.slice p9 (k + 1) c9) (w9.setCell ⟨P, 2, none⟩ (.slice p9 (k + 1) c9)) :=
  fld_tail x hk hb (hkP.then hkr) ((hkr.block P (Nat.lt_of_lt_of_le hPB hkP.size) (by omega)).trans hP) (own_same ho (fun g hg => by
    have h9 := own_lt ho hg
    exact hkr.block g h9.2 (by omega))) hl hPB hRB hRP hor
theorem Kr.far {R Y : Nat} {w w' : World} (h : Kr R w w') (hY : w.heap.size ≤ Y) (k : Nat) (v : Value) : Kr R w (w'.setCell ⟨Y, k, none⟩ v) :=
  ⟨h.os, h.tape, h.output, by rw [show (w'.setCell ⟨Y, k, none⟩ v).heap.size = w'.heap.size by simp [World.setCell]]; exact h.size, fun b hb hn => (heap_setCell_other _ _ _ _ (fun (e : b = Y) => by omega)).trans (h.block b hb hn)⟩
theorem numR_zero (r : Rs) : numR 0 r = (0, r) := by
  obtain ⟨l, b⟩ := r
  unfold numR takeR
  rw [if_neg (by simp)]
  simp [unfL]
theorem szT_other {k : Nat} (h1 : k ≠ 1) (h2 : k ≠ 2) (h3 : k ≠ 3) : (szT k).1.toNat = 0 := by
  unfold szT
  split <;> first | omega | rfl
end Go.Proofs.YtokjmgkoifakdaaDoor
namespace Go.Proofs.YtokjmgkoifakdaaDoor
set_option linter.unusedVariables false
open Go Go.RowKit Go.Shelf Pl
theorem BAt.bad {R : Nat} {s : ByteArray} {r : Rs} {w : World} (h : BAt R s r w) : w.cell? ⟨R, 2, none⟩ = some (.bool r.short) := by
  rcases h with ⟨h0, a, h1, h2, h3⟩ | ⟨h0, h1, z, h2⟩
  · rw [h0]; exact (cells3_at h3).2.2
  · rw [h0]; exact (cells3_at h2).2.2
theorem cells2_at {w : World} {g : Nat} {a b : Value} {T : TypeId} (h : w.heap[g]? = some (.cells #[a, b] T (0, 0))) : w.cell? ⟨g, 0, none⟩ = some a ∧ w.cell? ⟨g, 1, none⟩ = some b := by
  refine ⟨?_, ?_⟩ <;> rw [Lib.cell_of_heap h] <;> rfl
theorem i64_lt {n : Nat} (h : n < 65536) : IntKind.i64.wrap (n : Int) = (n : Int) := by rw [IntKind.wrap_i64]; omega
theorem start_at (w : World) (s : ByteArray) : BAt (w.heap.size + 1) s ⟨s.data.toList, false⟩ ((w.alloc zPt).alloc (.cells #[.string s, .int .i64 0, .bool false] 123)) := by
  refine .inl ⟨rfl, 0, Nat.zero_le _, by simp, ?_⟩
  have z := heap_last (w.alloc zPt) (.cells #[.string s, .int .i64 0, .bool false] 123)
  rw [show (w.alloc zPt).heap.size = w.heap.size + 1 by simp] at z
  exact z
def VInv (w : World) (s : ByteArray) (R P n : Nat) (i : Int) (r1 : Rs) (k : Nat) (done : List Vec) (rs : Rs) (u : Value) (wr : World) : Prop :=
  done.length = k ∧ DV w s R P (P + 1) i u (.slice none 0 0) done rs wr ∧ ((rs.short = false ∧ manyR vecR n r1 = (done ++ (manyR vecR (n - k) rs).1, (manyR vecR (n - k) rs).2)) ∨ (rs.short = true ∧ (leftOf s).short = true))
set_option maxHeartbeats 8000000 in
set_option maxRecDepth 100000 in
theorem rdec_any (s : ByteArray) (w : World) (hs : s.size ≤ 281474976710656) :
    Calls Tryd.prog 21 #[.string s] w (DecP w s) := by
  have hb0 : Below w.heap.size w ((w.alloc zPt).alloc (.cells #[.string s, .int .i64 0, .bool false] 123)) := (fresh_alloc w _).alloc (by simp) _
  have hz0 : ((w.alloc zPt).alloc (.cells #[.string s, .int .i64 0, .bool false] 123)).heap[w.heap.size]? = some zPt := by rw [heap_old _ _ (by simp)]; exact heap_last w _
  have hR0 := start_at w s
  have hsz0 : ((w.alloc zPt).alloc (.cells #[.string s, .int .i64 0, .bool false] 123)).heap.size = w.heap.size + 2 := by simp
  have HS := Lib.hid hs
  have HB0 := Lib.hid hb0
  have HZ0 := Lib.hid hz0
  have HR0 := Lib.hid hR0
  have HSZ0 := Lib.hid hsz0
  obtain ⟨i, hi⟩ : ∃ i, i = i64N (numR 8 ⟨s.data.toList, false⟩).1 := ⟨_, rfl⟩
  have hwi : IntKind.i64.wrap ((numR 8 ⟨s.data.toList, false⟩).1 : Int) = i := hi.symm
  have HI := Lib.hid hi
  clear hs hb0 hz0 hR0 hsz0 hi
  go_enter Tryd.func21, Tryd.ntmps21
  unfold zPt at HB0 HZ0 HR0 HSZ0
  go_wp2_with fail
  have CN8 := bnum_any _ s _ 8 _ HR0.out HS.out (by omega) 8 rfl
  generalize (w.alloc (.cells #[.int .i64 0, .slice none 0 0, .slice none 0 0] 29)).alloc (.cells #[.string s, .int .i64 0, .bool false] 123) = W0 at *
  refine CN8.mono ?_
  rintro e w1 ⟨rfl, hb1, hk1⟩
  have HB1 := Lib.hid hb1
  have HK1 := Lib.hid hk1
  clear hb1 hk1 CN8
  have HRR : Hid ((numR 8 ⟨s.data.toList, false⟩).2 = (numR 8 ⟨s.data.toList, false⟩).2) := Lib.hid rfl
  obtain ⟨r0, hr0⟩ : ∃ r0, r0 = (numR 8 ⟨s.data.toList, false⟩).2 := ⟨_, rfl⟩
  rw [← hr0] at HB1
  have HR0E := Lib.hid hr0
  clear hr0 HRR
  generalize ((numR 8 ⟨s.data.toList, false⟩).1 : Int) = z8 at hwi ⊢
  go_wp2_with fail
  -- the point's own block
  have hbn : BAt (w.heap.size + 1) s r0 (w1.alloc (.cells #[.int .i64 i, .slice none 0 0, .slice none 0 0] 29)) := HB1.out.moved (heap_old _ _ HB1.out.lt)
  have CN1 := bnum_any _ s _ 1 _ hbn HS.out (by omega) 1 rfl
  have hP : (w1.alloc (.cells #[.int .i64 i, .slice none 0 0, .slice none 0 0] 29)).heap[w1.heap.size]? = some (.cells #[.int .i64 i, .slice none 0 0, .slice none 0 0] 29 (0, 0)) := heap_last w1 _
  have hPz : w.heap.size + 2 ≤ w1.heap.size := by have := HK1.out.size; rw [HSZ0.out] at this; exact this
  have hz1 : (w1.alloc (.cells #[.int .i64 i, .slice none 0 0, .slice none 0 0] 29)).heap[w.heap.size]? = some zPt := by
    rw [heap_old _ _ (by omega), HK1.out.block _ (by rw [HSZ0.out]; omega) (by omega)]; exact HZ0.out
  have hbel : Below w.heap.size w (w1.alloc (.cells #[.int .i64 i, .slice none 0 0, .slice none 0 0] 29)) :=
    (HB0.out.trans (HK1.out.below (by omega) HB0.out.size)).alloc (by omega) _
  have HDV0 : Hid (DV w s (w.heap.size + 1) w1.heap.size (w1.heap.size + 1) i (.slice none 0 0) (.slice none 0 0) [] r0 (w1.alloc (.cells #[.int .i64 i, .slice none 0 0, .slice none 0 0] 29))) := Lib.hid ⟨hbn, hP, VRow.nil _ _, hbel, hz1⟩
  have HPZ := Lib.hid hPz
  clear hbn hP hPz hz1 hbel HB0 HZ0 HR0 HSZ0 HB1 HK1
  generalize w1.alloc (.cells #[.int .i64 i, .slice none 0 0, .slice none 0 0] 29) = W1 at *
  generalize w1.heap.size = P at *
  obtain ⟨R, hR⟩ : ∃ R, R = w.heap.size + 1 := ⟨_, rfl⟩
  rw [← hR] at HDV0 CN1 ⊢
  have HRE := Lib.hid hR
  clear hR
  refine CN1.mono ?_
  rintro e w2 ⟨rfl, hb2, hk2⟩
  obtain ⟨n, hn⟩ : ∃ n, n = (numR 1 r0).1 := ⟨_, rfl⟩
  obtain ⟨r1, hr1⟩ : ∃ r1, r1 = (numR 1 r0).2 := ⟨_, rfl⟩
  have hn256 : n < 256 := by rw [hn]; exact numR_lt 1 r0
  have HN256 := Lib.hid hn256
  have hwn : IntKind.i64.wrap (n : Int) = (n : Int) := i64_lt (by omega)
  rw [← hr1] at hb2
  rw [← hn]
  have HDV := Lib.hid (HDV0.out.kr (by have := HRE.out; omega) (by have := HRE.out; have := HPZ.out; omega) (by omega) hk2 hb2)
  have HNE := Lib.hid hn
  have HR1E := Lib.hid hr1
  have hfin : (manyR vecR n r1).2.short = true → (leftOf s).short = true := fun h => by
    unfold leftOf
    rw [ptR_eq]
    refine short_mono (severalR_mono fldR_mono) ?_
    rw [← HR0E.out]
    unfold severalR
    rw [← hn, ← hr1]; exact h
  have HFIN := Lib.hid hfin
  have HR1S : Hid (r1.short = true → (leftOf s).short = true) := Lib.hid (fun h => hfin (short_mono (manyR_mono vecR_mono n) h))
  clear hb2 hk2 CN1 hn hr1 hfin hn256 HDV0
  go_wp2_with fail
  clear hwn hwi
  go_loopw [8] (fun i' wr => ∃ (k : Nat) (done : List Vec) (rs : Rs) (u : Value), i' = .int .i64 (k : Int) ∧ k ≤ n ∧ Hid (VInv w s R P n i r1 k done rs u wr)) (fun i' _ => n - (intOf i').toNat)
  case atStart =>
    refine ⟨0, [], r1, _, rfl, Nat.zero_le _, Lib.hid ⟨rfl, HDV.out, ?_⟩⟩
    cases hc : r1.short with
    | false => exact .inl ⟨rfl, by simp⟩
    | true => exact .inr ⟨rfl, HR1S.out hc⟩
  case round =>
    obtain ⟨k, done, rs, u, rfl, hk, HV⟩ := hrel
    obtain ⟨hd, hdv, hor⟩ := HV.out
    obtain ⟨wz, rfl⟩ : ∃ wz : World, wz = wr := ⟨_, rfl⟩
    have hbad := hdv.rd.bad
    by_cases hgo : k < n ∧ rs.short = false
    · obtain ⟨hlt, hsh⟩ := hgo
      have heq : manyR vecR n r1 = (done ++ (manyR vecR (n - k) rs).1, (manyR vecR (n - k) rs).2) := by
        rcases hor with ⟨_, h⟩ | ⟨h, _⟩
        · exact h
        · rw [hsh] at h; cases h
      rw [hsh] at hbad
      have hlt' : (k : Int) < (n : Int) := by omega
      have CA := bnum_any _ s _ 1 _ hdv.rd HS.out (by omega) 1 rfl
      obtain ⟨l, hl⟩ : ∃ l, l = (numR 1 rs).1 := ⟨_, rfl⟩
      obtain ⟨ra, hra⟩ : ∃ ra, ra = (numR 1 rs).2 := ⟨_, rfl⟩
      have hl256 : l < 256 := by rw [hl]; exact numR_lt 1 rs
      rw [← hl, ← hra] at CA
      have CB := Lib.hid (fun W (h : BAt R s ra W) => cut_any R s ra l W h HS.out (by omega))
      obtain ⟨nm, hnm⟩ : ∃ nm, nm = tx (takeR l ra).1 := ⟨_, rfl⟩
      obtain ⟨rb, hrb⟩ : ∃ rb, rb = (takeR l ra).2 := ⟨_, rfl⟩
      rw [← hnm, ← hrb] at CB
      have hwl : IntKind.i64.wrap (l : Int) = (l : Int) := i64_lt (by omega)
      have htx : textR 1 rs = (nm, rb) := by
        rw [hnm, hrb, hra, hl]; rfl
      obtain ⟨m, hm⟩ : ∃ m, m = (numR 1 rb).1 := ⟨_, rfl⟩
      obtain ⟨r3, hr3⟩ : ∃ r3, r3 = (numR 1 rb).2 := ⟨_, rfl⟩
      have hm256 : m < 256 := by rw [hm]; exact numR_lt 1 rb
      have hwm : IntKind.i64.wrap (m : Int) = (m : Int) := i64_lt (by omega)
      have hvec : vecR rs = (⟨nm, (manyR partR m r3).1⟩, (manyR partR m r3).2) := by
        unfold vecR severalR
        rw [htx, hm, hr3]
      have CC := Lib.hid (fun W (h : BAt R s rb W) => bnum_any R s rb 1 W h HS.out (by omega) 1 rfl)
      rw [← hm, ← hr3] at CC
      have HVEC := Lib.hid hvec
      have HEQ := Lib.hid heq
      have HLT := Lib.hid hlt
      have HDONE := Lib.hid hd
      have HDVZ := Lib.hid hdv
      have HM := Lib.hid hm256
      have HSHV : Hid ((manyR partR m r3).2.short = true → (leftOf s).short = true) := Lib.hid (fun h => HFIN.out (many_short1 vecR_mono heq hlt (by rw [hvec]; exact h)))
      clear hor hsh heq hl hra hnm hrb htx hm hr3 hvec hlt hd hdv HV hl256 hm256
      go_wp2_with fail
      refine CA.mono ?_
      rintro e w3 ⟨rfl, hb3, hk3⟩
      have CB3 := CB.out w3 hb3
      have HK3 := Lib.hid hk3
      clear hb3 hk3 CA CB hbad
      go_wp2_with fail
      refine CB3.mono ?_
      rintro e w4 ⟨rfl, hb4, hk4⟩
      have HDV4 := Lib.hid (HDVZ.out.kr (by have := HRE.out; omega) (by have := HRE.out; have := HPZ.out; omega) (by omega) (HK3.out.trans hk4) hb4)
      have HB4 : Hid (Below w.heap.size w w4) := Lib.hid HDV4.out.below
      clear hb4 hk4 CB3 HK3
      go_wp2_with fail
      have hY : (w4.alloc (.cells #[.string nm, .slice none 0 0] 52)).heap[w4.heap.size]? = some (.cells #[.string nm, .slice none 0 0] 52 (0, 0)) := heap_last w4 _
      have hYf : Below w4.heap.size w4 (w4.alloc (.cells #[.string nm, .slice none 0 0] 52)) := fresh_alloc w4 _
      have hYR : R < w4.heap.size := HDV4.out.rd.lt
      have hYP : P < w4.heap.size := (Array.getElem?_eq_some_iff.1 HDV4.out.pt).1
      have hYz : w4.heap.size < (w4.alloc (.cells #[.string nm, .slice none 0 0] 52)).heap.size := by simp
      have CC5 := CC.out _ (HDV4.out.rd.moved (hYf.block R hYR))
      generalize w4.alloc (.cells #[.string nm, .slice none 0 0] 52) = W5 at *
      refine CC5.mono ?_
      rintro e w6 ⟨rfl, hb6, hk6⟩
      have hkY : Kr R w4 w6 := (Kr.of hYf).trans hk6
      have hY6 : w6.heap[w4.heap.size]? = some (.cells #[.string nm, .slice none 0 0] 52 (0, 0)) := (hk6.block _ hYz (by omega)).trans hY
      have HI0 : Hid (IRd s R w4.heap.size nm m r3 ((leftOf s).short = true) w4 (.slice none 0 0) [] r3 w6) := Lib.hid ⟨hb6, hkY, hY6, World.ownsRow_nil _ _ _ _, by
        cases hc : r3.short with
        | false => exact .inl ⟨rfl, by simp⟩
        | true => exact .inr ⟨rfl, HSHV.out (short_mono (manyR_mono partR_mono m) hc)⟩⟩
      have HYR := Lib.hid hYR
      have HYP := Lib.hid hYP
      clear hY hYf hYR hYP hYz CC CC5 hb6 hk6 hkY hY6
      generalize hYY : w4.heap.size = Y at *
      have HYY := Lib.hid hYY
      clear hYY
      go_wp2_with fail
      go_loopw [11] (fun i' wx => ∃ (j : Nat) (dl : List Int) (rq : Rs) (v : Value), i' = .int .i64 (j : Int) ∧ j ≤ m ∧ dl.length = j ∧ Hid (IRd s R Y nm m r3 ((leftOf s).short = true) w4 v dl rq wx)) (fun i' _ => m - (intOf i').toNat)
      case atStart => exact ⟨0, [], r3, _, rfl, Nat.zero_le _, rfl, HI0⟩
      case round =>
        obtain ⟨j, dl, rq, v, rfl, hj, rfl, HIR⟩ := hrel
        obtain ⟨hb, hk9, hy, hown, hor⟩ := HIR.out
        obtain ⟨wx, rfl⟩ : ∃ wx : World, wx = wr := ⟨_, rfl⟩
        have hbad := hb.bad
        by_cases hgo : dl.length < m ∧ rq.short = false
        · obtain ⟨hlt, hsh⟩ := hgo
          have heq : manyR partR m r3 = (dl ++ (manyR partR (m - dl.length) rq).1, (manyR partR (m - dl.length) rq).2) := by
            rcases hor with ⟨_, h⟩ | ⟨h, _⟩
            · exact h
            · rw [hsh] at h; cases h
          rw [hsh] at hbad
          have hlt' : (dl.length : Int) < (m : Int) := by omega
          obtain ⟨pv, cv, rfl⟩ := own_slice hown
          obtain ⟨y0, y1⟩ := cells2_at hy
          have CQ := bnum_any R s rq 2 wx.drew (hb.moved rfl) HS.out (by omega) 2 rfl
          obtain ⟨z, hz⟩ : ∃ z, z = (numR 2 rq).1 := ⟨_, rfl⟩
          obtain ⟨rn, hrn⟩ : ∃ rn, rn = (numR 2 rq).2 := ⟨_, rfl⟩
          have hz64 : z < 65536 := by rw [hz]; exact numR_lt 2 rq
          rw [← hz, ← hrn] at CQ
          have hpart : partR rq = ((z : Int) - 32768, rn) := by unfold partR; rw [hz, hrn]
          have hwz : IntKind.i64.wrap (z : Int) = (z : Int) := i64_lt hz64
          obtain ⟨x, hx⟩ : ∃ x : Int, x = (z : Int) - 32768 := ⟨_, rfl⟩
          have hwx : wrap64 ((z : Int) - 32768) = x := by rw [hx]; unfold wrap64; omega
          have hwx' : IntKind.i64.wrap ((z : Int) - 32768) = x := by rw [IntKind.wrap_i64, hx]; omega
          have HXE := Lib.hid hx
          clear hz hrn hx
          have S0 : wx.drew.cell? ⟨Y, 1, none⟩ = some (.slice pv dl.length cv) := y1
          go_wp2_with fail
          refine wp_region_L 9 (fun X => X.cell? ⟨Y, 1, none⟩ = some (.slice pv dl.length cv)) (by kernel_rfl) S0 fun hSS => ?_
          refine L_take' (i := 0) (v := ?vv0) rfl (by kernel_rfl) (by kernel_rfl) (by kernel_rfl) (by kernel_rfl) (fun _ _ _ h => h) (Or.inl ⟨by rfl, ?hy0⟩) (by assumption) ?rest0
          case hy0 =>
            intro wy hSx
            go_simp
            all_goals with_reducible rfl
          try simp only [Act.put, List.setIfInBounds_toArray, List.set_cons_zero, List.set_cons_succ]
          refine L_take' (i := 1) (v := ?vv1) rfl (by kernel_rfl) (by kernel_rfl) (by kernel_rfl) (by kernel_rfl) (fun _ _ _ h => h) (Or.inl ⟨by rfl, ?hy1⟩) (by assumption) ?rest1
          case hy1 =>
            intro wy hSx
            go_simp
            all_goals with_reducible rfl
          try simp only [Act.put, List.setIfInBounds_toArray, List.set_cons_zero, List.set_cons_succ]
          refine L_take' (i := 2) (v := ?vv2) rfl (by kernel_rfl) (by kernel_rfl) (by kernel_rfl) (by kernel_rfl) (fun _ _ _ h => h) (Or.inl ⟨by rfl, ?hy2⟩) (by assumption) ?rest2
          case hy2 =>
            intro wy hSx
            go_simp
            all_goals with_reducible rfl
          try simp only [Act.put, List.setIfInBounds_toArray, List.set_cons_zero, List.set_cons_succ]
          refine L_one' (i := 3) rfl (by kernel_rfl) fun K hK => ?_
          go_simp
          refine CQ.mono ?_
          rintro e w7 ⟨rfl, hb7, hk7⟩
          have hk7' : Kr R wx w7 := (Kr.of (Below.refl _ _).drew).trans hk7
          have hYx : Y < wx.heap.size := (Array.getElem?_eq_some_iff.1 hy).1
          have hy7 := (hk7'.block Y hYx (by have := HYR.out; omega)).trans hy
          have S7 : w7.cell? ⟨Y, 1, none⟩ = some (.slice pv dl.length cv) := (cells2_at hy7).2
          have hown7 : w7.ownsRow (Y + 1) 3 1 (.slice pv dl.length cv) dl.length (iCells dl) := own_same hown (fun g hg => by
            have h9 := own_lt hown hg
            exact hk7'.block g h9.2 (by have := HYR.out; omega))
          obtain ⟨v8, w8, hr8, ho8, hb8, hn8, hs8, hv8⟩ := append_el (cs := [.int .i64 x]) Tryd.underlying50 infoI rfl (by decide) hown7 rfl (fun u hu => by simp at hu; subst hu; rfl) (by have := HM.out; omega) (by have := HM.out; unfold maxLen; omega) (by have := (Array.getElem?_eq_some_iff.1 hy7).1; omega)
          have S7a : (w7.alloc (.cells #[.int .i64 x] 3)).cell? ⟨Y, 1, none⟩ = some (.slice pv dl.length cv) := (cells2_at ((heap_old w7 _ (Array.getElem?_eq_some_iff.1 hy7).1).trans hy7)).2
          have hy8 : w8.heap[Y]? = some (.cells #[.string nm, .slice pv dl.length cv] 52 (0, 0)) := (hb8.block Y (by omega)).trans hy7
          have S8 : w8.cell? ⟨Y, 1, none⟩ = some (.slice pv dl.length cv) := (cells2_at hy8).2
          have k8 : w8.frozen? ⟨Y, 1, none⟩ = false := Lib.frozen_of_heap hy8 1
          obtain ⟨pv8, cv8, rfl⟩ := own_slice ho8
          dsimp only
          refine hK _ _ (fun _ => S7) ?_
          clear K hK
          try simp only [Act.put, List.setIfInBounds_toArray, List.set_cons_zero, List.set_cons_succ]
          refine L_one' (i := 4) rfl (by kernel_rfl) fun K hK => ?_
          go_simp
          refine hK _ _ (fun _ => S7) ?_
          clear K hK
          try simp only [Act.put, List.setIfInBounds_toArray, List.set_cons_zero, List.set_cons_succ]
          refine L_one' (i := 5) rfl (by kernel_rfl) fun K hK => ?_
          go_simp
          refine hK _ _ (fun _ => S7) ?_
          clear K hK
          try simp only [Act.put, List.setIfInBounds_toArray, List.set_cons_zero, List.set_cons_succ]
          refine L_one' (i := 6) rfl (by kernel_rfl) fun K hK => ?_
          go_simp
          refine hK _ _ (fun _ => S7a) ?_
          clear K hK
          try simp only [Act.put, List.setIfInBounds_toArray, List.set_cons_zero, List.set_cons_succ]
          refine L_one' (i := 7) rfl (by kernel_rfl) fun K hK => ?_
          refine step_append_run (by rfl) _ _ _ _ (by rfl) _ _ (.slice pv8 (dl.length + 1) cv8) w8 (by rfl) (by rfl) hr8 ?_
          refine hK _ _ (fun _ => S8) ?_
          clear K hK
          try simp only [Act.put, List.setIfInBounds_toArray, List.set_cons_zero, List.set_cons_succ]
          refine L_one' (i := 8) rfl (by kernel_rfl) fun K hK => ?_
          go_simp
          refine hK _ _ (fun _ => S8) ?_
          clear K hK
          try simp only [Act.put, List.setIfInBounds_toArray, List.set_cons_zero, List.set_cons_succ]
          refine L_one' (i := 9) rfl (by kernel_rfl) fun K hK => ?_
          go_simp
          refine hK _ _ (fun h => absurd rfl h) ?_
          clear K hK
          try simp only [Act.put, List.setIfInBounds_toArray, List.set_cons_zero, List.set_cons_succ]
          refine L_done (by kernel_rfl) ?_ _
          have HNI : Hid (IRd s R Y nm m r3 ((leftOf s).short = true) w4 (.slice pv8 (dl.length + 1) cv8) (dl ++ [x]) rn (w8.setCell ⟨Y, 1, none⟩ (.slice pv8 (dl.length + 1) cv8))) := Lib.hid (by
            have ho : ∀ b, b ≠ Y → (w8.setCell ⟨Y, 1, none⟩ (.slice pv8 (dl.length + 1) cv8)).heap[b]? = w8.heap[b]? := fun b hb => heap_setCell_other _ _ _ _ hb
            have hRx : R < w7.heap.size := hb7.lt
            refine ⟨hb7.moved ((ho R (by have := HYR.out; omega)).trans (hb8.block R (by have := HYR.out; omega))), ?_, setCell_row hy8 _, ?_, ?_⟩
            · have hk8 : Kr R w4 w7 := hk9.trans hk7'
              exact ⟨hb8.os.trans hk8.os, hb8.tape.trans hk8.tape, hb8.output.trans hk8.output, by
                rw [show (w8.setCell ⟨Y, 1, none⟩ (.slice pv8 (dl.length + 1) cv8)).heap.size = w8.heap.size by simp [World.setCell]]
                exact Nat.le_trans hk8.size (Nat.le_of_lt hs8), fun b hb hne => by
                have hbY : b < Y := by rw [← HYY.out]; exact hb
                rw [ho b (by omega), hb8.block b (by omega)]
                exact hk8.block b hb hne⟩
            · rw [List.length_append]
              have e : iCells (dl ++ [x]) = iCells dl ++ [.int .i64 x] := by simp [iCells]
              rw [e]
              exact own_same ho8 (fun g hg => ho g (by have := own_lt ho8 hg; omega))
            · have hst := many_step (f := partR) (done := dl) heq (by omega)
              rw [hpart] at hst
              have e1 : (dl ++ [x]).length = dl.length + 1 := by simp
              cases hc : rn.short with
              | false =>
                refine .inl ⟨rfl, ?_⟩
                rw [e1, hst, HXE.out]
              | true => exact .inr ⟨rfl, HSHV.out (many_short1 partR_mono heq (by omega) (by rw [hpart]; exact hc))⟩)
          have HJ := Lib.hid hlt
          clear hb hk9 hy hown hor hbad heq y0 y1 CQ hpart hwz hwx hwx' S0 hSS hb7 hk7 hk7' hYx hy7 S7 hown7 hr8 ho8 hb8 hn8 hs8 hv8 S7a hy8 S8 k8 hlt hz64
          go_wp2_with fail
          have hwj : wrap64 ((dl.length : Int) + 1) = ((dl.length + 1 : Nat) : Int) := by have := HJ.out; have := HM.out; unfold wrap64; omega
          go_roundw
          case rel => exact ⟨dl.length + 1, dl ++ [x], rn, _, congrArg _ hwj, HJ.out, by rw [List.length_append]; rfl, HNI⟩
          case measure => rw [hwj]; have := HJ.out; clear hwj; simp [intOf]; omega
        · have HFI : Hid ((rq.short = false ∧ vecR rs = (⟨nm, dl⟩, rq)) ∨ (rq.short = true ∧ (leftOf s).short = true)) := Lib.hid (by
            rcases hor with ⟨h, he⟩ | h
            · left
              have hjm : dl.length = m := by
                rcases Nat.lt_or_ge dl.length m with c | c
                · exact absurd ⟨c, h⟩ hgo
                · omega
              refine ⟨h, ?_⟩
              rw [HVEC.out, he, hjm, Nat.sub_self]
              simp [manyR]
            · exact .inr h)
          have hx2 : (¬ (dl.length : Int) < (m : Int)) ∨ ((dl.length : Int) < (m : Int) ∧ rq.short = true) := by
            by_cases c : dl.length < m
            · right
              refine ⟨by omega, ?_⟩
              cases hc : rq.short with
              | false => exact absurd ⟨c, hc⟩ hgo
              | true => rfl
            · left; omega
          have hdvx := HDV4.out.kr (by have := HRE.out; omega) (by have := HRE.out; have := HPZ.out; omega) (by omega) hk9 hb
          obtain ⟨pu, cu, hu⟩ := hdvx.vs.form
          subst hu
          obtain ⟨pv, cv, rfl⟩ := own_slice hown
          obtain ⟨y0, y1⟩ := cells2_at hy
          obtain ⟨p0, p1, p2⟩ := cells3_at hdvx.pt
          have hPx : P < wx.heap.size := (Array.getElem?_eq_some_iff.1 hdvx.pt).1
          have hRx : R < wx.heap.size := hdvx.rd.lt
          have hzx : w.heap.size < wx.heap.size := (Array.getElem?_eq_some_iff.1 hdvx.zero).1
          have hlvY : ∀ g, (Value.slice pu done.length cu).ownBlock = some g → g < Y + 1 := fun g hg => by
            obtain ⟨ss0, _, hh2, _⟩ := HDV4.out.vs
            have := (own_lt hh2 hg).2
            have := HYY.out
            omega
          have hdk : done.length = k := HDONE.out
          obtain ⟨ss, hss1, hss2, hss3⟩ := hdvx.vs
          obtain ⟨v9, w9, hr9, ho9, hb9, hn9, hs9, hv9⟩ := append_el (cs := [.string nm, .slice pv dl.length cv]) Tryd.underlying26 infoV rfl (by decide) hss2 rfl (fun u hu => by simp at hu; rcases hu with rfl | rfl <;> rfl) (by have := HN256.out; have := HLT.out; omega) (by have := HN256.out; have := HLT.out; unfold maxLen; omega) (by omega)
          have hV9 : VRow (P + 1) w9 v9 (done ++ [⟨nm, dl⟩]) := VRow.next ⟨ss, hss1, hss2, hss3⟩ (B2 := Y + 1) (by have := HYP.out; omega) hlvY hown (fun xs hxs => by
            obtain ⟨v6, w6', hr6, ho6, _⟩ := append_el (cs := [.string nm, .slice pv dl.length cv]) Tryd.underlying26 infoV rfl (by decide) hxs rfl (fun u hu => by simp at hu; rcases hu with rfl | rfl <;> rfl) (by have := HN256.out; have := HLT.out; omega) (by have := HN256.out; have := HLT.out; unfold maxLen; omega) (by omega)
            have e := (hr9 0).symm.trans (hr6 0)
            injection e with e1 e2
            subst e1 e2
            exact ho6) hn9 hs9 hv9
          have hpP : ∀ j, j < P + 1 → j < wx.heap.size := fun j hj => by omega
          have hP9 : w9.heap[P]? = some (.cells #[.int .i64 i, .slice pu done.length cu, .slice none 0 0] 29 (0, 0)) := (hb9.block P (by omega)).trans hdvx.pt
          have k9 : w9.frozen? ⟨P, 1, none⟩ = false := Lib.frozen_of_heap hP9 1
          have q9 : w9.cell? ⟨P, 1, none⟩ = some (.slice pu done.length cu) := (cells3_at hP9).2.1
          obtain ⟨pv9, cv9, rfl⟩ := own_slice ho9
          have HNV : Hid (VInv w s R P n i r1 (k + 1) (done ++ [⟨nm, dl⟩]) rq (.slice pv9 (done.length + 1) cv9) (w9.setCell ⟨P, 1, none⟩ (.slice pv9 (done.length + 1) cv9))) := Lib.hid (by
            have ho : ∀ b, b ≠ P → (w9.setCell ⟨P, 1, none⟩ (.slice pv9 (done.length + 1) cv9)).heap[b]? = w9.heap[b]? := fun b hb => heap_setCell_other _ _ _ _ hb
            have hsz : (w9.setCell ⟨P, 1, none⟩ (.slice pv9 (done.length + 1) cv9)).heap.size = w9.heap.size := by simp [World.setCell]
            refine ⟨by rw [List.length_append, hdk]; rfl, ⟨?_, setCell_row hP9 _, ?_, ?_, ?_⟩, ?_⟩
            · exact hdvx.rd.moved ((ho R (by have := HRE.out; have := HPZ.out; omega)).trans (hb9.block R (by have := HRE.out; have := HPZ.out; omega)))
            · exact hV9.kept (by rw [hsz]; exact Nat.le_refl _) (fun g hg1 hg2 => ho g (by omega))
            · have hbx := hdvx.below
              exact ⟨hb9.os.trans hbx.os, hb9.tape.trans hbx.tape, hb9.output.trans hbx.output, by rw [hsz]; exact Nat.le_trans hbx.size (Nat.le_of_lt hs9), fun b hb => by
                rw [ho b (by have := HPZ.out; omega), hb9.block b (by have := HPZ.out; omega)]; exact hbx.block b hb⟩
            · rw [ho _ (by have := HPZ.out; omega), hb9.block _ (by have := HPZ.out; omega)]; exact hdvx.zero
            · rcases HFI.out with ⟨h1, h2⟩ | h
              · left
                refine ⟨h1, ?_⟩
                have hst := many_step HEQ.out HLT.out
                rw [h2] at hst
                exact hst
              · exact .inr h)
          have HR9 := Lib.hid hr9
          have HKN := Lib.hid hdk
          clear hb hk9 hown hor hgo HIR hy hdvx hss1 hss2 hss3 hr9 ho9 hb9 hn9 hs9 hv9 hV9 hpP hP9 hPx hRx hzx hlvY hdk p0 p2
          rcases hx2 with h1 | ⟨h1, h2⟩
          · go_wp2_with (at_builtin; refine wpList_append_run rfl _ _ _ _ rfl _ _ (.slice pv9 (done.length + 1) cv9) w9 rfl rfl (fun ty => HR9.out ty) ?_)
            have hwk : wrap64 ((k : Int) + 1) = ((k + 1 : Nat) : Int) := by have := HLT.out; have := HN256.out; unfold wrap64; omega
            go_roundw
            case rel => exact ⟨k + 1, done ++ [⟨nm, dl⟩], rq, _, congrArg _ hwk, HLT.out, HNV⟩
            case measure => rw [hwk]; have := HLT.out; clear hwk; simp [intOf]; omega
          · rw [h2] at hbad
            go_wp2_with (at_builtin; refine wpList_append_run rfl _ _ _ _ rfl _ _ (.slice pv9 (done.length + 1) cv9) w9 rfl rfl (fun ty => HR9.out ty) ?_)
            have hwk : wrap64 ((k : Int) + 1) = ((k + 1 : Nat) : Int) := by have := HLT.out; have := HN256.out; unfold wrap64; omega
            go_roundw
            case rel => exact ⟨k + 1, done ++ [⟨nm, dl⟩], rq, _, congrArg _ hwk, HLT.out, HNV⟩
            case measure => rw [hwk]; have := HLT.out; clear hwk; simp [intOf]; omega
    · have hx3 : (¬ (k : Int) < (n : Int)) ∨ ((k : Int) < (n : Int) ∧ rs.short = true) := by
        by_cases c : k < n
        · right
          refine ⟨by omega, ?_⟩
          cases hc : rs.short with
          | false => exact absurd ⟨c, hc⟩ hgo
          | true => rfl
        · left; omega
      have hsev : (rs.short = false ∧ severalR vecR r0 = (done, rs)) ∨ (rs.short = true ∧ (leftOf s).short = true) := by
        rcases hor with ⟨h, he⟩ | h
        · left
          have hkn : k = n := by
            rcases Nat.lt_or_ge k n with c | c
            · exact absurd ⟨c, h⟩ hgo
            · omega
          refine ⟨h, ?_⟩
          unfold severalR
          rw [← HNE.out, ← HR1E.out, he, hkn, Nat.sub_self]
          simp [manyR]
        · exact .inr h
      obtain ⟨nf, hnf⟩ : ∃ nf, nf = (numR 1 rs).1 := ⟨_, rfl⟩
      obtain ⟨q1, hq1⟩ : ∃ q1, q1 = (numR 1 rs).2 := ⟨_, rfl⟩
      have hnf256 : nf < 256 := by rw [hnf]; exact numR_lt 1 rs
      have hwnf : IntKind.i64.wrap (nf : Int) = (nf : Int) := i64_lt (by omega)
      have CF0 := bnum_any R s rs 1 wz hdv.rd HS.out (by omega) 1 rfl
      rw [← hnf, ← hq1] at CF0
      have hfl : severalR fldR rs = manyR fldR nf q1 := by unfold severalR; rw [← hnf, ← hq1]
      have HF2 : Hid ((manyR fldR nf q1).2.short = true → (leftOf s).short = true) := Lib.hid (fun h => by
        rcases hsev with ⟨h1, h2⟩ | ⟨_, h2⟩
        · unfold leftOf
          rw [ptR_eq, ← HR0E.out, h2, hfl]; exact h
        · exact h2)
      have HPTE : Hid (rs.short = false → ptOf s = ⟨i, done, (manyR fldR nf q1).1⟩ ∧ leftOf s = (manyR fldR nf q1).2) := Lib.hid (fun h => by
        rcases hsev with ⟨_, h2⟩ | ⟨h1, _⟩
        · unfold ptOf leftOf
          rw [ptR_eq, ← HR0E.out, h2, hfl, ← HI.out]; exact ⟨rfl, rfl⟩
        · rw [h] at h1; cases h1)
      have HQ1 : Hid (q1.short = false → rs.short = false) := Lib.hid (fun h => (numR_mono 1 rs [] (by rw [← hq1]; exact h)).1)
      have HNF := Lib.hid hnf256
      obtain ⟨pu, cu, rfl⟩ := hdv.vs.form
      have HDVE := Lib.hid hdv
      have HVOK : Hid (rs.short = false → VecsOk done) := Lib.hid (fun h => by
        rcases hsev with ⟨_, h2⟩ | ⟨h1, _⟩
        · have := vecs_ok r0
          rw [h2] at this; exact this
        · rw [h] at h1; cases h1)
      have HFOK : Hid (FldsOk (manyR fldR nf q1).1) := Lib.hid (by rw [← hfl]; exact flds_ok rs)
      clear hd hdv hor hgo hsev hnf hq1 hfl hnf256 HV
      have hx4 : (¬ (k : Int) < (n : Int)) ∨ ((k : Int) < (n : Int) ∧ wz.cell? ⟨R, 2, none⟩ = some (.bool true)) := by
        rcases hx3 with h | ⟨h, h2⟩
        · exact .inl h
        · exact .inr ⟨h, by rw [hbad, h2]⟩
      clear hx3 hbad
      rcases hx4 with h1 | ⟨h1, h2⟩
      all_goals
        go_wp2_with fail
        refine CF0.mono ?_
        rintro e wB ⟨rfl, hb3, hk3⟩
        have HDVB := Lib.hid (HDVE.out.kr (by have := HRE.out; omega) (by have := HRE.out; have := HPZ.out; omega) (by omega) hk3 hb3)
        have HPB : Hid (P < wB.heap.size) := Lib.hid (Array.getElem?_eq_some_iff.1 HDVB.out.pt).1
        have HRB : Hid (R < wB.heap.size) := Lib.hid HDVB.out.rd.lt
        have HRP : Hid (R < P) := Lib.hid (by have := HRE.out; have := HPZ.out; omega)
        clear hb3 hk3 CF0
        (try clear h2)
        go_wp2_with fail
        clear hwnf h1
        go_loopw [12] (fun i' wx => ∃ (j : Nat) (fd : List Fld) (rq : Rs) (f : Value), i' = .int .i64 (j : Int) ∧ j ≤ nf ∧ Hid (FInv s R P wB i (.slice pu done.length cu) nf q1 j fd rq f wx)) (fun i' _ => nf - (intOf i').toNat)
        case atStart =>
          refine ⟨0, [], q1, _, rfl, Nat.zero_le _, Lib.hid ⟨rfl, HDVB.out.rd, KrP.refl _ _ _, HDVB.out.pt, World.ownsRow_nil _ _ _ _, ?_⟩⟩
          cases hc : q1.short with
          | false => exact .inl ⟨rfl, by simp⟩
          | true => exact .inr ⟨rfl, HF2.out (short_mono (manyR_mono fldR_mono nf) hc)⟩
        case round =>
          obtain ⟨j, fd, rq, f, rfl, hj, HFI⟩ := hrel
          obtain ⟨hdk, hbx, hkx, hPx, hox, hor⟩ := HFI.out
          obtain ⟨wx, rfl⟩ : ∃ wx : World, wx = wr := ⟨_, rfl⟩
          have hbad := hbx.bad
          rw [hdk] at hox
          obtain ⟨pf, cf, rfl⟩ := own_slice hox
          by_cases hgo : j < nf ∧ rq.short = false
          · obtain ⟨hlt, hsh⟩ := hgo
            have heq : manyR fldR nf q1 = (fd ++ (manyR fldR (nf - j) rq).1, (manyR fldR (nf - j) rq).2) := by
              rcases hor with ⟨_, h⟩ | ⟨h, _⟩
              · exact h
              · rw [hsh] at h; cases h
            rw [hsh] at hbad
            have hlt' : (j : Int) < (nf : Int) := by omega
            have hk256 : j < 256 := by have := HNF.out; omega
            have CA := bnum_any R s rq 1 _ hbx HS.out (by omega) 1 rfl
            obtain ⟨l, hl⟩ : ∃ l, l = (numR 1 rq).1 := ⟨_, rfl⟩
            obtain ⟨ra, hra⟩ : ∃ ra, ra = (numR 1 rq).2 := ⟨_, rfl⟩
            have hl256 : l < 256 := by rw [hl]; exact numR_lt 1 rq
            rw [← hl, ← hra] at CA
            have CB := Lib.hid (fun W (h : BAt R s ra W) => cut_any R s ra l W h HS.out (by omega))
            obtain ⟨nm, hnm⟩ : ∃ nm, nm = tx (takeR l ra).1 := ⟨_, rfl⟩
            obtain ⟨rb, hrb⟩ : ∃ rb, rb = (takeR l ra).2 := ⟨_, rfl⟩
            rw [← hnm, ← hrb] at CB
            have hwl : IntKind.i64.wrap (l : Int) = (l : Int) := i64_lt (by omega)
            have htx : textR 1 rq = (nm, rb) := by
              rw [hnm, hrb, hra, hl]; rfl
            obtain ⟨kd, hkd⟩ : ∃ kd, kd = (numR 1 rb).1 := ⟨_, rfl⟩
            obtain ⟨rc, hrc⟩ : ∃ rc, rc = (numR 1 rb).2 := ⟨_, rfl⟩
            have hkd256 : kd < 256 := by rw [hkd]; exact numR_lt 1 rb
            have CK := Lib.hid (fun W (h : BAt R s rb W) => bnum_any R s rb 1 W h HS.out (by omega) 1 rfl)
            rw [← hkd, ← hrc] at CK
            have hfld : fldR rq = (⟨nm, (valR rb).1⟩, (valR rb).2) := by unfold fldR; rw [htx]
            have hvalt : kd = 2 → valR rb = (⟨2, 0, (textR 2 rc).1⟩, (textR 2 rc).2) := fun h => by
              unfold valR; rw [← hkd, ← hrc, if_pos h]
            have hvaln : kd ≠ 2 → valR rb = (⟨(kd : Int), i64N (numR (szT kd).1.toNat rc).1, ⟨#[]⟩⟩, (numR (szT kd).1.toNat rc).2) := fun h => by
              unfold valR; rw [← hkd, ← hrc, if_neg h]
            have HNEXT : Hid (∀ (x : Fld) (rq' : Rs), fldR rq = (x, rq') → (rq'.short = false ∧ manyR fldR nf q1 = ((fd ++ [x]) ++ (manyR fldR (nf - (j + 1)) rq').1, (manyR fldR (nf - (j + 1)) rq').2)) ∨ (rq'.short = true ∧ (leftOf s).short = true)) := Lib.hid (fun x rq' h => by
              have hst := many_step heq hlt
              rw [h] at hst
              cases hc : rq'.short with
              | false => exact .inl ⟨rfl, hst⟩
              | true => exact .inr ⟨rfl, HF2.out (many_short1 fldR_mono heq hlt (by rw [h]; exact hc))⟩)
            have HFLD := Lib.hid hfld
            have HVT := Lib.hid hvalt
            have HVN := Lib.hid hvaln
            have HLT := Lib.hid hlt
            have HDK := Lib.hid hdk
            have HBX := Lib.hid hbx
            have HKX := Lib.hid hkx
            have HPX := Lib.hid hPx
            have HOX := Lib.hid hox
            have HK256 := Lib.hid hk256
            have HKD := Lib.hid hkd256
            clear hor hsh heq hl hra hnm hrb htx hkd hrc hfld hvalt hvaln hlt hdk hbx hkx hPx hox HFI hl256 hkd256 hk256
            go_wp2_with fail
            refine CA.mono ?_
            rintro e a1 ⟨rfl, hb3, hk3⟩
            have CB3 := CB.out a1 hb3
            have HK3 := Lib.hid hk3
            clear hb3 hk3 CA CB hbad
            go_wp2_with fail
            refine CB3.mono ?_
            rintro e a2 ⟨rfl, hb4, hk4⟩
            have HB4 := Lib.hid hb4
            have HK4 := Lib.hid (HK3.out.trans hk4)
            clear hb4 hk4 CB3 HK3
            go_wp2_with fail
            have hYR : R < a2.heap.size := HB4.out.lt
            have hYP : P < a2.heap.size := Nat.lt_of_lt_of_le HPB.out (Nat.le_trans HKX.out.size HK4.out.size)
            have hYf : Below a2.heap.size a2 (a2.alloc (.cells #[.string nm, .int .i64 0, .int .i64 0, .string ⟨#[]⟩] 56)) := fresh_alloc a2 _
            have hY3 : (a2.alloc (.cells #[.string nm, .int .i64 0, .int .i64 0, .string ⟨#[]⟩] 56)).heap[a2.heap.size]? = some (.cells #[.string nm, .int .i64 0, .int .i64 0, .string ⟨#[]⟩] 56 (0, 0)) := heap_last a2 _
            have hYz : a2.heap.size < (a2.alloc (.cells #[.string nm, .int .i64 0, .int .i64 0, .string ⟨#[]⟩] 56)).heap.size := by simp
            have CK3 := CK.out _ (HB4.out.moved (hYf.block R hYR))
            generalize a2.alloc (.cells #[.string nm, .int .i64 0, .int .i64 0, .string ⟨#[]⟩] 56) = a3 at *
            obtain ⟨Y, hY⟩ : ∃ Y, Y = a2.heap.size := ⟨_, rfl⟩
            rw [← hY] at hYR hYP hY3 hYz ⊢
            have HYE := Lib.hid hY
            have HYR := Lib.hid hYR
            have HY3 := Lib.hid hY3
            have HYZ := Lib.hid hYz
            have HYF : Hid (Kr R a2 a3) := Lib.hid (Kr.of hYf)
            have MID : Hid (∀ (W : World), TookB R s a3 (.int .u64 (kd : Int)) rc (.returned (.int .u64 (kd : Int))) W → Kr R a2 W ∧ BAt R s rc W ∧ W.heap[Y]? = some (.cells #[.string nm, .int .i64 0, .int .i64 0, .string ⟨#[]⟩] 56 (0, 0))) := Lib.hid (fun W h =>
              ⟨HYF.out.trans h.2.2, h.2.1, (h.2.2.block Y HYZ.out (by have := HYR.out; omega)).trans HY3.out⟩)
            clear hY hYR hYP hYf hY3 hYz CK
            have hkc : kd = 1 ∨ kd = 2 ∨ kd = 3 ∨ (kd ≠ 1 ∧ kd ≠ 2 ∧ kd ≠ 3) := by omega
            rcases hkc with rfl | rfl | rfl | ⟨n1, n2, n3⟩
            · refine Calls.mono CK3 ?_
              intro e a4 ht
              obtain ⟨k5, hb5, hy4⟩ := MID.out a4 ⟨rfl, ht.2⟩
              obtain ⟨rfl, -⟩ := ht
              obtain ⟨c0, c1, c2, c3⟩ := cells4_of hy4
              have g1 : a4.frozen? ⟨Y, 1, none⟩ = false := Lib.frozen_of_heap hy4 1
              have hy5 := setCell_row (k := 1) hy4 (.int .i64 1)
              obtain ⟨e0, e1, e2, e3⟩ := cells4_of hy5
              have hb5' : BAt R s rc (a4.setCell ⟨Y, 1, none⟩ (.int .i64 1)) := hb5.moved (heap_setCell_other _ _ _ _ (by show R ≠ Y; have := HYR.out; omega))
              have k5' := k5.far (Nat.le_of_eq HYE.out.symm) 1 (.int .i64 1)
              have C8 := bnum_any R s rc 8 _ hb5' HS.out (by omega) 8 rfl
              obtain ⟨Nv, hNv⟩ : ∃ Nv, Nv = i64N (numR 8 rc).1 := ⟨_, rfl⟩
              have hwN : IntKind.i64.wrap ((numR 8 rc).1 : Int) = Nv := hNv.symm
              obtain ⟨rd, hrd⟩ : ∃ rd, rd = (numR 8 rc).2 := ⟨_, rfl⟩
              have HVL : Hid (fldR rq = (⟨nm, ⟨1, Nv, ⟨#[]⟩⟩⟩, rd)) := Lib.hid (by
                rw [HFLD.out, HVN.out (by decide), hNv, hrd]; rfl)
              rw [← hrd] at C8
              generalize ((numR 8 rc).1 : Int) = z at hwN C8
              have HK5 := Lib.hid k5'
              have HY5 := Lib.hid hy5
              have HB5 := Lib.hid hb5'
              clear hNv hrd k5 k5' hy5 hb5 hb5' hy4
              have w1 : IntKind.i64.wrap (1 : Int) = 1 := by rw [IntKind.wrap_i64]; rfl
              go_wp2_with fail
              refine C8.mono ?_
              rintro e a6 ⟨rfl, hb6, hk6⟩
              have hYa : Y < (a4.setCell ⟨Y, 1, none⟩ (.int .i64 1)).heap.size := (Array.getElem?_eq_some_iff.1 HY5.out).1
              have hy6 := (hk6.block Y hYa (by have := HYR.out; omega)).trans HY5.out
              have g2 : a6.frozen? ⟨Y, 2, none⟩ = false := Lib.frozen_of_heap hy6 2
              obtain ⟨x0, x1, x2, x3⟩ := cells4_of hy6
              have hy7 := setCell_row (k := 2) hy6 (.int .i64 Nv)
              have hb7 : BAt R s rd (a6.setCell ⟨Y, 2, none⟩ (.int .i64 Nv)) := hb6.moved (heap_setCell_other _ _ _ _ (by show R ≠ Y; have := HYR.out; omega))
              have hk7 := HK4.out.trans ((HK5.out.trans hk6).far (Nat.le_of_eq HYE.out.symm) 2 (.int .i64 Nv))
              obtain ⟨p9, c9, w9, hr9, f0, f1, f2, hfi⟩ := fld_tail2 (n := nf) (r1 := q1) (rq := rd) (aF := a6.setCell ⟨Y, 2, none⟩ (.int .i64 Nv)) ⟨nm, ⟨1, Nv, ⟨#[]⟩⟩⟩ HDK.out HKX.out HPX.out HOX.out HK256.out HPB.out HRB.out HRP.out hk7 hb7 (HNEXT.out _ _ HVL.out)
              have HFN := Lib.hid hfi
              dsimp only at hr9
              rw [show (a6.setCell ⟨Y, 2, none⟩ (.int .i64 Nv)).heap.size = a6.heap.size by simp [World.setCell]] at hr9
              have HR9 := Lib.hid hr9
              obtain ⟨y0, y1, y2, y3⟩ := cells4_of hy7
              clear hb6 hk6 hYa hy6 hy7 hb7 hk7 c0 c1 c2 c3 e0 e1 e2 e3 g1
              clear hr9 hfi
              go_wp2_with (at_builtin; refine wpList_append_run rfl _ _ _ _ rfl _ _ (.slice p9 (j + 1) c9) w9 rfl rfl (fun ty => HR9.out ty) ?_)
              have hwj : wrap64 ((j : Int) + 1) = ((j + 1 : Nat) : Int) := by have := HLT.out; have := HNF.out; unfold wrap64; omega
              go_roundw
              case rel => exact ⟨j + 1, _, _, _, congrArg _ hwj, HLT.out, HFN⟩
              case measure => rw [hwj]; have := HLT.out; clear hwj; simp [intOf]; omega
            · refine Calls.mono CK3 ?_
              intro e a4 ht
              obtain ⟨k5, hb5, hy4⟩ := MID.out a4 ⟨rfl, ht.2⟩
              obtain ⟨rfl, -⟩ := ht
              obtain ⟨c0, c1, c2, c3⟩ := cells4_of hy4
              have g1 : a4.frozen? ⟨Y, 1, none⟩ = false := Lib.frozen_of_heap hy4 1
              have hy5 := setCell_row (k := 1) hy4 (.int .i64 2)
              obtain ⟨e0, e1, e2, e3⟩ := cells4_of hy5
              have hb5' : BAt R s rc (a4.setCell ⟨Y, 1, none⟩ (.int .i64 2)) := hb5.moved (heap_setCell_other _ _ _ _ (by show R ≠ Y; have := HYR.out; omega))
              have k5' := k5.far (Nat.le_of_eq HYE.out.symm) 1 (.int .i64 2)
              have C8 := bnum_any R s rc 2 _ hb5' HS.out (by omega) 2 rfl
              obtain ⟨z, hz⟩ : ∃ z, z = (numR 2 rc).1 := ⟨_, rfl⟩
              obtain ⟨rd, hrd⟩ : ∃ rd, rd = (numR 2 rc).2 := ⟨_, rfl⟩
              have hz64 : z < 65536 := by rw [hz]; exact numR_lt 2 rc
              have hwz : IntKind.i64.wrap (z : Int) = (z : Int) := i64_lt hz64
              rw [← hz, ← hrd] at C8
              have CT := Lib.hid (fun W (h : BAt R s rd W) => cut_any R s rd z W h HS.out (by omega))
              obtain ⟨T, hT⟩ : ∃ T, T = tx (takeR z rd).1 := ⟨_, rfl⟩
              obtain ⟨re, hre⟩ : ∃ re, re = (takeR z rd).2 := ⟨_, rfl⟩
              rw [← hT, ← hre] at CT
              have HVL : Hid (fldR rq = (⟨nm, ⟨2, 0, T⟩⟩, re)) := Lib.hid (by
                rw [HFLD.out, HVT.out rfl, show textR 2 rc = (T, re) by rw [hT, hre, hz, hrd]; rfl])
              have HK5 := Lib.hid k5'
              have HY5 := Lib.hid hy5
              have HB5 := Lib.hid hb5'
              clear hz hrd hT hre hz64 k5 k5' hy5 hb5 hb5' hy4
              have w1 : IntKind.i64.wrap (2 : Int) = 2 := by rw [IntKind.wrap_i64]; rfl
              go_wp2_with fail
              refine C8.mono ?_
              rintro e a6 ⟨rfl, hb6, hk6⟩
              have CT6 := CT.out a6 hb6
              have hYa : Y < (a4.setCell ⟨Y, 1, none⟩ (.int .i64 2)).heap.size := (Array.getElem?_eq_some_iff.1 HY5.out).1
              have HK6 := Lib.hid hk6
              clear hb6 hk6 c0 c1 c2 c3 e0 e1 e2 e3 g1 C8
              go_wp2_with fail
              refine CT6.mono ?_
              rintro e a7 ⟨rfl, hb7, hk7⟩
              have hk67 := HK6.out.trans hk7
              have hy6 := (hk67.block Y hYa (by have := HYR.out; omega)).trans HY5.out
              have g2 : a7.frozen? ⟨Y, 3, none⟩ = false := Lib.frozen_of_heap hy6 3
              obtain ⟨x0, x1, x2, x3⟩ := cells4_of hy6
              have hy7 := setCell_row (k := 3) hy6 (.string T)
              have hb8 : BAt R s re (a7.setCell ⟨Y, 3, none⟩ (.string T)) := hb7.moved (heap_setCell_other _ _ _ _ (by show R ≠ Y; have := HYR.out; omega))
              have hk8 := HK4.out.trans ((HK5.out.trans hk67).far (Nat.le_of_eq HYE.out.symm) 3 (.string T))
              obtain ⟨p9, c9, w9, hr9, f0, f1, f2, hfi⟩ := fld_tail2 (n := nf) (r1 := q1) (rq := re) (aF := a7.setCell ⟨Y, 3, none⟩ (.string T)) ⟨nm, ⟨2, 0, T⟩⟩ HDK.out HKX.out HPX.out HOX.out HK256.out HPB.out HRB.out HRP.out hk8 hb8 (HNEXT.out _ _ HVL.out)
              have HFN := Lib.hid hfi
              dsimp only at hr9
              rw [show (a7.setCell ⟨Y, 3, none⟩ (.string T)).heap.size = a7.heap.size by simp [World.setCell]] at hr9
              have HR9 := Lib.hid hr9
              obtain ⟨y0, y1, y2, y3⟩ := cells4_of hy7
              clear hb7 hk7 hk67 hYa hy6 hy7 hb8 hk8
              clear hr9 hfi
              go_wp2_with (at_builtin; refine wpList_append_run rfl _ _ _ _ rfl _ _ (.slice p9 (j + 1) c9) w9 rfl rfl (fun ty => HR9.out ty) ?_)
              have hwj : wrap64 ((j : Int) + 1) = ((j + 1 : Nat) : Int) := by have := HLT.out; have := HNF.out; unfold wrap64; omega
              go_roundw
              case rel => exact ⟨j + 1, _, _, _, congrArg _ hwj, HLT.out, HFN⟩
              case measure => rw [hwj]; have := HLT.out; clear hwj; simp [intOf]; omega
            · refine Calls.mono CK3 ?_
              intro e a4 ht
              obtain ⟨k5, hb5, hy4⟩ := MID.out a4 ⟨rfl, ht.2⟩
              obtain ⟨rfl, -⟩ := ht
              obtain ⟨c0, c1, c2, c3⟩ := cells4_of hy4
              have g1 : a4.frozen? ⟨Y, 1, none⟩ = false := Lib.frozen_of_heap hy4 1
              have hy5 := setCell_row (k := 1) hy4 (.int .i64 3)
              obtain ⟨e0, e1, e2, e3⟩ := cells4_of hy5
              have hb5' : BAt R s rc (a4.setCell ⟨Y, 1, none⟩ (.int .i64 3)) := hb5.moved (heap_setCell_other _ _ _ _ (by show R ≠ Y; have := HYR.out; omega))
              have k5' := k5.far (Nat.le_of_eq HYE.out.symm) 1 (.int .i64 3)
              have C8 := bnum_any R s rc 1 _ hb5' HS.out (by omega) 1 rfl
              obtain ⟨Nv, hNv⟩ : ∃ Nv, Nv = i64N (numR 1 rc).1 := ⟨_, rfl⟩
              have hwN : IntKind.i64.wrap ((numR 1 rc).1 : Int) = Nv := hNv.symm
              obtain ⟨rd, hrd⟩ : ∃ rd, rd = (numR 1 rc).2 := ⟨_, rfl⟩
              have HVL : Hid (fldR rq = (⟨nm, ⟨3, Nv, ⟨#[]⟩⟩⟩, rd)) := Lib.hid (by
                rw [HFLD.out, HVN.out (by decide), hNv, hrd]; rfl)
              rw [← hrd] at C8
              generalize ((numR 1 rc).1 : Int) = z at hwN C8
              have HK5 := Lib.hid k5'
              have HY5 := Lib.hid hy5
              have HB5 := Lib.hid hb5'
              clear hNv hrd k5 k5' hy5 hb5 hb5' hy4
              have w1 : IntKind.i64.wrap (3 : Int) = 3 := by rw [IntKind.wrap_i64]; rfl
              go_wp2_with fail
              refine C8.mono ?_
              rintro e a6 ⟨rfl, hb6, hk6⟩
              have hYa : Y < (a4.setCell ⟨Y, 1, none⟩ (.int .i64 3)).heap.size := (Array.getElem?_eq_some_iff.1 HY5.out).1
              have hy6 := (hk6.block Y hYa (by have := HYR.out; omega)).trans HY5.out
              have g2 : a6.frozen? ⟨Y, 2, none⟩ = false := Lib.frozen_of_heap hy6 2
              obtain ⟨x0, x1, x2, x3⟩ := cells4_of hy6
              have hy7 := setCell_row (k := 2) hy6 (.int .i64 Nv)
              have hb7 : BAt R s rd (a6.setCell ⟨Y, 2, none⟩ (.int .i64 Nv)) := hb6.moved (heap_setCell_other _ _ _ _ (by show R ≠ Y; have := HYR.out; omega))
              have hk7 := HK4.out.trans ((HK5.out.trans hk6).far (Nat.le_of_eq HYE.out.symm) 2 (.int .i64 Nv))
              obtain ⟨p9, c9, w9, hr9, f0, f1, f2, hfi⟩ := fld_tail2 (n := nf) (r1 := q1) (rq := rd) (aF := a6.setCell ⟨Y, 2, none⟩ (.int .i64 Nv)) ⟨nm, ⟨3, Nv, ⟨#[]⟩⟩⟩ HDK.out HKX.out HPX.out HOX.out HK256.out HPB.out HRB.out HRP.out hk7 hb7 (HNEXT.out _ _ HVL.out)
              have HFN := Lib.hid hfi
              dsimp only at hr9
              rw [show (a6.setCell ⟨Y, 2, none⟩ (.int .i64 Nv)).heap.size = a6.heap.size by simp [World.setCell]] at hr9
              have HR9 := Lib.hid hr9
              obtain ⟨y0, y1, y2, y3⟩ := cells4_of hy7
              clear hb6 hk6 hYa hy6 hy7 hb7 hk7 c0 c1 c2 c3 e0 e1 e2 e3 g1
              clear hr9 hfi
              go_wp2_with (at_builtin; refine wpList_append_run rfl _ _ _ _ rfl _ _ (.slice p9 (j + 1) c9) w9 rfl rfl (fun ty => HR9.out ty) ?_)
              have hwj : wrap64 ((j : Int) + 1) = ((j + 1 : Nat) : Int) := by have := HLT.out; have := HNF.out; unfold wrap64; omega
              go_roundw
              case rel => exact ⟨j + 1, _, _, _, congrArg _ hwj, HLT.out, HFN⟩
              case measure => rw [hwj]; have := HLT.out; clear hwj; simp [intOf]; omega
            · refine Calls.mono CK3 ?_
              intro e a4 ht
              obtain ⟨k5, hb5, hy4⟩ := MID.out a4 ⟨rfl, ht.2⟩
              obtain ⟨rfl, -⟩ := ht
              obtain ⟨c0, c1, c2, c3⟩ := cells4_of hy4
              have g1 : a4.frozen? ⟨Y, 1, none⟩ = false := Lib.frozen_of_heap hy4 1
              have hy5 := setCell_row (k := 1) hy4 (.int .i64 (kd : Int))
              obtain ⟨e0, e1, e2, e3⟩ := cells4_of hy5
              have hb5' : BAt R s rc (a4.setCell ⟨Y, 1, none⟩ (.int .i64 (kd : Int))) := hb5.moved (heap_setCell_other _ _ _ _ (by show R ≠ Y; have := HYR.out; omega))
              have k5' := k5.far (Nat.le_of_eq HYE.out.symm) 1 (.int .i64 (kd : Int))
              have HVL : Hid (fldR rq = (⟨nm, ⟨(kd : Int), 0, ⟨#[]⟩⟩⟩, rc)) := Lib.hid (by
                rw [HFLD.out, HVN.out n2, szT_other n1 n2 n3, numR_zero]; rfl)
              have hk8 := HK4.out.trans k5'
              obtain ⟨p9, c9, w9, hr9, f0, f1, f2, hfi⟩ := fld_tail2 (n := nf) (r1 := q1) (rq := rc) (aF := a4.setCell ⟨Y, 1, none⟩ (.int .i64 (kd : Int))) ⟨nm, ⟨(kd : Int), 0, ⟨#[]⟩⟩⟩ HDK.out HKX.out HPX.out HOX.out HK256.out HPB.out HRB.out HRP.out hk8 hb5' (HNEXT.out _ _ HVL.out)
              have HFN := Lib.hid hfi
              dsimp only at hr9
              rw [show (a4.setCell ⟨Y, 1, none⟩ (.int .i64 (kd : Int))).heap.size = a4.heap.size by simp [World.setCell]] at hr9
              have HR9 := Lib.hid hr9
              have wk : IntKind.i64.wrap (kd : Int) = (kd : Int) := i64_lt (by have := HKD.out; omega)
              have t1 : ((kd : Int) == 1) = false := beq_eq_false_iff_ne.2 (by omega)
              have t2 : ((kd : Int) == 2) = false := beq_eq_false_iff_ne.2 (by omega)
              have t3 : ((kd : Int) == 3) = false := beq_eq_false_iff_ne.2 (by omega)
              clear k5 k5' hb5 hb5' hy4 hy5 hk8 n1 n2 n3
              clear hr9 hfi
              go_wp2_with (at_builtin; refine wpList_append_run rfl _ _ _ _ rfl _ _ (.slice p9 (j + 1) c9) w9 rfl rfl (fun ty => HR9.out ty) ?_)
              have hwj : wrap64 ((j : Int) + 1) = ((j + 1 : Nat) : Int) := by have := HLT.out; have := HNF.out; unfold wrap64; omega
              go_roundw
              case rel => exact ⟨j + 1, _, _, _, congrArg _ hwj, HLT.out, HFN⟩
              case measure => rw [hwj]; have := HLT.out; clear hwj; simp [intOf]; omega
          · have hKB := hkx
            have hbw : Below w.heap.size w wx := by
              have h1 := HDVB.out.below
              exact ⟨hkx.os.trans h1.os, hkx.tape.trans h1.tape, hkx.output.trans h1.output, Nat.le_trans h1.size hkx.size, fun b hb => (hkx.block b (Nat.lt_of_lt_of_le hb h1.size) (by have := HRE.out; omega) (by have := HPZ.out; omega)).trans (h1.block b hb)⟩
            have hzw : w.heap.size < wB.heap.size := (Array.getElem?_eq_some_iff.1 HDVB.out.zero).1
            have hzero : wx.heap[w.heap.size]? = some zPt := (hkx.block _ hzw (by have := HRE.out; omega) (by have := HPZ.out; omega)).trans HDVB.out.zero
            obtain ⟨p0, p1, p2⟩ := cells3_at hPx
            cases hsh : rq.short with
            | true =>
              have hleft : (leftOf s).short = true := by
                rcases hor with ⟨h, _⟩ | ⟨_, h⟩
                · rw [hsh] at h; cases h
                · exact h
              rw [hsh] at hbad
              obtain ⟨y1, _, _, y4, y5, y6⟩ := set_res hzero hbw (.int .i64 0) (.slice none 0 0) (.slice none 0 0)
              have HF : Hid (DecP w s (.returned (.tuple #[.agg #[.int .i64 0, .slice none 0 0, .slice none 0 0], .int .i64 0, .int .i64 52])) _) := Lib.hid (.inl ⟨.inl hleft, rfl, y1⟩)
              unfold zPt at hzero
              obtain ⟨z0, z1, z2⟩ := cells3_of hzero
              have g0 := Lib.frozen_of_heap hzero 0
              have g1 := fun v => Lib.frozen_of_heap (setCell_row (k := 0) hzero v) 1
              have g2 := fun u v => Lib.frozen_of_heap (setCell_row (k := 1) (setCell_row (k := 0) hzero u) v) 2
              clear hzero y1 hor hbx hkx hKB hPx hox hbw hgo HFI hdk
              by_cases c : (j : Int) < (nf : Int)
              all_goals
                go_wp2_with fail
                refine bodyPost_ret (v := .tuple #[.agg #[.int .i64 0, .slice none 0 0, .slice none 0 0], .int .i64 0, .int .i64 52]) (by simp [results, Tryd.results21, go_sem, y4, y5, y6]) rfl ?_
                exact HF.out
            | false =>
              rw [hsh] at hbad
              have hjn : j = nf := by
                rcases Nat.lt_or_ge j nf with c | c
                · exact absurd ⟨c, hsh⟩ hgo
                · omega
              have hall : manyR fldR nf q1 = (fd, rq) := by
                rcases hor with ⟨_, h⟩ | ⟨h, _⟩
                · rw [h, hjn, Nat.sub_self]; simp [manyR]
                · rw [hsh] at h; cases h
              have hq1s : q1.short = false := (manyR_mono fldR_mono nf q1 [] (by rw [hall]; exact hsh)).1
              have hrs := HQ1.out hq1s
              obtain ⟨hpo, hlo⟩ := HPTE.out hrs
              rw [hall] at hpo hlo
              have hfok := HFOK.out
              rw [hall] at hfok
              have hvat : VecsAt wx (.slice pu done.length cu) done := (HDVB.out.vs.kept hkx.size (fun g hg1 hg2 => hkx.block g hg2 (by have := HRP.out; omega) (by omega))).at
              have hfat : FldsAt wx (.slice pf j cf) fd := by rw [← hdk] at hox ⊢; exact own_flds hox
              have hMAY := rmay_any i (.slice pu done.length cu) (.slice pf j cf) done fd wx hvat hfat (HVOK.out hrs) hfok
              have hpm : ptMay ⟨i, done, fd⟩ = ptMay (ptOf s) := by rw [hpo]
              rw [hpm] at hMAY
              have HVRW : Hid (VRow (P + 1) wx (.slice pu done.length cu) done) := Lib.hid (HDVB.out.vs.kept hkx.size (fun g hg1 hg2 => hkx.block g hg2 (by have := HRP.out; omega) (by omega)))
              have HOWN := Lib.hid hox
              have HDKK := Lib.hid hdk
              have HWBX := Lib.hid hkx.size
              have HOKS := Lib.hid (And.intro (HVOK.out hrs) hfok)
              have HPO := Lib.hid hpo
              have HLS : Hid ((leftOf s).short = false) := Lib.hid (by rw [hlo]; exact hsh)
              have HLR : Hid ((leftOf s).rest = rq.rest) := Lib.hid (by rw [hlo])
              have c : ¬ (j : Int) < (nf : Int) := by omega
              have HZERO := Lib.hid hzero
              have HBW := Lib.hid hbw
              have HBX := Lib.hid hbx
              have HPXX := Lib.hid hPx
              have HRLT := Lib.hid hbx.lt
              have HPLT : Hid (P < wx.heap.size) := Lib.hid (Array.getElem?_eq_some_iff.1 hPx).1
              have HZLT : Hid (w.heap.size < wx.heap.size) := Lib.hid (Array.getElem?_eq_some_iff.1 hzero).1
              have HSH := Lib.hid hsh
              clear hgo HFI hjn hall hq1s hrs hpo hlo hfok hvat hfat hpm hzero hbw hzw hKB hor hbx hkx hPx hox hdk hsh
              go_wp2_with fail
              refine hMAY.mono ?_
              rintro e w6 ⟨rfl, hb6⟩
              have hzero := (hb6.block _ HZLT.out).trans HZERO.out
              have hbw := HBW.out.trans (hb6.mono HBW.out.size)
              have hP6 := (hb6.block _ HPLT.out).trans HPXX.out
              have hR6 := HBX.out.moved (hb6.block _ HRLT.out)
              have HV7 : Hid (∀ W : World, w6.heap.size ≤ W.heap.size → (∀ g, g ≠ w.heap.size → g < w6.heap.size → W.heap[g]? = w6.heap[g]?) → VecsAt W (.slice pu done.length cu) done ∧ FldsAt W (.slice pf j cf) fd) := Lib.hid (fun W h1 h2 => by
                have hz : w.heap.size < P := by have := HPZ.out; omega
                have hb : ∀ g, P + 1 ≤ g → g < wx.heap.size → W.heap[g]? = wx.heap[g]? := fun g hg1 hg2 => (h2 g (by omega) (Nat.lt_of_lt_of_le hg2 hb6.size)).trans (hb6.block g hg2)
                refine ⟨(HVRW.out.kept (Nat.le_trans hb6.size h1) hb).at, ?_⟩
                have ho := own_same HOWN.out (w' := W) (fun g hg => by
                  have h9 := own_lt HOWN.out hg
                  exact hb g (by have := HPB.out; omega) h9.2)
                have hd := HDKK.out
                subst hd
                exact own_flds ho)
              clear hMAY hbad p0 p1 p2 hb6
              cases hmay : ptMay (ptOf s) with
              | false =>
                obtain ⟨y1, _, _, y4, y5, y6⟩ := set_res hzero hbw (.int .i64 0) (.slice none 0 0) (.slice none 0 0)
                have HF : Hid (DecP w s (.returned (.tuple #[.agg #[.int .i64 0, .slice none 0 0, .slice none 0 0], .int .i64 0, .int .i64 52])) _) := Lib.hid (.inl ⟨.inr hmay, rfl, y1⟩)
                unfold zPt at hzero
                obtain ⟨z0, z1, z2⟩ := cells3_of hzero
                have g0 := Lib.frozen_of_heap hzero 0
                have g1 := fun v => Lib.frozen_of_heap (setCell_row (k := 0) hzero v) 1
                have g2 := fun u v => Lib.frozen_of_heap (setCell_row (k := 1) (setCell_row (k := 0) hzero u) v) 2
                clear hzero y1 hmay hbw hP6 hR6
                go_wp2_with fail
                refine bodyPost_ret (v := .tuple #[.agg #[.int .i64 0, .slice none 0 0, .slice none 0 0], .int .i64 0, .int .i64 52]) (by simp [results, Tryd.results21, go_sem, y4, y5, y6]) rfl ?_
                exact HF.out
              | true =>
                obtain ⟨q0, q1', q2⟩ := cells3_at hP6
                rcases hR6 with ⟨_, a, ha1, ha2, ha3⟩ | ⟨h, _⟩
                · obtain ⟨b0, b1, b2⟩ := cells3_at ha3
                  obtain ⟨y1, y2, y3, y4, y5, y6⟩ := set_res (w := w) (W := w6) hzero hbw (.int .i64 i) (.slice pu done.length cu) (.slice pf j cf)
                  obtain ⟨w7, hw7⟩ : ∃ w7, w7 = (((w6.setCell ⟨w.heap.size, 0, none⟩ (.int .i64 i)).setCell ⟨w.heap.size, 1, none⟩ (.slice pu done.length cu)).setCell ⟨w.heap.size, 2, none⟩ (.slice pf j cf)).drew := ⟨_, rfl⟩
                  have hyy : VecsAt w7 (.slice pu done.length cu) done ∧ FldsAt w7 (.slice pf j cf) fd := HV7.out w7 (by rw [hw7]; exact Nat.le_of_eq y3.symm) (fun g hg _ => by rw [hw7]; exact y2 g hg)
                  have HF : Hid (DecP w s (.returned (.tuple #[.agg #[.int .i64 i, .slice pu done.length cu, .slice pf j cf], .int .i64 (a : Int), .int .i64 0])) w7) := Lib.hid (.inr ⟨HLS.out, hmay, by
                    rw [HPO.out, HLR.out, ha2, List.length_drop, ln, show s.size - (s.size - a) = a by omega]
                    exact ⟨_, _, rfl, hyy.1, hyy.2, HOKS.out.1, HOKS.out.2, by rw [hw7]; exact y1.drew⟩⟩)
                  have v4 : w7.cell? ⟨w.heap.size, 0, none⟩ = some (.int .i64 i) := by rw [hw7]; exact y4
                  have v5 : w7.cell? ⟨w.heap.size, 1, none⟩ = some (.slice pu done.length cu) := by rw [hw7]; exact y5
                  have v6 : w7.cell? ⟨w.heap.size, 2, none⟩ = some (.slice pf j cf) := by rw [hw7]; exact y6
                  have HW7 := Lib.hid hw7
                  unfold zPt at hzero
                  obtain ⟨z0, z1, z2⟩ := cells3_of hzero
                  have g0 := Lib.frozen_of_heap hzero 0
                  have g1 := fun v => Lib.frozen_of_heap (setCell_row (k := 0) hzero v) 1
                  have g2 := fun u v => Lib.frozen_of_heap (setCell_row (k := 1) (setCell_row (k := 0) hzero u) v) 2
                  clear hzero y1 y2 y3 y4 y5 y6 hw7 hmay hbw hP6 hyy ha1 ha2 ha3
                  have hne1 : ¬ P = w.heap.size := by have := HPZ.out; omega
                  have hne2 : ¬ R = w.heap.size := by have := HRE.out; omega
                  go_wp2_with fail
                  go_region
                  rw [← HW7.out]
                  go_wp2_with fail
                  refine bodyPost_ret (v := .tuple #[.agg #[.int .i64 i, .slice pu done.length cu, .slice pf j cf], .int .i64 (a : Int), .int .i64 0]) (by simp [results, Tryd.results21, go_sem, v4, v5, v6]) rfl ?_
                  exact HF.out
                · exact absurd (h.symm.trans HSH.out) (by decide)
end Go.Proofs.YtokjmgkoifakdaaDoor
namespace Go.Proofs.YtokjmgkoifakdaaDoor
set_option linter.unusedVariables false
open Go Go.RowKit Go.Shelf Pl
theorem enc_parts (a : Pt) : ∃ S E, EncV a = .tuple #[.string S, .int .i64 E] := by
  unfold EncV
  cases hm : ptMay a
  · exact ⟨⟨#[]⟩, 120, by rw [if_neg (by simp)]; rfl⟩
  · exact ⟨_, 0, by rw [if_pos rfl]⟩
/-- What both Decodes answer, of whatever bytes. -/
def DecV (w : World) (a : Pt) (N E : Int) (e : Ending) (w' : World) : Prop := ∃ p n c q m d, e = .returned (.tuple #[.agg #[.int .i64 a.id, .slice p n c, .slice q m d], .int .i64 N, .int .i64 E]) ∧ PtIn w' (.agg #[.int .i64 a.id, .slice p n c, .slice q m d]) a ∧ Below w.heap.size w w'
theorem dec_alike (s : ByteArray) : ∃ a N E, ∀ w e w', DecP w s e w' → DecV w a N E e w' := by
  by_cases h : (leftOf s).short = true ∨ ptMay (ptOf s) = false
  · refine ⟨nPt, 0, 52, fun w e w' hd => ?_⟩
    rcases hd with ⟨_, rfl, hb⟩ | ⟨h1, h2, _⟩
    · exact ⟨_, _, _, _, _, _, rfl, ptIn_none w', hb⟩
    · rcases h with h | h
      · rw [h] at h1; cases h1
      · rw [h] at h2; cases h2
  · refine ⟨ptOf s, ((s.size - (leftOf s).rest.length : Nat) : Int), 0, fun w e w' hd => ?_⟩
    rcases hd with ⟨h1, _⟩ | ⟨_, _, u, f, rfl, h3, h4, h5, h6, h7⟩
    · exact absurd h1 h
    · obtain ⟨p, c, rfl⟩ := h3.form
      obtain ⟨q, d, rfl⟩ := h4.form
      exact ⟨_, _, _, _, _, _, rfl, ⟨_, _, rfl, h3, h4, h5, h6⟩, h7⟩
set_option maxHeartbeats 8000000 in
set_option maxRecDepth 100000 in
theorem bytes_walk (a : Pt) (u x : Value) (s : ByteArray) (w : World) (G : Gp w) (ha : PtIn w (.agg #[.int .i64 a.id, u, x]) a) (hs : s.size ≤ 140737488351232) :
    Calls Tryd.prog 4 #[.agg #[.int .i64 a.id, u, x], .string s] w fun e w' => e = .returned (.bool true) ∧ Below w.heap.size w w' := by
  obtain ⟨u, x, e0, k1, k2, k3, k4⟩ := ha
  injection e0 with e0
  have e0' : [Value.int .i64 a.id, _, _] = [Value.int .i64 a.id, u, x] := congrArg Array.toList e0
  simp only [List.cons.injEq, and_true, true_and] at e0'
  obtain ⟨rfl, rfl⟩ := e0'
  have hpt : PtIn w (.agg #[.int .i64 a.id, u, x]) a := ⟨u, x, rfl, k1, k2, k3, k4⟩
  obtain ⟨pv, cv, rfl⟩ := k1.form
  obtain ⟨pf, cf, rfl⟩ := k2.form
  clear k1 k2 k3 k4 e0
  obtain ⟨nv, hnv⟩ : ∃ n, n = a.vecs.length := ⟨_, rfl⟩
  obtain ⟨nf, hnf⟩ : ∃ n, n = a.flds.length := ⟨_, rfl⟩
  rw [← hnv, ← hnf] at hpt ⊢
  clear hnv hnf
  obtain ⟨i, hi⟩ : ∃ i, i = a.id := ⟨_, rfl⟩
  rw [← hi] at hpt ⊢
  obtain ⟨d0, d1, d2⟩ := cells3 w (.int .i64 i) (.slice pv nv cv) (.slice pf nf cf) 29
  have HB := Lib.hid (fresh_alloc w (.cells #[.int .i64 i, .slice pv nv cv, .slice pf nf cf] 29))
  have HZ : Hid ((w.alloc (.cells #[.int .i64 i, .slice pv nv cv, .slice pf nf cf] 29)).heap[w.heap.size]? = some (.cells #[.int .i64 i, .slice pv nv cv, .slice pf nf cf] 29 (0, 0))) := Lib.hid (heap_last w _)
  have HS : Hid (w.heap.size < (w.alloc (.cells #[.int .i64 i, .slice pv nv cv, .slice pf nf cf] 29)).heap.size) := Lib.hid (by simp)
  have HPT := Lib.hid (hpt.below HB.out)
  have HE := enc_in _ (G.fresh HB.out) _ a HPT.out
  have HE2 := Lib.hid (fun W (h : PtIn W (.agg #[.int .i64 i, .slice pv nv cv, .slice pf nf cf]) a) => renc_in W _ a h)
  obtain ⟨S, E, hSE⟩ := enc_parts a
  rw [hSE] at HE HE2
  obtain ⟨b, N, D, hdec⟩ := dec_alike s
  have HD1 := Lib.hid (fun W (h : Below w.heap.size w W) => (decode_any s W (G.fresh h) (by omega)).mono (hdec W))
  have HD2 := Lib.hid (fun W => (rdec_any s W (by omega)).mono (hdec W))
  have HW := Lib.hid (fun W (h : Below w.heap.size w W) => awake_yes W (G.fresh h))
  have heq : (S.toList == S.toList) = true := by simp
  clear G hpt hi hSE hdec hs
  obtain ⟨bi, hbi⟩ : ∃ bi, bi = b.id := ⟨_, rfl⟩
  unfold DecV at HD1 HD2
  rw [← hbi] at HD1 HD2
  clear hbi
  go_enter Tryd.func4, Tryd.ntmps4
  go_wp2_with fail
  generalize w.alloc (.cells #[.int .i64 i, .slice pv nv cv, .slice pf nf cf] 29) = W0 at *
  refine HE.mono ?_
  rintro e w1 ⟨rfl, b1⟩
  have HB1 := Lib.hid (HB.out.trans (b1.mono HB.out.size))
  have HP1 := Lib.hid (HPT.out.below b1)
  obtain ⟨c0, c1, c2⟩ := cells3_of ((b1.block _ HS.out).trans HZ.out)
  have HEE := HE2.out w1 HP1.out
  clear b1 d0 d1 d2 HE HE2
  go_wp2_with fail
  refine HEE.mono ?_
  rintro e w2 ⟨rfl, b2⟩
  have HB2 := Lib.hid (HB1.out.trans (b2.mono HB1.out.size))
  clear b2 c0 c1 c2 HEE HP1
  go_wp2_with fail
  refine (HD1.out _ HB2.out).mono ?_
  rintro e w3 ⟨p, n, c, q, m, d, rfl, hp3, b3⟩
  have HB3 := Lib.hid (HB2.out.trans (b3.mono HB2.out.size))
  have HP3 := Lib.hid hp3
  clear b3 hp3 HD1
  go_wp2_with fail
  have HX4 : Hid ((w3.alloc (.cells #[.int .i64 bi, .slice p n c, .slice q m d] 29)).heap[w3.heap.size]? = some (.cells #[.int .i64 bi, .slice p n c, .slice q m d] 29 (0, 0))) := Lib.hid (heap_last w3 _)
  have HQ4 : Hid (Below w3.heap.size w3 (w3.alloc (.cells #[.int .i64 bi, .slice p n c, .slice q m d] 29))) := Lib.hid (fresh_alloc w3 _)
  have HL4 : Hid (w3.heap.size < (w3.alloc (.cells #[.int .i64 bi, .slice p n c, .slice q m d] 29)).heap.size) := Lib.hid (by simp)
  generalize w3.alloc (.cells #[.int .i64 bi, .slice p n c, .slice q m d] 29) = w4 at *
  refine (HD2.out _).mono ?_
  rintro e w5 ⟨p', n', c', q', m', d', rfl, hp5, b5⟩
  have HQ5 := Lib.hid (HQ4.out.trans (b5.mono HQ4.out.size))
  have HX5 := Lib.hid ((b5.block _ HL4.out).trans HX4.out)
  have HL5 := Lib.hid (Nat.lt_of_lt_of_le HL4.out b5.size)
  have HP5 := Lib.hid hp5
  clear b5 hp5 HD2
  have HQ6 := Lib.hid (fresh_alloc w5 (.cells #[.int .i64 bi, .slice p' n' c', .slice q' m' d'] 29))
  have HX6 := Lib.hid ((HQ6.out.block _ HL5.out).trans HX5.out)
  have HY6 : Hid ((w5.alloc (.cells #[.int .i64 bi, .slice p' n' c', .slice q' m' d'] 29)).heap[w5.heap.size]? = some (.cells #[.int .i64 bi, .slice p' n' c', .slice q' m' d'] 29 (0, 0))) := Lib.hid (heap_last w5 _)
  have HQ36 := Lib.hid (HQ5.out.trans (HQ6.out.mono HQ5.out.size))
  have HB6 := Lib.hid (HB3.out.trans (HQ36.out.mono HB3.out.size))
  have HSM := Lib.hid (same_one _ _ _ b b true (isB_yes rfl) (HP3.out.below HQ36.out) (HP5.out.below HQ6.out))
  obtain ⟨x0, x1, x2⟩ := cells3_of HX6.out
  obtain ⟨y0, y1, y2⟩ := cells3_of HY6.out
  go_wp2_with fail
  refine HSM.out.mono ?_
  rintro e w7 ⟨rfl, b7⟩
  have HB7 := Lib.hid (HB6.out.trans (b7.mono HB6.out.size))
  clear b7 x0 x1 x2 y0 y1 y2
  go_wp2_with fail
  refine (HW.out _ HB7.out).mono ?_
  rintro e w8 ⟨rfl, b8⟩
  have HB8 := Lib.hid (HB7.out.trans (b8.mono HB7.out.size))
  clear b8
  go_wp2_with fail
  go_ret
  exact ⟨rfl, HB8.out⟩
end Go.Proofs.YtokjmgkoifakdaaDoor
namespace Go.Proofs.YtokjmgkoifakdaaDoor.payloadBytes
open Go.ChangeShapes Go.WideShapes Go.ChangeAt Go.RowKit Go.Proofs.YtokjmgkoifakdaaDoor
open Go.ChangeMaps (open_string shut_string)
open Pl
set_option linter.unusedVariables false

theorem own : ownKnob Tryd.prog.godebug = none := by kernel_rfl
theorem laidOut : laidOutB Tryd.prog = true := by kernel_rfl

/-! ### The walk -/
set_option maxHeartbeats 2000000 in
set_option maxRecDepth 100000 in
theorem walk (x0 : Pt) (u0 f0 : Value) (a1 : ByteArray) (w : World) (li0 : -9223372036854775808 ≤ x0.id ∧ x0.id ≤ 9223372036854775807) (wv0 : VecsAt w u0 x0.vecs) (wf0 : FldsAt w f0 x0.flds) (s0 : VecsOk x0.vecs ∧ FldsOk x0.flds) (c0 : x0.vecs.length * 40 ≤ 140737488355328 ∧ (∀ y ∈ x0.vecs, y.v.length * 8 ≤ 140737488355328) ∧ x0.flds.length * 48 ≤ 140737488355328) (w1 : a1.size ≤ 140737488351232) (G : Gp w) :
    Calls Tryd.prog 4 #[.agg #[.int .i64 x0.id, u0, f0], .string a1] w fun e w' => e = .returned (.bool true) ∧ Below w.heap.size w w' := by
  exact bytes_walk x0 u0 f0 a1 w G ⟨u0, f0, rfl, wv0, wf0, s0.1, s0.2⟩ w1

theorem toLen (s : ByteArray) : s.data.toList.length = s.size := by rw [Array.length_toList]; rfl

/-! ### The row -/
set_option maxRecDepth 100000 in
theorem contract (H : Type) (enc : TypeId × Value → H) (W : World) (base : Nat) (args : Array Value) (ds gs : List (DataW H)) (before : List MemPlace)
    (hval0 : ∀ (j : Nat) t v, Tryd.f4.params[j]? = some t → args[j]? = some v → Value.okWide Tryd.prog W .any base t v)
    (hW : DataW.Whole enc Tryd.prog Tryd.f4.params.toList Rows.payloadBytesSpec.vars false W args.toList ds gs before) (hsz0 : (DataW.weightsEach Tryd.prog (Tryd.f4.params.toList ++ Rows.payloadBytesSpec.plain.varTypes Tryd.prog) (ds ++ gs)).all (· ≤ reachBytes) = true)
    (hL0 : laidMetH Tryd.prog Rows.payloadBytesRow.laid W) (hsh : W.ShapedOpen Tryd.prog) :
    Calls Tryd.prog 4 args W fun e W' => ∃ v, e = .returned v ∧ Rows.payloadBytesSpec.post enc Tryd.prog Tryd.f4 false true false false W args v W' := by
  have hL := hL0
  rw [MakeChecks.laidMetH_plain _ _ _ (by kernel_rfl)] at hL
  have G : Gp W := gp_of hsh hL
  clear hL hL0
  have hsz := hsz0
  have hval : ∀ (j : Nat) t v, Tryd.f4.params[j]? = some t → args[j]? = some v → Value.okWide Tryd.prog W .any base t v := hval0
  have hW' := hW
  obtain ⟨p, q, hA0, hV, rfl, hfz, hnd⟩ := hW
  have hA : DataW.TrodAll enc Tryd.prog W 0 (fun _ => true) true Tryd.f4.params.toList args.toList ds p := hA0
  rw [Tryd.params4] at hA hval hsz
  obtain ⟨v0, vs0, d0, ds0, p0, q0, hargs, rfl, rfl, h0, r0⟩ := trodAll_cons hA
  obtain ⟨v1, vs1, d1, ds1, p1, q1, rfl, rfl, rfl, h1, r1⟩ := trodAll_cons r0
  obtain ⟨rfl, rfl, rfl⟩ := trodAll_nil r1
  obtain rfl : args = #[v0, v1] := by cases args; simp_all
  obtain ⟨rfl, rfl⟩ := trodVars_none hV
  have k0 := h0
  have lt0 : ∀ x ∈ p0, x.block < W.heap.size := by obtain ⟨m, hm⟩ := k0; exact DataW.trod_lt m _ _ _ hm
  obtain ⟨x0, u0, f0, rfl, pd0, wv0, wf0, li0⟩ := open_pt (hval 0 29 v0 rfl rfl) h0
  obtain ⟨a1, rfl, rfl, rfl, w1⟩ := open_string Tryd.underlying9 (hval 1 9 v1 rfl rfl) h1
  have s0 := sized_pt hsz (j := 0) rfl rfl pd0
  have c0 := sized_copy hsz (j := 0) rfl rfl pd0
  have s1 : a1.size ≤ 140737488351232 := by have := sized_string hsz (j := 1) (t := 9) rfl rfl; simpa [reachBytes] using this
  clear hA0 hval0 hsz0
  refine (walk x0 u0 f0 a1 W li0 wv0 wf0 s0 c0 s1 G).mono fun e W' ⟨he, bel⟩ => ?_
  subst he
  exact ⟨_, rfl, _, _, _, [], _, [], hW', trodAll_mk1 (shut_bool Tryd.underlying4 _), (trodAll_cons_mk (Below.trod laidOut (by kernel_rfl) (of_decide_eq_true (by kernel_rfl)) k0 bel lt0) (trodAll_cons_mk (shut_string Tryd.underlying9 w1) trodAll_mk0)), rfl, bel.frame _, fun h => by cases h⟩

/-! ### A world that fits -/
noncomputable def laidWorld (os : Os) : World := World.laidAll Tryd.prog os Rows.payloadBytesRow.laid
theorem laid_met (os : Os) : laidMetH Tryd.prog Rows.payloadBytesRow.laid ((laidWorld os).forCall (fun _ _ => 0) ⟨#[], #[.agg #[.int .i64 0, .slice none 0 0, .slice none 0 0], .string ByteArray.empty], []⟩).memory := by
  rw [MakeChecks.laidMetH_plain _ _ _ (by kernel_rfl)]
  exact laidMet_laidAll _ (by kernel_rfl) (by kernel_rfl)
theorem reads (os : Os) {H : Type} (enc : TypeId × Value → H) : ∃ places, DataW.whole enc Tryd.prog ((laidWorld os).forCall (fun _ _ => 0) ⟨#[], #[.agg #[.int .i64 0, .slice none 0 0, .slice none 0 0], .string ByteArray.empty], []⟩).memory Tryd.f4.params.toList Rows.payloadBytesSpec.vars false #[.agg #[.int .i64 0, .slice none 0 0, .slice none 0 0], .string ByteArray.empty].toList 8 = some ([.agg [.lit (.int .i64 0), .nil, .nil], .lit (.string [])], [], places) :=
  ⟨[], by kernel_rfl⟩
theorem shaped (os : Os) : ((laidWorld os).forCall (fun _ _ => 0) ⟨#[], #[.agg #[.int .i64 0, .slice none 0 0, .slice none 0 0], .string ByteArray.empty], []⟩).Shaped Tryd.prog := World.shaped_of_ZipB (by kernel_rfl) (by kernel_rfl)
set_option maxRecDepth 100000 in
theorem lifted (os : Os) (started : os.Started) (H : Type) (enc : TypeId × Value → H) (F : Stop.Interp) :
    ReturnsInHanded {} Tryd.checked os 4 .any ((OpenSpec.ofChange Rows.payloadBytesSpec).preRow enc Tryd.prog Tryd.f4 Rows.payloadBytesRow.domain false Rows.payloadBytesRow.laid) (((OpenSpec.ofChange Rows.payloadBytesSpec).at F).post enc Tryd.prog Tryd.f4 false true false false) := by
  obtain ⟨places, hx⟩ := reads os enc
  refine returnsInHanded_of_row (C := Tryd.checked) (s := (OpenSpec.ofChange Rows.payloadBytesSpec)) own started (by kernel_rfl) Tryd.func4
    ⟨laidWorld os, fun _ _ => 0, ⟨#[], #[.agg #[.int .i64 0, .slice none 0 0, .slice none 0 0], .string ByteArray.empty], []⟩, World.laidAll_os _ _ _, shaped os, rfl, (Input.okWide_of_okWideB (by kernel_rfl)).2,
      OpenSpec.preRow_of_cond 8 hx (by kernel_rfl) (fun k hk => by cases hk) (by kernel_rfl) (laid_met os), by simp [Assume.holds]⟩ ?_
  intro W base args ds gs before hval hW _ hk hz hL hsh _
  exact contract H enc W base args ds gs before hval hW  hz hL hsh
theorem said : Rows.PayloadBytesSaid :=
  OpenClaim.holds_of_cond 4 Tryd.f4 rfl rfl rfl rfl rfl rfl rfl ⟨rfl, rfl, rfl, rfl, rfl⟩ rfl rfl rfl rfl rfl (by kernel_rfl) Tryd.func4 (by kernel_rfl)
    (of_decide_eq_true (by kernel_rfl)) (by unfold Func.isWrapper; first | (rw [if_pos (by decide +kernel)]; kernel_rfl) | (rw [if_neg (by decide +kernel)]; exact ⟨rfl, rfl⟩))
    (fun os started H enc _ F => by rw [OpenClaim.pre_eq_preRow]; exact lifted os started H enc F)
theorem plain (f : FuncId) (fn : Func) (hf : Tryd.pinned.checked.prog.funcNamed "lodestar/lodestarlaw05.PayloadBytes" = some f) (hfn : Tryd.pinned.checked.prog.funcs[f]? = some fn) :
    false = Tryd.pinned.checked.prog.looks [] ∧ ∀ (j : Nat) t, fn.params[j]? = some t → Tryd.pinned.checked.prog.wantsStandIn t = false := by
  obtain rfl : f = 4 := Option.some.inj ((show Tryd.prog.funcNamed "lodestar/lodestarlaw05.PayloadBytes" = some 4 by kernel_rfl).symm.trans hf) |>.symm
  obtain rfl : fn = Tryd.f4 := (Option.some.inj (Tryd.func4.symm.trans hfn)).symm
  refine ⟨by kernel_rfl, fun j t ht => ?_⟩
  rw [Tryd.params4] at ht
  have hm : t ∈ [29, 9] := by simpa using Array.mem_of_getElem? ht
  have hall : ([29, 9].all fun u => !Tryd.prog.wantsStandIn u) = true := by kernel_rfl
  exact (show Tryd.prog.wantsStandIn t = false by simpa using List.all_eq_true.1 hall t hm)

/-- The statement. -/
theorem proved : Rows.PayloadBytesCardSaid :=
  Claim7.holds_tied_plain_at .later [] _ _ _ _ said (fun _ h => by cases h) (by kernel_rfl) (fun _ h => by cases h) payloadBytes_row_tie rfl ⟨rfl, rfl⟩ (by kernel_rfl) rfl plain (by kernel_rfl)
#print axioms proved
end Go.Proofs.YtokjmgkoifakdaaDoor.payloadBytes
