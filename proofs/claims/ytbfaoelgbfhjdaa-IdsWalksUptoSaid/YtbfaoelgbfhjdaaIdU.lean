/- IdsWalks: the law's walk. Conditions: those that each theorem names. -/
import Derived.Test.YtbfaoelgbfhjdaaIdT
import Derived.Test.YtbfaoelgbfhjdaaIdW
import Derived.LoopN
import Derived.Deep.CutRange
import Derived.Deep.RegionHeld3
namespace Go.Proofs.Ytbfaoelgbfhjdaa
set_option linter.unusedVariables false
open Go Go.RowKit Go.Shelf Ids
attribute [local go_sem] Oper.semAt_some
/-- The first k numbers turned to -77. -/
def mixW (L : List Int) (k : Nat) : List Int := List.replicate k (-77) ++ L.drop k
theorem mixW_zero (L : List Int) : mixW L 0 = L := by simp [mixW]
theorem mixW_length (L : List Int) (k : Nat) (h : k ≤ L.length) : (mixW L k).length = L.length := by simp [mixW]; omega
theorem mixW_at (L : List Int) (k : Nat) (h : k < L.length) : (mixW L k)[k]? = some L[k] := by
  unfold mixW
  rw [List.getElem?_append_right (by simp)]
  simp [List.getElem?_drop, List.getElem?_eq_getElem h]
theorem mixW_set (L : List Int) (k : Nat) (h : k < L.length) : (mixW L k).set k (-77) = mixW L (k + 1) := by
  unfold mixW
  rw [List.set_append_right _ _ (by simp), List.length_replicate, Nat.sub_self, List.drop_eq_getElem_cons h, List.set_cons_zero, List.replicate_succ']
  simp
theorem eql_all_in (w : World) (d f : Nat) (b : Array Value) : (Op.equalIn (d + 1) 36 (.func (.func f) #[] b) .nilFunc).run Try.prog w = .ok false w := by
  simp [Op.equalIn, run_underlying Try.underlying36]
/-- 'all == nil' -/
theorem eql_all (w : World) (f : Nat) (b : Array Value) : (binOp .eql 36 (.func (.func f) #[] b) .nilFunc).run Try.prog w = .ok (.bool false) w := by
  simp only [binOp]
  simp [show Op.equal 36 (.func (.func f) #[] b) .nilFunc = Op.equalIn (9999 + 1) 36 (.func (.func f) #[] b) .nilFunc from rfl, eql_all_in]
theorem kr_set {m n₀ g : Nat} (W : World) (k : Nat) (v : Value) (hg : g < m) : Kr m n₀ W (W.setCell ⟨g, k, none⟩ v) := fun i h1 _ => Below.heap_setCell _ _ _ i (by simp; omega)
set_option maxHeartbeats 4000000 in
set_option maxRecDepth 100000 in
theorem walks_any (v0 v1 : Value) (z0 z1 : List Int) (a2 : Int) (w : World) (i0 : IntsAt w v0 z0) (i1 : IntsAt w v1 z1) (tot : z0.length + z1.length ≤ 1048576) :
    Calls Try.prog 5 #[v0, v1, .int .i64 a2] w fun e w' => e = .returned (.bool true) ∧ Below w.heap.size w w' := by
  have HT := Lib.hid tot
  have bL := Boxed.new w 3 (.int .i64 a2)
  have hB0 : Below w.heap.size w (w.alloc (.cells #[.int .i64 a2] 3)) := (Below.refl _ w).alloc (Nat.le_refl _) _
  have hs0 : (w.alloc (.cells #[.int .i64 a2] 3)).heap.size = w.heap.size + 1 := by simp
  have j0 := i0.below hB0
  have j1 := i1.below hB0
  refine (callsIn_wide (n := 4)).1 ?_
  refine callsIn_of_wp_marks Try.func5 rfl trivial ?_ rfl
  refine wpIn_wide.2 ?_
  simp only [Try.ntmps5, List.size_toArray, List.length_cons, List.length_nil, Nat.reduceAdd, Nat.reduceSub, Array.replicate_succ, Array.replicate_zero, List.push_toArray, List.append_toArray, List.nil_append, List.cons_append]
  go_upto_region 1 with fail
  clear i0 i1 tot
  generalize w.alloc (.cells #[.int .i64 a2] 3) = W0 at *
  have T0 := Lib.hid (twin_any z0 v0 W0 j0 (by have := HT.out; omega))
  have T1 := Lib.hid fun wx (hq : Below W0.heap.size W0 wx) => twin_any z1 v1 wx (j1.below hq) (by have := HT.out; omega)
  have hne := fun w b => eql_all w 37 b
  have J0 := Lib.hid j0
  have J1 := Lib.hid j1
  have HL := Lib.hid bL
  have HB0 := Lib.hid hB0
  have HS0 := Lib.hid hs0
  clear j0 j1 bL hB0 hs0
  go_wp2_with (first
    | (go_at_call 9; refine T0.out.mono ?_; clear T0; rintro e w1 ⟨x, rfl, hx, hb⟩; have HX := Lib.hid hx; have HB1 := Lib.hid hb; clear hx hb)
    | (go_at_call 9; refine (T1.out _ HB1.out).mono ?_; clear T1; rintro e w2 ⟨y, rfl, hy, hb⟩; have HY := Lib.hid hy; have HB2 := Lib.hid hb; clear hy hb
       have HAC := Lib.hid (all_any z0 z1 x y w2 (HX.out.at.below HB2.out) HY.out.at (by have := HT.out; omega) (by have := HT.out; omega)))
    | (go_at_call 24; refine HAC.out.mono ?_; clear HAC; rintro e w3 ⟨C1, C2, rfl, hall, hb⟩; have HALL := Lib.hid hall; have HB3 := Lib.hid hb; clear hall hb))
  have HXA := HX.out.at.below HB2.out
  obtain ⟨pu, cu, hue⟩ := HXA.form
  subst hue
  have hpu : ∀ g : Nat, (Value.slice pu z0.length cu).ownBlock = some g → g < w2.heap.size := fun g hg => Nat.lt_of_lt_of_le (own_lt HX.out hg).2.1 HB2.out.size
  have HPU := Lib.hid hpu
  have hox := own_below (own_below HX.out HB2.out) HB3.out
  have HOX := Lib.hid hox
  have hb3 : Below W0.heap.size W0 w3 := HB1.out.trans ((HB2.out.trans (HB3.out.mono HB2.out.size)).mono HB1.out.size)
  have HBX := Lib.hid hb3
  have HZ : Hid (z0.length ≤ maxLen) := Lib.hid (by have := HT.out; unfold maxLen; omega)
  clear HX HXA hpu hox hb3 HY hne
  go_loopw [10] (fun i wr => ∃ k : Nat, k ≤ z0.length ∧ i = .int .i64 k ∧ Own wr W0.heap.size (.slice pu z0.length cu) (mixW z0 k) ∧ Below W0.heap.size W0 wr ∧ AllAt wr w2.heap.size w3.heap.size C1 C2 z0 z1 ∧ w3.heap.size ≤ wr.heap.size) (fun i _ => z0.length - (intOf i).toNat)
  case atStart => exact ⟨0, Nat.zero_le _, rfl, by rw [mixW_zero]; exact HOX.out, HBX.out, HALL.out, Nat.le_refl _⟩
  case round =>
    obtain ⟨k, hk, rfl, ho, hbel, hal, hsw⟩ := hrel
    have HO := Lib.hid ho
    have HBL := Lib.hid hbel
    have HAL := Lib.hid hal
    have HSW := Lib.hid hsw
    clear ho hbel hal hsw HALL HBX HOX
    obtain ⟨wo, rfl⟩ : ∃ wo : World, wo = wr := ⟨_, rfl⟩
    by_cases hlt : k < z0.length
    · obtain ⟨g, cap, he, hg, _⟩ := own_form HO.out (by rw [mixW_length _ _ hk]; omega)
      injection he with e1 e2 e3
      subst e1 e3
      obtain ⟨c1, f1, s1⟩ := own_cell HO.out k _ (mixW_at _ _ hlt)
      have s2 := s1 (-77)
      rw [mixW_set _ _ hlt] at s2
      have HS2 := Lib.hid s2
      have HG := Lib.hid hg
      have HGM := Lib.hid (HPU.out g rfl)
      have hlt' : (k : Int) < (z0.length : Int) := by omega
      clear s1 s2 HO e2 hg HPU
      generalize z0[k] = xx at c1
      go_wp2_with fail
      go_roundw
      case rel => exact ⟨k + 1, by omega, congrArg _ (wrap_s HZ.out hlt), HS2.out, HBL.out.setCell HG.out _, HAL.out.below (kr_set _ _ _ HGM.out), by rw [World.size_setCell]; exact HSW.out⟩
      case measure =>
        rw [wrap_s HZ.out hlt]
        exact int_less hlt
    · obtain rfl : k = z0.length := by omega
      clear HO HPU
      have HRA := Lib.hid (allRef_own z0 z1 v0 v1 wo (J0.out.below HBL.out) (J1.out.below HBL.out) (by have := HT.out; omega))
      rw [← told_fst] at HRA
      have hwh : ((told z0 z1).map Prod.fst).map (wh z0 z1) = (told z0 z1).map Prod.snd := by rw [told_fst, told_is, List.map_map]; rfl
      rw [hwh] at HRA
      clear hwh
      go_wp2_with (go_at_call 25; refine HRA.out.mono ?_; clear HRA; rintro e w5 ⟨x5, y5, rfl, hx5, hy5, hb5⟩; have HX5 := Lib.hid hx5; have HY5 := Lib.hid hy5; have HB5 := Lib.hid hb5; clear hx5 hy5 hb5)
      obtain ⟨px, cx, hx5e⟩ := HX5.out.at.form
      obtain ⟨py, cy, hy5e⟩ := HY5.out.at.form
      rw [List.length_map] at hx5e hy5e
      subst hx5e hy5e
      have hbl5 : Boxed w5 w.heap.size 3 (.int .i64 a2) := by
        have e1 := HS0.out
        have e2 := HBL.out.size
        exact (HB5.out.block _ (by omega)).trans ((HBL.out.block _ (by omega)).trans HL.out)
      have hal5 : AllAt w5 w2.heap.size w3.heap.size C1 C2 z0 z1 := HAL.out.below (Kr.of_below (HB5.out.mono HSW.out))
      have hn5 : w3.heap.size ≤ w5.heap.size := Nat.le_trans HSW.out HB5.out.size
      have hbw5 : Below w.heap.size w w5 := HB0.out.trans ((HBL.out.trans (HB5.out.mono HBL.out.size)).mono HB0.out.size)
      have hlt5 : w.heap.size < w5.heap.size := hbl5.lt
      clear HB5 HBL HAL HSW HL HB0 HS0 HB1 HB2 HB3 J0 J1 HZ
      generalize w2.heap.size = m at hal5
      generalize w3.heap.size = n₀ at hal5 hn5
      have HAL := Lib.hid hal5
      have HN5 := Lib.hid hn5
      have HBL := Lib.hid hbl5
      have HBW := Lib.hid hbw5
      have HLT := Lib.hid hlt5
      have HTL : Hid ((told z0 z1).length ≤ 1048576) := Lib.hid (by rw [told_length]; have := uniL_length z0 z1; have := HT.out; omega)
      have HSET : Hid ((setL z0).length + (setL z1).length ≤ 9223372036854775807) := Lib.hid (by have := setL_length z0; have := setL_length z1; have := HT.out; omega)
      clear hal5 hn5 hbl5 hbw5 hlt5
      refine wp_loop_rounds 3 ?_
      rw [rounds_succ]
      have bt := Boxed.new w5 3 (.int .i64 0)
      have hs5 : (w5.alloc (.cells #[.int .i64 0] 3)).heap.size = w5.heap.size + 1 := by simp
      have hb5 : Below w5.heap.size w5 (w5.alloc (.cells #[.int .i64 0] 3)) := (Below.refl _ w5).alloc (Nat.le_refl _) _
      generalize w5.alloc (.cells #[.int .i64 0] 3) = W5 at *
      have ct := bt.cell
      have HBT := Lib.hid bt
      have HS5 := Lib.hid hs5
      have HB5 := Lib.hid hb5
      clear bt hs5 hb5
      go_wp2_with fail
      have g1 := Boxed.new W5 22 (.slice none 0 0)
      have g2 := Boxed.new (W5.alloc (.cells #[.slice none 0 0] 22)) 22 (.slice none 0 0)
      rw [World.size_alloc] at g2
      have g3 := g1.alloc (.cells #[.slice none 0 0] 22)
      have gbt := (HBT.out.alloc (.cells #[.slice none 0 0] 22)).alloc (.cells #[.slice none 0 0] 22)
      have hs6 : ((W5.alloc (.cells #[.slice none 0 0] 22)).alloc (.cells #[.slice none 0 0] 22)).heap.size = W5.heap.size + 2 := by simp
      have hb6 : Below W5.heap.size W5 ((W5.alloc (.cells #[.slice none 0 0] 22)).alloc (.cells #[.slice none 0 0] 22)) := ((Below.refl _ W5).alloc (Nat.le_refl _) _).alloc (by simp) _
      generalize (W5.alloc (.cells #[.slice none 0 0] 22)).alloc (.cells #[.slice none 0 0] 22) = W6 at *
      have HB6 : Hid (Below w5.heap.size w5 W6) := Lib.hid (HB5.out.trans (hb6.mono HB5.out.size))
      have h0 : Inv w5 W6.heap.size W5.heap.size (W5.heap.size + 1) w5.heap.size 0 [] W6 := ⟨⟨_, _, two_none W6 _ _ _ g3 g2⟩, gbt, HB6.out, Nat.le_refl _⟩
      have HS6 := Lib.hid hs6
      clear g1 g2 g3 gbt hs6 hb6 HBT
      refine range_walk (fun a x => { tmps := (((a.tmps.setIfInBounds 48 (.int .i64 x.1)).setIfInBounds 49 (.int .i64 x.2)).setIfInBounds 16 (.int .i64 x.1)).setIfInBounds 17 (.int .i64 x.2), defers := [] }) z0 z1 m n₀ C1 C2 4 rfl
        (HAL.out.below (Kr.of_below (HB6.out.mono HN5.out))) (Nat.le_trans HN5.out HB6.out.size) HSET.out rfl
        (fun pre W => Inv w5 W6.heap.size W5.heap.size (W5.heap.size + 1) w5.heap.size 0 pre W ∧ (∀ j : Nat, 1 ≤ j → j ≤ pre.length → (j : Int) ≠ a2))
        (fun pre W => Inv w5 W6.heap.size W5.heap.size (W5.heap.size + 1) w5.heap.size 0 pre W ∧ (1 ≤ pre.length ∧ (pre.length : Int) = a2))
        (Inv.own HB6.out.size _) (Inv.own HB6.out.size (fun pre => 1 ≤ pre.length ∧ (pre.length : Int) = a2)) ⟨h0, fun j h1 h2 => by simp at h2; omega⟩ ?assign ?body (fun _ _ h => h) ?fin
      case assign =>
        intro l x W K hK
        dsimp only [enc2]
        gi_wp2
        exact hK
      case body =>
        rintro l pre x W ⟨hi, hnj⟩ hlt
        simp only [List.setIfInBounds_toArray, List.set_cons_succ, List.set_cons_zero]
        gi_wp2
        obtain ⟨⟨q1, q2, h⟩, hbt, hbel, hle⟩ := hi
        have hxl : (pre.map Prod.fst).length ≤ 17592186044000 := by rw [List.length_map]; have := HTL.out; omega
        have hyl : (pre.map Prod.snd).length ≤ 17592186044000 := by rw [List.length_map]; have := HTL.out; omega
        have hxl2 : (pre.map Prod.fst).length = pre.length := List.length_map _
        generalize hX : pre.map Prod.fst = xs at h hxl hxl2
        generalize hY : pre.map Prod.snd = ys at h hyl
        have HXL := Lib.hid hxl2
        have HX := Lib.hid hX
        have HY := Lib.hid hY
        clear hxl2 hX hY
        have hnr : W5.heap.size ≤ W6.heap.size := by have := HS6.out; omega
        have hne12 : W5.heap.size ≠ W5.heap.size + 1 := by omega
        have hB1 : W5.heap.size ≤ W5.heap.size := Nat.le_refl _
        have hd := h.drew
        have sD := Step.drew W5.heap.size W
        have hleD : W6.heap.size ≤ W.drew.heap.size := hle
        generalize hw0 : W.drew = D at hd sD hleD
        have hA := hd.alloc (.cells #[.int .i64 x.1] 3)
        have sA := sD.alloc (Nat.le_trans hnr hleD) (.cells #[.int .i64 x.1] 3)
        have lA : W6.heap.size ≤ (D.alloc (.cells #[.int .i64 x.1] 3)).heap.size := Nat.le_trans hleD (by simp)
        obtain ⟨g1, c1, W1, r1, h1, s1, gr1⟩ := hA.app (nR := W5.heap.size) x.1 D.heap.size (Tmp.new _ _) hxl lA hnr
        have l1 : W6.heap.size ≤ W1.heap.size := Nat.le_trans lA gr1.size
        have h1a := h1.alloc (.cells #[.int .i64 x.2] 3)
        have s1a := (sA.trans s1).alloc (Nat.le_trans hnr l1) (.cells #[.int .i64 x.2] 3)
        obtain ⟨g2, c2, W2, r2, h2, s2, gr2⟩ := h1a.swap.app (nR := W5.heap.size) x.2 W1.heap.size (Tmp.new _ _) hyl (Nat.le_trans l1 (by simp)) hnr
        have e2 := h2.swap.stored (s1a.trans s2) hB1 (Nat.le_succ_of_le hB1) hne12
        have hA2 := hA.alloc (.cells #[.int .i64 x.2] 3)
        have sA2 := sA.alloc (Nat.le_trans hnr lA) (.cells #[.int .i64 x.2] 3)
        obtain ⟨g3, c3, W3, r3, h3, s3, gr3⟩ := hA2.app (nR := W5.heap.size) x.1 D.heap.size ((Tmp.new _ _).alloc _) hxl (Nat.le_trans lA (by simp)) hnr
        obtain ⟨g4, c4, W4, r4, h4, s4, gr4⟩ := h3.swap.app (nR := W5.heap.size) x.2 (D.alloc (.cells #[.int .i64 x.1] 3)).heap.size ((Tmp.new _ _).kept gr3 (not_own hA.o1 (Nat.le_refl _))) hyl (Nat.le_trans lA (Nat.le_trans (by simp) gr3.size)) hnr
        have e4 := h4.swap.stored ((sA2.trans s3).trans s4) hB1 (Nat.le_succ_of_le hB1) hne12
        have hC := hd.alloc (.cells #[.int .i64 x.2] 3)
        have sC := sD.alloc (Nat.le_trans hnr hleD) (.cells #[.int .i64 x.2] 3)
        have lC : W6.heap.size ≤ (D.alloc (.cells #[.int .i64 x.2] 3)).heap.size := Nat.le_trans hleD (by simp)
        have hC2 := hC.alloc (.cells #[.int .i64 x.1] 3)
        have sC2 := sC.alloc (Nat.le_trans hnr lC) (.cells #[.int .i64 x.1] 3)
        obtain ⟨g5, c5, X5, r5, h5, s5, gr5⟩ := hC2.app (nR := W5.heap.size) x.1 (D.alloc (.cells #[.int .i64 x.2] 3)).heap.size (Tmp.new _ _) hxl (Nat.le_trans lC (by simp)) hnr
        obtain ⟨g6, c6, X6, r6, h6, s6, gr6⟩ := h5.swap.app (nR := W5.heap.size) x.2 D.heap.size (((Tmp.new _ _).alloc _).kept gr5 (not_own hd.o1 (Nat.le_refl _))) hyl (Nat.le_trans lC (Nat.le_trans (by simp) gr5.size)) hnr
        have e6 := h6.swap.stored ((sC2.trans s5).trans s6) hB1 (Nat.le_succ_of_le hB1) hne12
        rw [World.size_alloc] at r4 r5
        have S0 : D.cell? ⟨W5.heap.size, 0, none⟩ = some q1 ∧ D.cell? ⟨W5.heap.size + 1, 0, none⟩ = some q2 := ⟨hd.b1.cell, hd.b2.cell⟩
        have SA := And.intro hA.b1.cell hA.b2.cell
        have S1 := And.intro h1.b1.cell h1.b2.cell
        have S1a := And.intro h1a.b1.cell h1a.b2.cell
        have S2 := And.intro h2.b2.cell h2.b1.cell
        have SA2 := And.intro hA2.b1.cell hA2.b2.cell
        have S3 := And.intro h3.b1.cell h3.b2.cell
        have S4 := And.intro h4.b2.cell h4.b1.cell
        have SC := And.intro hC.b1.cell hC.b2.cell
        have SC2 := And.intro hC2.b1.cell hC2.b2.cell
        have S5 := And.intro h5.b1.cell h5.b2.cell
        have S6 := And.intro h6.b2.cell h6.b1.cell
        have HH : Hid (Boxed W w5.heap.size 3 (.int .i64 0) ∧ Below w5.heap.size w5 W ∧ W6.heap.size ≤ W.heap.size) := Lib.hid ⟨hbt, hbel, hle⟩
        have E2 := Lib.hid e2
        have E4 := Lib.hid e4
        have E6 := Lib.hid e6
        clear e2 e4 e6 h1 h2 h3 h4 h5 h6 hA hA2 hC hC2 h1a s1 s2 s3 s4 s5 s6 gr1 gr2 gr3 gr4 gr5 gr6 sA sA2 sC sC2 s1a sD lA lC l1 hleD hd h hbt hbel hle
        refine region_round [8, 9] (fun X => X.cell? ⟨W5.heap.size, 0, none⟩ = some q1 ∧ X.cell? ⟨W5.heap.size + 1, 0, none⟩ = some q2) (by kernel_rfl) (by kernel_rfl) (by rw [hw0]; exact S0) fun hSS => ?_
        rw [hw0]
        clear hSS
        refine U_take' (i := 0) (v := ?vv0) [3, 7, 8, 9] rfl (by kernel_rfl) (by kernel_rfl) (by kernel_rfl) (by kernel_rfl) (fun _ _ _ h => absurd h.1 (by simp)) (Or.inl ⟨by rfl, ?hy0⟩) S0 ?rest0
        case hy0 =>
          intro wx hSx
          obtain ⟨sa, sb⟩ := hSx
          go_simp
          all_goals with_reducible rfl
        try simp only [Act.put, List.setIfInBounds_toArray, List.set_cons_zero, List.set_cons_succ]
        refine U_take' (i := 1) (v := ?vv1) [2, 3, 7, 8, 9] rfl (by kernel_rfl) (by kernel_rfl) (by kernel_rfl) (by kernel_rfl) (fun _ _ _ h => absurd h.1 (by simp)) (Or.inl ⟨by rfl, ?hy1⟩) S0 ?rest1
        case hy1 =>
          intro wx hSx
          obtain ⟨sa, sb⟩ := hSx
          go_simp
          all_goals with_reducible rfl
        try simp only [Act.put, List.setIfInBounds_toArray, List.set_cons_zero, List.set_cons_succ]
        refine U_take' (i := 4) (v := ?vv4) [7, 8, 9] rfl (by kernel_rfl) (by kernel_rfl) (by kernel_rfl) (by kernel_rfl) (fun _ _ _ h => absurd h.1 (by simp)) (Or.inl ⟨by rfl, ?hy4⟩) S0 ?rest4
        case hy4 =>
          intro wx hSx
          obtain ⟨sa, sb⟩ := hSx
          go_simp
          all_goals with_reducible rfl
        try simp only [Act.put, List.setIfInBounds_toArray, List.set_cons_zero, List.set_cons_succ]
        refine U_take' (i := 5) (v := ?vv5) [6, 7, 8, 9] rfl (by kernel_rfl) (by kernel_rfl) (by kernel_rfl) (by kernel_rfl) (fun _ _ _ h => absurd h.1 (by simp)) (Or.inl ⟨by rfl, ?hy5⟩) S0 ?rest5
        case hy5 =>
          intro wx hSx
          obtain ⟨sa, sb⟩ := hSx
          go_simp
          all_goals with_reducible rfl
        try simp only [Act.put, List.setIfInBounds_toArray, List.set_cons_zero, List.set_cons_succ]
        refine U_two 2 6 (by kernel_rfl) ?bA ?bC
        case bA =>
          refine U_step rfl fun K hK => ?_
          go_simp
          refine hK _ _ (fun _ => SA) ?_
          clear K hK
          try simp only [Act.put, List.setIfInBounds_toArray, List.set_cons_zero, List.set_cons_succ]
          refine U_two 3 6 (by kernel_rfl) ?bA1 ?bA2
          case bA1 =>
            refine U_step rfl fun K hK => ?_
            refine step_append_run (by rfl) _ _ _ _ (by rfl) _ _ (.slice (some ⟨g1, 0, none⟩) (xs.length + 1) c1) W1 (by rfl) (by rfl) r1 ?_
            refine hK _ _ (fun _ => S1) ?_
            clear K hK
            try simp only [Act.put, List.setIfInBounds_toArray, List.set_cons_zero, List.set_cons_succ]
            refine U_one 6 (by kernel_rfl) ?_
            refine U_step rfl fun K hK => ?_
            go_simp
            refine hK _ _ (fun _ => S1a) ?_
            clear K hK
            try simp only [Act.put, List.setIfInBounds_toArray, List.set_cons_zero, List.set_cons_succ]
            refine U_one 7 (by kernel_rfl) ?_
            refine U_step rfl fun K hK => ?_
            refine step_append_run (by rfl) _ _ _ _ (by rfl) _ _ (.slice (some ⟨g2, 0, none⟩) (ys.length + 1) c2) W2 (by rfl) (by rfl) r2 ?_
            refine hK _ _ (fun _ => S2) ?_
            clear K hK
            try simp only [Act.put, List.setIfInBounds_toArray, List.set_cons_zero, List.set_cons_succ]
            obtain ⟨t, s, k1, k2, k3, k4⟩ := E2.out
            clear E2 E4 E6 r1 r2 r3 r4 r5 r6 S0 SA S1 S1a S2 SA2 S3 S4 SC SC2 S5 S6
            refine U_one 8 (by kernel_rfl) ?_
            refine U_step rfl fun K hK => ?_
            go_simp
            refine hK _ _ (fun h => absurd (by simp) h) ?_
            clear K hK
            try simp only [Act.put, List.setIfInBounds_toArray, List.set_cons_zero, List.set_cons_succ]
            refine U_one 9 (by kernel_rfl) ?_
            refine U_step rfl fun K hK => ?_
            go_simp
            refine hK _ _ (fun h => absurd (by simp) h) ?_
            clear K hK
            try simp only [Act.put, List.setIfInBounds_toArray, List.set_cons_zero, List.set_cons_succ]
            refine U_done (by kernel_rfl) ⟨rfl, ?_⟩ _
            clear k1 k2 k3 k4
            generalize (W2.setCell ⟨W5.heap.size, 0, none⟩ (.slice (some ⟨g1, 0, none⟩) (xs.length + 1) c1)).setCell ⟨W5.heap.size + 1, 0, none⟩ (.slice (some ⟨g2, 0, none⟩) (ys.length + 1) c2) = Wf at t s ⊢
            obtain ⟨hbt, hbel, hle⟩ := HH.out
            have bt' : Boxed Wf w5.heap.size 3 (.int .i64 0) := (s.bel.block _ (by have := HS5.out; omega)).trans hbt
            have bel' : Below w5.heap.size w5 Wf := hbel.trans (s.bel.mono (by have := HS5.out; omega))
            have bl' : Boxed Wf w.heap.size 3 (.int .i64 a2) := (bel'.block _ HLT.out).trans HBL.out
            have ct' := bt'.cell
            have cl' := bl'.cell
            have cg' := t.b1.cell
            rw [HXL.out] at cg'
            have HI : Hid (Inv w5 W6.heap.size W5.heap.size (W5.heap.size + 1) w5.heap.size 0 (pre ++ [x]) Wf) := Lib.hid ⟨⟨_, _, by rw [List.map_append, List.map_append, HX.out, HY.out]; exact t⟩, bt', bel', Nat.le_trans hle s.bel.size⟩
            have HK : Hid (KeepsFrom W6.heap.size W Wf ∧ Kr m n₀ W Wf) := Lib.hid ⟨s.oth.from _, Kr.of_below (s.bel.mono (by have := HS5.out; have := HN5.out; omega))⟩
            clear t s bt' bel' bl' hbt hbel hle
            by_cases hx : ((pre.length + 1 : Nat) : Int) = a2
            · subst hx
              gi_wp2
              exact ⟨HK.out.1, rfl, HI.out, by simp, by simp⟩
            · gi_wp2
              exact ⟨HK.out.1, HK.out.2, HI.out, fun j h1 h2 => by
                simp only [List.length_append, List.length_singleton] at h2
                rcases Nat.lt_or_ge j (pre.length + 1) with c | c
                · exact hnj j h1 (by omega)
                · obtain rfl : j = pre.length + 1 := by omega
                  exact hx⟩
          case bA2 =>
            refine U_step rfl fun K hK => ?_
            go_simp
            refine hK _ _ (fun _ => SA2) ?_
            clear K hK
            try simp only [Act.put, List.setIfInBounds_toArray, List.set_cons_zero, List.set_cons_succ]
            refine U_one 3 (by kernel_rfl) ?_
            refine U_step rfl fun K hK => ?_
            refine step_append_run (by rfl) _ _ _ _ (by rfl) _ _ (.slice (some ⟨g3, 0, none⟩) (xs.length + 1) c3) W3 (by rfl) (by rfl) r3 ?_
            refine hK _ _ (fun _ => S3) ?_
            clear K hK
            try simp only [Act.put, List.setIfInBounds_toArray, List.set_cons_zero, List.set_cons_succ]
            refine U_one 7 (by kernel_rfl) ?_
            refine U_step rfl fun K hK => ?_
            refine step_append_run (by rfl) _ _ _ _ (by rfl) _ _ (.slice (some ⟨g4, 0, none⟩) (ys.length + 1) c4) W4 (by rfl) (by rfl) r4 ?_
            refine hK _ _ (fun _ => S4) ?_
            clear K hK
            try simp only [Act.put, List.setIfInBounds_toArray, List.set_cons_zero, List.set_cons_succ]
            obtain ⟨t, s, k1, k2, k3, k4⟩ := E4.out
            clear E2 E4 E6 r1 r2 r3 r4 r5 r6 S0 SA S1 S1a S2 SA2 S3 S4 SC SC2 S5 S6
            refine U_one 8 (by kernel_rfl) ?_
            refine U_step rfl fun K hK => ?_
            go_simp
            refine hK _ _ (fun h => absurd (by simp) h) ?_
            clear K hK
            try simp only [Act.put, List.setIfInBounds_toArray, List.set_cons_zero, List.set_cons_succ]
            refine U_one 9 (by kernel_rfl) ?_
            refine U_step rfl fun K hK => ?_
            go_simp
            refine hK _ _ (fun h => absurd (by simp) h) ?_
            clear K hK
            try simp only [Act.put, List.setIfInBounds_toArray, List.set_cons_zero, List.set_cons_succ]
            refine U_done (by kernel_rfl) ⟨rfl, ?_⟩ _
            clear k1 k2 k3 k4
            generalize (W4.setCell ⟨W5.heap.size, 0, none⟩ (.slice (some ⟨g3, 0, none⟩) (xs.length + 1) c3)).setCell ⟨W5.heap.size + 1, 0, none⟩ (.slice (some ⟨g4, 0, none⟩) (ys.length + 1) c4) = Wf at t s ⊢
            obtain ⟨hbt, hbel, hle⟩ := HH.out
            have bt' : Boxed Wf w5.heap.size 3 (.int .i64 0) := (s.bel.block _ (by have := HS5.out; omega)).trans hbt
            have bel' : Below w5.heap.size w5 Wf := hbel.trans (s.bel.mono (by have := HS5.out; omega))
            have bl' : Boxed Wf w.heap.size 3 (.int .i64 a2) := (bel'.block _ HLT.out).trans HBL.out
            have ct' := bt'.cell
            have cl' := bl'.cell
            have cg' := t.b1.cell
            rw [HXL.out] at cg'
            have HI : Hid (Inv w5 W6.heap.size W5.heap.size (W5.heap.size + 1) w5.heap.size 0 (pre ++ [x]) Wf) := Lib.hid ⟨⟨_, _, by rw [List.map_append, List.map_append, HX.out, HY.out]; exact t⟩, bt', bel', Nat.le_trans hle s.bel.size⟩
            have HK : Hid (KeepsFrom W6.heap.size W Wf ∧ Kr m n₀ W Wf) := Lib.hid ⟨s.oth.from _, Kr.of_below (s.bel.mono (by have := HS5.out; have := HN5.out; omega))⟩
            clear t s bt' bel' bl' hbt hbel hle
            by_cases hx : ((pre.length + 1 : Nat) : Int) = a2
            · subst hx
              gi_wp2
              exact ⟨HK.out.1, rfl, HI.out, by simp, by simp⟩
            · gi_wp2
              exact ⟨HK.out.1, HK.out.2, HI.out, fun j h1 h2 => by
                simp only [List.length_append, List.length_singleton] at h2
                rcases Nat.lt_or_ge j (pre.length + 1) with c | c
                · exact hnj j h1 (by omega)
                · obtain rfl : j = pre.length + 1 := by omega
                  exact hx⟩
        case bC =>
          refine U_step rfl fun K hK => ?_
          go_simp
          refine hK _ _ (fun _ => SC) ?_
          clear K hK
          try simp only [Act.put, List.setIfInBounds_toArray, List.set_cons_zero, List.set_cons_succ]
          refine U_one 2 (by kernel_rfl) ?_
          refine U_step rfl fun K hK => ?_
          go_simp
          refine hK _ _ (fun _ => SC2) ?_
          clear K hK
          try simp only [Act.put, List.setIfInBounds_toArray, List.set_cons_zero, List.set_cons_succ]
          refine U_one 3 (by kernel_rfl) ?_
          refine U_step rfl fun K hK => ?_
          refine step_append_run (by rfl) _ _ _ _ (by rfl) _ _ (.slice (some ⟨g5, 0, none⟩) (xs.length + 1) c5) X5 (by rfl) (by rfl) r5 ?_
          refine hK _ _ (fun _ => S5) ?_
          clear K hK
          try simp only [Act.put, List.setIfInBounds_toArray, List.set_cons_zero, List.set_cons_succ]
          refine U_one 7 (by kernel_rfl) ?_
          refine U_step rfl fun K hK => ?_
          refine step_append_run (by rfl) _ _ _ _ (by rfl) _ _ (.slice (some ⟨g6, 0, none⟩) (ys.length + 1) c6) X6 (by rfl) (by rfl) r6 ?_
          refine hK _ _ (fun _ => S6) ?_
          clear K hK
          try simp only [Act.put, List.setIfInBounds_toArray, List.set_cons_zero, List.set_cons_succ]
          obtain ⟨t, s, k1, k2, k3, k4⟩ := E6.out
          clear E2 E4 E6 r1 r2 r3 r4 r5 r6 S0 SA S1 S1a S2 SA2 S3 S4 SC SC2 S5 S6
          refine U_one 8 (by kernel_rfl) ?_
          refine U_step rfl fun K hK => ?_
          go_simp
          refine hK _ _ (fun h => absurd (by simp) h) ?_
          clear K hK
          try simp only [Act.put, List.setIfInBounds_toArray, List.set_cons_zero, List.set_cons_succ]
          refine U_one 9 (by kernel_rfl) ?_
          refine U_step rfl fun K hK => ?_
          go_simp
          refine hK _ _ (fun h => absurd (by simp) h) ?_
          clear K hK
          try simp only [Act.put, List.setIfInBounds_toArray, List.set_cons_zero, List.set_cons_succ]
          refine U_done (by kernel_rfl) ⟨rfl, ?_⟩ _
          clear k1 k2 k3 k4
          generalize (X6.setCell ⟨W5.heap.size, 0, none⟩ (.slice (some ⟨g5, 0, none⟩) (xs.length + 1) c5)).setCell ⟨W5.heap.size + 1, 0, none⟩ (.slice (some ⟨g6, 0, none⟩) (ys.length + 1) c6) = Wf at t s ⊢
          obtain ⟨hbt, hbel, hle⟩ := HH.out
          have bt' : Boxed Wf w5.heap.size 3 (.int .i64 0) := (s.bel.block _ (by have := HS5.out; omega)).trans hbt
          have bel' : Below w5.heap.size w5 Wf := hbel.trans (s.bel.mono (by have := HS5.out; omega))
          have bl' : Boxed Wf w.heap.size 3 (.int .i64 a2) := (bel'.block _ HLT.out).trans HBL.out
          have ct' := bt'.cell
          have cl' := bl'.cell
          have cg' := t.b1.cell
          rw [HXL.out] at cg'
          have HI : Hid (Inv w5 W6.heap.size W5.heap.size (W5.heap.size + 1) w5.heap.size 0 (pre ++ [x]) Wf) := Lib.hid ⟨⟨_, _, by rw [List.map_append, List.map_append, HX.out, HY.out]; exact t⟩, bt', bel', Nat.le_trans hle s.bel.size⟩
          have HK : Hid (KeepsFrom W6.heap.size W Wf ∧ Kr m n₀ W Wf) := Lib.hid ⟨s.oth.from _, Kr.of_below (s.bel.mono (by have := HS5.out; have := HN5.out; omega))⟩
          clear t s bt' bel' bl' hbt hbel hle
          by_cases hx : ((pre.length + 1 : Nat) : Int) = a2
          · subst hx
            gi_wp2
            exact ⟨HK.out.1, rfl, HI.out, by simp, by simp⟩
          · gi_wp2
            exact ⟨HK.out.1, HK.out.2, HI.out, fun j h1 h2 => by
              simp only [List.length_append, List.length_singleton] at h2
              rcases Nat.lt_or_ge j (pre.length + 1) with c | c
              · exact hnj j h1 (by omega)
              · obtain rfl : j = pre.length + 1 := by omega
                exact hx⟩
      case fin =>
        rintro D pre W hD hcase hK
        obtain ⟨hp, hi, hn⟩ : pre <+: told z0 z1 ∧ Inv w5 W6.heap.size W5.heap.size (W5.heap.size + 1) w5.heap.size 0 pre W ∧ ((0 < a2 → min ((told z0 z1).length : Int) a2 = pre.length) ∧ (¬ 0 < a2 → (told z0 z1).length = pre.length)) := by
          rcases hcase with ⟨rfl, hi, hnj⟩ | ⟨hp, hi, h1, h2⟩
          · refine ⟨List.prefix_refl _, hi, fun h => ?_, fun _ => rfl⟩
            rcases Int.lt_or_le (((told z0 z1).length : Int)) a2 with c | c
            · omega
            · exact absurd (show ((a2.toNat : Nat) : Int) = a2 by omega) (hnj a2.toNat (by omega) (by omega))
          · have := hp.length_le
            exact ⟨hp, hi, fun _ => by omega, fun h => by omega⟩
        obtain ⟨⟨q1, q2, h⟩, hbt, hbel, hle⟩ := hi
        have ct2 := hbt.cell
        have cl2 : W.cell? ⟨w.heap.size, 0, none⟩ = some (.int .i64 a2) := Boxed.cell ((hbel.block _ HLT.out).trans HBL.out)
        have HP := Lib.hid hp
        have HN := Lib.hid hn
        have HTW := Lib.hid h
        have HBT := Lib.hid hbt
        have HBE := Lib.hid hbel
        have HK := Lib.hid hK
        have HD := Lib.hid hD
        clear hp hn h hbt hbel hle hK hD hcase h0 ct
        go_upto_if 73 with fail
        go_cut [18] from 43 to 91 (fun s wx => s = .int .i64 (pre.length : Int) ∧ wx = W)
        case first =>
          by_cases hpos : 0 < a2
          · have hm := HN.out.1 hpos
            go_wp2_with fail
            go_meet
            exact ⟨rfl, rfl⟩
          · have hm := Lib.hid (HN.out.2 hpos)
            go_wp2_with fail
            go_meet
            exact ⟨by rw [hm.out], rfl⟩
        case rest =>
          obtain ⟨rfl, rfl⟩ := hcut
          obtain ⟨We, rfl⟩ : ∃ We : World, We = wc := ⟨_, rfl⟩
          clear ct2 cl2
          go_upto_region 22 with fail
          go_cut [90] from 43 to 91 (fun s wx => s = .bool false ∧ Below We.heap.size We wx)
          case first =>
            have hl1 : pre.length ≤ (told z0 z1).length := HP.out.length_le
            have e1 : ((told z0 z1).map Prod.fst).take pre.length = pre.map Prod.fst := by rw [← List.map_take, ← List.prefix_iff_eq_take.1 HP.out]
            have e2 : ((told z0 z1).map Prod.snd).take pre.length = pre.map Prod.snd := by rw [← List.map_take, ← List.prefix_iff_eq_take.1 HP.out]
            have hm1 : (pre.map Prod.fst).length ≤ maxLen := by rw [List.length_map]; have := HTL.out; unfold maxLen; omega
            have hm2 : (pre.map Prod.snd).length ≤ maxLen := by rw [List.length_map]; have := HTL.out; unfold maxLen; omega
            have D1 : Hid (∀ v, IntsAt w5 v (pre.map Prod.fst) → ∀ X, Below We.heap.size We X → Calls Try.prog 14 #[q1, v] X fun e w' => e = .returned (.bool true) ∧ Below X.heap.size X w') := Lib.hid fun v hv X hX => by
              have := sameLaw_any (pre.map Prod.fst) (pre.map Prod.fst) q1 v X (HTW.out.o1.at.below hX) (hv.below (HBE.out.trans (hX.mono HBE.out.size))) hm1 hm1
              rw [eqB_same] at this
              exact this
            have D2 : Hid (∀ v, IntsAt w5 v (pre.map Prod.snd) → ∀ X, Below We.heap.size We X → Calls Try.prog 14 #[q2, v] X fun e w' => e = .returned (.bool true) ∧ Below X.heap.size X w') := Lib.hid fun v hv X hX => by
              have := sameLaw_any (pre.map Prod.snd) (pre.map Prod.snd) q2 v X (HTW.out.o2.at.below hX) (hv.below (HBE.out.trans (hX.mono HBE.out.size))) hm2 hm2
              rw [eqB_same] at this
              exact this
            have KEEP : ∀ {x y : World}, (x.cell? ⟨W5.heap.size, 0, none⟩ = some q1 ∧ x.cell? ⟨W5.heap.size + 1, 0, none⟩ = some q2 ∧ Below We.heap.size We x) → Below x.heap.size x y → (y.cell? ⟨W5.heap.size, 0, none⟩ = some q1 ∧ y.cell? ⟨W5.heap.size + 1, 0, none⟩ = some q2 ∧ Below We.heap.size We y) := fun {x y} h g => by
              have hb := h.2.2.trans (g.mono h.2.2.size)
              exact ⟨Boxed.cell ((hb.block _ HTW.out.b1.lt).trans HTW.out.b1), Boxed.cell ((hb.block _ HTW.out.b2.lt).trans HTW.out.b2), hb⟩
            have BEL : ∀ {x : World}, (x.cell? ⟨W5.heap.size, 0, none⟩ = some q1 ∧ x.cell? ⟨W5.heap.size + 1, 0, none⟩ = some q2 ∧ Below We.heap.size We x) → Below We.heap.size We x := fun h => h.2.2
            have S0 : We.drew.cell? ⟨W5.heap.size, 0, none⟩ = some q1 ∧ We.drew.cell? ⟨W5.heap.size + 1, 0, none⟩ = some q2 ∧ Below We.heap.size We We.drew := ⟨HTW.out.b1.cell, HTW.out.b2.cell, (Step.drew _ _).bel⟩
            have hx := own_head HX5.out
            have hy := own_head HY5.out
            rw [List.length_map] at hx hy
            rw [← e1] at D1
            rw [← e2] at D2
            clear e1 e2 hm1 hm2
            rcases hx with ⟨ex, ez⟩ | ⟨g, c, ex, hc, hi⟩
            · have h0 : (told z0 z1).length = 0 := by rw [← List.length_map (f := Prod.fst), ez]; rfl
              obtain rfl : pre = [] := List.eq_nil_of_length_eq_zero (by omega)
              have hz0 := Lib.hid h0
              clear h0 ez
              rw [List.length_nil] at D1 D2
              rcases hy with ⟨ey, ez⟩ | ⟨g', c', ey, hc', hi'⟩
              · clear ez
                injection ex with epx emx ecx
                clear emx
                subst epx ecx
                have E1 := Lib.hid (D1.out (.slice none 0 0) (.inl ⟨by rw [List.take_zero], none, 0, rfl⟩))
                injection ey with epy emy ecy
                clear emy
                subst epy ecy
                have E2 := Lib.hid (D2.out (.slice none 0 0) (.inl ⟨by rw [List.take_zero], none, 0, rfl⟩))
                clear D1 D2 hl1 HTW
                go_region_held3 (fun x => x.cell? ⟨W5.heap.size, 0, none⟩ = some q1 ∧ x.cell? ⟨W5.heap.size + 1, 0, none⟩ = some q2 ∧ Below We.heap.size We x) (first | assumption | exact KEEP (by assumption) hb | go_keep)
                  (first
                    | (go_at_call 14; refine (E1.out _ (BEL (by assumption))).mono ?_; clear E1; rintro e wk ⟨rfl, hb⟩)
                    | (go_at_call 14; refine (E2.out _ (BEL (by assumption))).mono ?_; rintro e wk ⟨rfl, hb⟩))
                all_goals
                  go_wp2_with fail
                  go_meet
                  exact ⟨rfl, BEL (by assumption)⟩
              · clear hc'
                injection ex with epx emx ecx
                clear emx
                subst epx ecx
                have E1 := Lib.hid (D1.out (.slice none 0 0) (.inl ⟨by rw [List.take_zero], none, 0, rfl⟩))
                injection ey with epy emy ecy
                clear emy
                subst epy ecy
                have E2 := Lib.hid (D2.out _ (hi' 0 (Nat.zero_le _)))
                clear D1 D2 hi' hl1 HTW
                go_region_held3 (fun x => x.cell? ⟨W5.heap.size, 0, none⟩ = some q1 ∧ x.cell? ⟨W5.heap.size + 1, 0, none⟩ = some q2 ∧ Below We.heap.size We x) (first | assumption | exact KEEP (by assumption) hb | go_keep)
                  (first
                    | (go_at_call 14; refine (E1.out _ (BEL (by assumption))).mono ?_; clear E1; rintro e wk ⟨rfl, hb⟩)
                    | (go_at_call 14; refine (E2.out _ (BEL (by assumption))).mono ?_; rintro e wk ⟨rfl, hb⟩))
                all_goals
                  go_wp2_with fail
                  go_meet
                  exact ⟨rfl, BEL (by assumption)⟩
            · rcases hy with ⟨ey, ez⟩ | ⟨g', c', ey, hc', hi'⟩
              · have h0 : (told z0 z1).length = 0 := by rw [← List.length_map (f := Prod.snd), ez]; rfl
                obtain rfl : pre = [] := List.eq_nil_of_length_eq_zero (by omega)
                have hz0 := Lib.hid h0
                clear h0 ez
                rw [List.length_nil] at D1 D2
                clear hc
                injection ex with epx emx ecx
                clear emx
                subst epx ecx
                have E1 := Lib.hid (D1.out _ (hi 0 (Nat.zero_le _)))
                injection ey with epy emy ecy
                clear emy
                subst epy ecy
                have E2 := Lib.hid (D2.out (.slice none 0 0) (.inl ⟨by rw [List.take_zero], none, 0, rfl⟩))
                clear D1 D2 hi hl1 HTW
                go_region_held3 (fun x => x.cell? ⟨W5.heap.size, 0, none⟩ = some q1 ∧ x.cell? ⟨W5.heap.size + 1, 0, none⟩ = some q2 ∧ Below We.heap.size We x) (first | assumption | exact KEEP (by assumption) hb | go_keep)
                  (first
                    | (go_at_call 14; refine (E1.out _ (BEL (by assumption))).mono ?_; clear E1; rintro e wk ⟨rfl, hb⟩)
                    | (go_at_call 14; refine (E2.out _ (BEL (by assumption))).mono ?_; rintro e wk ⟨rfl, hb⟩))
                all_goals
                  go_wp2_with fail
                  go_meet
                  exact ⟨rfl, BEL (by assumption)⟩
              · injection ex with ep _ ec
                injection ey with ep' _ ec'
                subst ep ec ep' ec'
                have E1 := Lib.hid (D1.out _ (hi pre.length hl1))
                have E2 := Lib.hid (D2.out _ (hi' pre.length hl1))
                have hcc : (pre.length : Int) ≤ (cx : Int) := by omega
                have hcc' : (pre.length : Int) ≤ (cy : Int) := by omega
                have hp0 : (0 : Int) ≤ (pre.length : Int) := by omega
                clear D1 D2 hi hi' hc hc' hl1 HTW
                go_region_held3 (fun x => x.cell? ⟨W5.heap.size, 0, none⟩ = some q1 ∧ x.cell? ⟨W5.heap.size + 1, 0, none⟩ = some q2 ∧ Below We.heap.size We x) (first | assumption | exact KEEP (by assumption) hb | go_keep)
                  (first
                    | (go_at_call 14; refine (E1.out _ (BEL (by assumption))).mono ?_; clear E1; rintro e wk ⟨rfl, hb⟩)
                    | (go_at_call 14; refine (E2.out _ (BEL (by assumption))).mono ?_; rintro e wk ⟨rfl, hb⟩))
                all_goals
                  go_wp2_with fail
                  go_meet
                  exact ⟨rfl, BEL (by assumption)⟩
          case rest =>
            obtain ⟨rfl, hbc⟩ := hcut
            obtain ⟨w7, rfl⟩ : ∃ w7 : World, w7 = wc := ⟨_, rfl⟩
            have hbt7 : Boxed w7 w5.heap.size 3 (.int .i64 0) := (hbc.block _ HBT.out.lt).trans HBT.out
            have hbe7 : Below w5.heap.size w5 w7 := HBE.out.trans (hbc.mono HBE.out.size)
            have hk7 : w7.heap[D]? = some (.deferred (some [])) := (hbc.block _ (Array.getElem?_eq_some_iff.1 HK.out).1).trans HK.out
            have hx7 := own_below HX5.out hbe7
            have hy7 := own_below HY5.out hbe7
            have hal7 := HAL.out.below (Kr.of_below (hbe7.mono HN5.out))
            have hn7 := Nat.le_trans HN5.out hbe7.size
            have hbl7 : Boxed w7 w.heap.size 3 (.int .i64 a2) := (hbe7.block _ HLT.out).trans HBL.out
            have hbw7 := HBW.out.trans (hbe7.mono HBW.out.size)
            have hlt7 := Nat.lt_of_lt_of_le HLT.out hbe7.size
            have hdl : w5.heap.size ≤ D := Nat.le_trans HB6.out.size HD.out
            have ct7 := hbt7.cell
            have hwd7 : w.heap.size ≤ D := Nat.le_trans (Nat.le_of_lt HLT.out) hdl
            clear HAL HN5 HBL HBW HLT HX5 HY5 HBT HBE HK HTW HP HN HB5 HS5 HB6 HS6 HD hbc hbt7 hbe7
            have HX5 := Lib.hid hx7
            have HY5 := Lib.hid hy7
            have HAL := Lib.hid hal7
            have HN5 := Lib.hid hn7
            have HBL := Lib.hid hbl7
            have HBW := Lib.hid hbw7
            have HLT := Lib.hid hlt7
            have HKA := Lib.hid hk7
            have HWD := Lib.hid hwd7
            clear hx7 hy7 hal7 hn7 hbl7 hbw7 hlt7 hk7 hdl hwd7
            go_wp2_with fail
            clear ct7
            rw [rounds_succ]
            have bt := Boxed.new w7 3 (.int .i64 1)
            have hs5 : (w7.alloc (.cells #[.int .i64 1] 3)).heap.size = w7.heap.size + 1 := by simp
            have hb5 : Below w7.heap.size w7 (w7.alloc (.cells #[.int .i64 1] 3)) := (Below.refl _ w7).alloc (Nat.le_refl _) _
            generalize w7.alloc (.cells #[.int .i64 1] 3) = W7 at *
            have ct := bt.cell
            have HBT := Lib.hid bt
            have HS5 := Lib.hid hs5
            have HB5 := Lib.hid hb5
            clear bt hs5 hb5
            go_wp2_with fail
            have g1 := Boxed.new W7 22 (.slice none 0 0)
            have g2 := Boxed.new (W7.alloc (.cells #[.slice none 0 0] 22)) 22 (.slice none 0 0)
            rw [World.size_alloc] at g2
            have g3 := g1.alloc (.cells #[.slice none 0 0] 22)
            have gbt := (HBT.out.alloc (.cells #[.slice none 0 0] 22)).alloc (.cells #[.slice none 0 0] 22)
            have hs6 : ((W7.alloc (.cells #[.slice none 0 0] 22)).alloc (.cells #[.slice none 0 0] 22)).heap.size = W7.heap.size + 2 := by simp
            have hb6 : Below W7.heap.size W7 ((W7.alloc (.cells #[.slice none 0 0] 22)).alloc (.cells #[.slice none 0 0] 22)) := ((Below.refl _ W7).alloc (Nat.le_refl _) _).alloc (by simp) _
            generalize (W7.alloc (.cells #[.slice none 0 0] 22)).alloc (.cells #[.slice none 0 0] 22) = W8 at *
            have HB6 : Hid (Below w7.heap.size w7 W8) := Lib.hid (HB5.out.trans (hb6.mono HB5.out.size))
            have h0 : Inv w7 W8.heap.size W7.heap.size (W7.heap.size + 1) w7.heap.size 1 [] W8 := ⟨⟨_, _, two_none W8 _ _ _ g3 g2⟩, gbt, HB6.out, Nat.le_refl _⟩
            have HS6 := Lib.hid hs6
            clear g1 g2 g3 gbt hs6 hb6 HBT
            refine range_walk (fun a x => { tmps := (((a.tmps.setIfInBounds 48 (.int .i64 x.1)).setIfInBounds 49 (.int .i64 x.2)).setIfInBounds 16 (.int .i64 x.1)).setIfInBounds 17 (.int .i64 x.2), defers := [] }) z0 z1 m n₀ C1 C2 4 rfl
              (HAL.out.below (Kr.of_below (HB6.out.mono HN5.out))) (Nat.le_trans HN5.out HB6.out.size) HSET.out rfl
              (fun pre W => Inv w7 W8.heap.size W7.heap.size (W7.heap.size + 1) w7.heap.size 1 pre W ∧ True)
              (fun pre W => Inv w7 W8.heap.size W7.heap.size (W7.heap.size + 1) w7.heap.size 1 pre W ∧ False)
              (Inv.own HB6.out.size (fun _ => True)) (Inv.own HB6.out.size (fun _ => False)) ⟨h0, trivial⟩ ?assignz ?bodyz (fun _ _ h => h) ?finz
            case assignz =>
              intro l x W K hK
              dsimp only [enc2]
              gi_wp2
              exact hK
            case bodyz =>
              rintro l pre x W ⟨hi, hnj⟩ hlt
              simp only [List.setIfInBounds_toArray, List.set_cons_succ, List.set_cons_zero]
              gi_wp2
              obtain ⟨⟨q1, q2, h⟩, hbt, hbel, hle⟩ := hi
              have hxl : (pre.map Prod.fst).length ≤ 17592186044000 := by rw [List.length_map]; have := HTL.out; omega
              have hyl : (pre.map Prod.snd).length ≤ 17592186044000 := by rw [List.length_map]; have := HTL.out; omega
              have hxl2 : (pre.map Prod.fst).length = pre.length := List.length_map _
              generalize hX : pre.map Prod.fst = xs at h hxl hxl2
              generalize hY : pre.map Prod.snd = ys at h hyl
              have HXL := Lib.hid hxl2
              have HX := Lib.hid hX
              have HY := Lib.hid hY
              clear hxl2 hX hY
              have hnr : W7.heap.size ≤ W8.heap.size := by have := HS6.out; omega
              have hne12 : W7.heap.size ≠ W7.heap.size + 1 := by omega
              have hB1 : W7.heap.size ≤ W7.heap.size := Nat.le_refl _
              have hd := h.drew
              have sD := Step.drew W7.heap.size W
              have hleD : W8.heap.size ≤ W.drew.heap.size := hle
              generalize hw0 : W.drew = D at hd sD hleD
              have hA := hd.alloc (.cells #[.int .i64 x.1] 3)
              have sA := sD.alloc (Nat.le_trans hnr hleD) (.cells #[.int .i64 x.1] 3)
              have lA : W8.heap.size ≤ (D.alloc (.cells #[.int .i64 x.1] 3)).heap.size := Nat.le_trans hleD (by simp)
              obtain ⟨g1, c1, W1, r1, h1, s1, gr1⟩ := hA.app (nR := W7.heap.size) x.1 D.heap.size (Tmp.new _ _) hxl lA hnr
              have l1 : W8.heap.size ≤ W1.heap.size := Nat.le_trans lA gr1.size
              have h1a := h1.alloc (.cells #[.int .i64 x.2] 3)
              have s1a := (sA.trans s1).alloc (Nat.le_trans hnr l1) (.cells #[.int .i64 x.2] 3)
              obtain ⟨g2, c2, W2, r2, h2, s2, gr2⟩ := h1a.swap.app (nR := W7.heap.size) x.2 W1.heap.size (Tmp.new _ _) hyl (Nat.le_trans l1 (by simp)) hnr
              have e2 := h2.swap.stored (s1a.trans s2) hB1 (Nat.le_succ_of_le hB1) hne12
              have hA2 := hA.alloc (.cells #[.int .i64 x.2] 3)
              have sA2 := sA.alloc (Nat.le_trans hnr lA) (.cells #[.int .i64 x.2] 3)
              obtain ⟨g3, c3, W3, r3, h3, s3, gr3⟩ := hA2.app (nR := W7.heap.size) x.1 D.heap.size ((Tmp.new _ _).alloc _) hxl (Nat.le_trans lA (by simp)) hnr
              obtain ⟨g4, c4, W4, r4, h4, s4, gr4⟩ := h3.swap.app (nR := W7.heap.size) x.2 (D.alloc (.cells #[.int .i64 x.1] 3)).heap.size ((Tmp.new _ _).kept gr3 (not_own hA.o1 (Nat.le_refl _))) hyl (Nat.le_trans lA (Nat.le_trans (by simp) gr3.size)) hnr
              have e4 := h4.swap.stored ((sA2.trans s3).trans s4) hB1 (Nat.le_succ_of_le hB1) hne12
              have hC := hd.alloc (.cells #[.int .i64 x.2] 3)
              have sC := sD.alloc (Nat.le_trans hnr hleD) (.cells #[.int .i64 x.2] 3)
              have lC : W8.heap.size ≤ (D.alloc (.cells #[.int .i64 x.2] 3)).heap.size := Nat.le_trans hleD (by simp)
              have hC2 := hC.alloc (.cells #[.int .i64 x.1] 3)
              have sC2 := sC.alloc (Nat.le_trans hnr lC) (.cells #[.int .i64 x.1] 3)
              obtain ⟨g5, c5, X5, r5, h5, s5, gr5⟩ := hC2.app (nR := W7.heap.size) x.1 (D.alloc (.cells #[.int .i64 x.2] 3)).heap.size (Tmp.new _ _) hxl (Nat.le_trans lC (by simp)) hnr
              obtain ⟨g6, c6, X6, r6, h6, s6, gr6⟩ := h5.swap.app (nR := W7.heap.size) x.2 D.heap.size (((Tmp.new _ _).alloc _).kept gr5 (not_own hd.o1 (Nat.le_refl _))) hyl (Nat.le_trans lC (Nat.le_trans (by simp) gr5.size)) hnr
              have e6 := h6.swap.stored ((sC2.trans s5).trans s6) hB1 (Nat.le_succ_of_le hB1) hne12
              rw [World.size_alloc] at r4 r5
              have S0 : D.cell? ⟨W7.heap.size, 0, none⟩ = some q1 ∧ D.cell? ⟨W7.heap.size + 1, 0, none⟩ = some q2 := ⟨hd.b1.cell, hd.b2.cell⟩
              have SA := And.intro hA.b1.cell hA.b2.cell
              have S1 := And.intro h1.b1.cell h1.b2.cell
              have S1a := And.intro h1a.b1.cell h1a.b2.cell
              have S2 := And.intro h2.b2.cell h2.b1.cell
              have SA2 := And.intro hA2.b1.cell hA2.b2.cell
              have S3 := And.intro h3.b1.cell h3.b2.cell
              have S4 := And.intro h4.b2.cell h4.b1.cell
              have SC := And.intro hC.b1.cell hC.b2.cell
              have SC2 := And.intro hC2.b1.cell hC2.b2.cell
              have S5 := And.intro h5.b1.cell h5.b2.cell
              have S6 := And.intro h6.b2.cell h6.b1.cell
              have HH : Hid (Boxed W w7.heap.size 3 (.int .i64 1) ∧ Below w7.heap.size w7 W ∧ W8.heap.size ≤ W.heap.size) := Lib.hid ⟨hbt, hbel, hle⟩
              have E2 := Lib.hid e2
              have E4 := Lib.hid e4
              have E6 := Lib.hid e6
              clear e2 e4 e6 h1 h2 h3 h4 h5 h6 hA hA2 hC hC2 h1a s1 s2 s3 s4 s5 s6 gr1 gr2 gr3 gr4 gr5 gr6 sA sA2 sC sC2 s1a sD lA lC l1 hleD hd h hbt hbel hle
              refine region_round [8, 9] (fun X => X.cell? ⟨W7.heap.size, 0, none⟩ = some q1 ∧ X.cell? ⟨W7.heap.size + 1, 0, none⟩ = some q2) (by kernel_rfl) (by kernel_rfl) (by rw [hw0]; exact S0) fun hSS => ?_
              rw [hw0]
              clear hSS
              refine U_take' (i := 0) (v := ?vvb0) [3, 7, 8, 9] rfl (by kernel_rfl) (by kernel_rfl) (by kernel_rfl) (by kernel_rfl) (fun _ _ _ h => absurd h.1 (by simp)) (Or.inl ⟨by rfl, ?hyb0⟩) S0 ?restb0
              case hyb0 =>
                intro wx hSx
                obtain ⟨sa, sb⟩ := hSx
                go_simp
                all_goals with_reducible rfl
              try simp only [Act.put, List.setIfInBounds_toArray, List.set_cons_zero, List.set_cons_succ]
              refine U_take' (i := 1) (v := ?vvb1) [2, 3, 7, 8, 9] rfl (by kernel_rfl) (by kernel_rfl) (by kernel_rfl) (by kernel_rfl) (fun _ _ _ h => absurd h.1 (by simp)) (Or.inl ⟨by rfl, ?hyb1⟩) S0 ?restb1
              case hyb1 =>
                intro wx hSx
                obtain ⟨sa, sb⟩ := hSx
                go_simp
                all_goals with_reducible rfl
              try simp only [Act.put, List.setIfInBounds_toArray, List.set_cons_zero, List.set_cons_succ]
              refine U_take' (i := 4) (v := ?vvb4) [7, 8, 9] rfl (by kernel_rfl) (by kernel_rfl) (by kernel_rfl) (by kernel_rfl) (fun _ _ _ h => absurd h.1 (by simp)) (Or.inl ⟨by rfl, ?hyb4⟩) S0 ?restb4
              case hyb4 =>
                intro wx hSx
                obtain ⟨sa, sb⟩ := hSx
                go_simp
                all_goals with_reducible rfl
              try simp only [Act.put, List.setIfInBounds_toArray, List.set_cons_zero, List.set_cons_succ]
              refine U_take' (i := 5) (v := ?vvb5) [6, 7, 8, 9] rfl (by kernel_rfl) (by kernel_rfl) (by kernel_rfl) (by kernel_rfl) (fun _ _ _ h => absurd h.1 (by simp)) (Or.inl ⟨by rfl, ?hyb5⟩) S0 ?restb5
              case hyb5 =>
                intro wx hSx
                obtain ⟨sa, sb⟩ := hSx
                go_simp
                all_goals with_reducible rfl
              try simp only [Act.put, List.setIfInBounds_toArray, List.set_cons_zero, List.set_cons_succ]
              refine U_two 2 6 (by kernel_rfl) ?bAz ?bCz
              case bAz =>
                refine U_step rfl fun K hK => ?_
                go_simp
                refine hK _ _ (fun _ => SA) ?_
                clear K hK
                try simp only [Act.put, List.setIfInBounds_toArray, List.set_cons_zero, List.set_cons_succ]
                refine U_two 3 6 (by kernel_rfl) ?bA1z ?bA2z
                case bA1z =>
                  refine U_step rfl fun K hK => ?_
                  refine step_append_run (by rfl) _ _ _ _ (by rfl) _ _ (.slice (some ⟨g1, 0, none⟩) (xs.length + 1) c1) W1 (by rfl) (by rfl) r1 ?_
                  refine hK _ _ (fun _ => S1) ?_
                  clear K hK
                  try simp only [Act.put, List.setIfInBounds_toArray, List.set_cons_zero, List.set_cons_succ]
                  refine U_one 6 (by kernel_rfl) ?_
                  refine U_step rfl fun K hK => ?_
                  go_simp
                  refine hK _ _ (fun _ => S1a) ?_
                  clear K hK
                  try simp only [Act.put, List.setIfInBounds_toArray, List.set_cons_zero, List.set_cons_succ]
                  refine U_one 7 (by kernel_rfl) ?_
                  refine U_step rfl fun K hK => ?_
                  refine step_append_run (by rfl) _ _ _ _ (by rfl) _ _ (.slice (some ⟨g2, 0, none⟩) (ys.length + 1) c2) W2 (by rfl) (by rfl) r2 ?_
                  refine hK _ _ (fun _ => S2) ?_
                  clear K hK
                  try simp only [Act.put, List.setIfInBounds_toArray, List.set_cons_zero, List.set_cons_succ]
                  obtain ⟨t, s, k1, k2, k3, k4⟩ := E2.out
                  clear E2 E4 E6 r1 r2 r3 r4 r5 r6 S0 SA S1 S1a S2 SA2 S3 S4 SC SC2 S5 S6
                  refine U_one 8 (by kernel_rfl) ?_
                  refine U_step rfl fun K hK => ?_
                  go_simp
                  refine hK _ _ (fun h => absurd (by simp) h) ?_
                  clear K hK
                  try simp only [Act.put, List.setIfInBounds_toArray, List.set_cons_zero, List.set_cons_succ]
                  refine U_one 9 (by kernel_rfl) ?_
                  refine U_step rfl fun K hK => ?_
                  go_simp
                  refine hK _ _ (fun h => absurd (by simp) h) ?_
                  clear K hK
                  try simp only [Act.put, List.setIfInBounds_toArray, List.set_cons_zero, List.set_cons_succ]
                  refine U_done (by kernel_rfl) ⟨rfl, ?_⟩ _
                  clear k1 k2 k3 k4
                  generalize (W2.setCell ⟨W7.heap.size, 0, none⟩ (.slice (some ⟨g1, 0, none⟩) (xs.length + 1) c1)).setCell ⟨W7.heap.size + 1, 0, none⟩ (.slice (some ⟨g2, 0, none⟩) (ys.length + 1) c2) = Wf at t s ⊢
                  obtain ⟨hbt, hbel, hle⟩ := HH.out
                  have bt' : Boxed Wf w7.heap.size 3 (.int .i64 1) := (s.bel.block _ (by have := HS5.out; omega)).trans hbt
                  have bel' : Below w7.heap.size w7 Wf := hbel.trans (s.bel.mono (by have := HS5.out; omega))
                  have bl' : Boxed Wf w.heap.size 3 (.int .i64 a2) := (bel'.block _ HLT.out).trans HBL.out
                  have ct' := bt'.cell
                  have cl' := bl'.cell
                  have cg' := t.b1.cell
                  rw [HXL.out] at cg'
                  have HI : Hid (Inv w7 W8.heap.size W7.heap.size (W7.heap.size + 1) w7.heap.size 1 (pre ++ [x]) Wf) := Lib.hid ⟨⟨_, _, by rw [List.map_append, List.map_append, HX.out, HY.out]; exact t⟩, bt', bel', Nat.le_trans hle s.bel.size⟩
                  have HK : Hid (KeepsFrom W8.heap.size W Wf ∧ Kr m n₀ W Wf) := Lib.hid ⟨s.oth.from _, Kr.of_below (s.bel.mono (by have := HS5.out; have := HN5.out; omega))⟩
                  clear t s bt' bel' bl' hbt hbel hle
                  gi_wp2
                  exact ⟨HK.out.1, HK.out.2, HI.out, trivial⟩
                case bA2z =>
                  refine U_step rfl fun K hK => ?_
                  go_simp
                  refine hK _ _ (fun _ => SA2) ?_
                  clear K hK
                  try simp only [Act.put, List.setIfInBounds_toArray, List.set_cons_zero, List.set_cons_succ]
                  refine U_one 3 (by kernel_rfl) ?_
                  refine U_step rfl fun K hK => ?_
                  refine step_append_run (by rfl) _ _ _ _ (by rfl) _ _ (.slice (some ⟨g3, 0, none⟩) (xs.length + 1) c3) W3 (by rfl) (by rfl) r3 ?_
                  refine hK _ _ (fun _ => S3) ?_
                  clear K hK
                  try simp only [Act.put, List.setIfInBounds_toArray, List.set_cons_zero, List.set_cons_succ]
                  refine U_one 7 (by kernel_rfl) ?_
                  refine U_step rfl fun K hK => ?_
                  refine step_append_run (by rfl) _ _ _ _ (by rfl) _ _ (.slice (some ⟨g4, 0, none⟩) (ys.length + 1) c4) W4 (by rfl) (by rfl) r4 ?_
                  refine hK _ _ (fun _ => S4) ?_
                  clear K hK
                  try simp only [Act.put, List.setIfInBounds_toArray, List.set_cons_zero, List.set_cons_succ]
                  obtain ⟨t, s, k1, k2, k3, k4⟩ := E4.out
                  clear E2 E4 E6 r1 r2 r3 r4 r5 r6 S0 SA S1 S1a S2 SA2 S3 S4 SC SC2 S5 S6
                  refine U_one 8 (by kernel_rfl) ?_
                  refine U_step rfl fun K hK => ?_
                  go_simp
                  refine hK _ _ (fun h => absurd (by simp) h) ?_
                  clear K hK
                  try simp only [Act.put, List.setIfInBounds_toArray, List.set_cons_zero, List.set_cons_succ]
                  refine U_one 9 (by kernel_rfl) ?_
                  refine U_step rfl fun K hK => ?_
                  go_simp
                  refine hK _ _ (fun h => absurd (by simp) h) ?_
                  clear K hK
                  try simp only [Act.put, List.setIfInBounds_toArray, List.set_cons_zero, List.set_cons_succ]
                  refine U_done (by kernel_rfl) ⟨rfl, ?_⟩ _
                  clear k1 k2 k3 k4
                  generalize (W4.setCell ⟨W7.heap.size, 0, none⟩ (.slice (some ⟨g3, 0, none⟩) (xs.length + 1) c3)).setCell ⟨W7.heap.size + 1, 0, none⟩ (.slice (some ⟨g4, 0, none⟩) (ys.length + 1) c4) = Wf at t s ⊢
                  obtain ⟨hbt, hbel, hle⟩ := HH.out
                  have bt' : Boxed Wf w7.heap.size 3 (.int .i64 1) := (s.bel.block _ (by have := HS5.out; omega)).trans hbt
                  have bel' : Below w7.heap.size w7 Wf := hbel.trans (s.bel.mono (by have := HS5.out; omega))
                  have bl' : Boxed Wf w.heap.size 3 (.int .i64 a2) := (bel'.block _ HLT.out).trans HBL.out
                  have ct' := bt'.cell
                  have cl' := bl'.cell
                  have cg' := t.b1.cell
                  rw [HXL.out] at cg'
                  have HI : Hid (Inv w7 W8.heap.size W7.heap.size (W7.heap.size + 1) w7.heap.size 1 (pre ++ [x]) Wf) := Lib.hid ⟨⟨_, _, by rw [List.map_append, List.map_append, HX.out, HY.out]; exact t⟩, bt', bel', Nat.le_trans hle s.bel.size⟩
                  have HK : Hid (KeepsFrom W8.heap.size W Wf ∧ Kr m n₀ W Wf) := Lib.hid ⟨s.oth.from _, Kr.of_below (s.bel.mono (by have := HS5.out; have := HN5.out; omega))⟩
                  clear t s bt' bel' bl' hbt hbel hle
                  gi_wp2
                  exact ⟨HK.out.1, HK.out.2, HI.out, trivial⟩
              case bCz =>
                refine U_step rfl fun K hK => ?_
                go_simp
                refine hK _ _ (fun _ => SC) ?_
                clear K hK
                try simp only [Act.put, List.setIfInBounds_toArray, List.set_cons_zero, List.set_cons_succ]
                refine U_one 2 (by kernel_rfl) ?_
                refine U_step rfl fun K hK => ?_
                go_simp
                refine hK _ _ (fun _ => SC2) ?_
                clear K hK
                try simp only [Act.put, List.setIfInBounds_toArray, List.set_cons_zero, List.set_cons_succ]
                refine U_one 3 (by kernel_rfl) ?_
                refine U_step rfl fun K hK => ?_
                refine step_append_run (by rfl) _ _ _ _ (by rfl) _ _ (.slice (some ⟨g5, 0, none⟩) (xs.length + 1) c5) X5 (by rfl) (by rfl) r5 ?_
                refine hK _ _ (fun _ => S5) ?_
                clear K hK
                try simp only [Act.put, List.setIfInBounds_toArray, List.set_cons_zero, List.set_cons_succ]
                refine U_one 7 (by kernel_rfl) ?_
                refine U_step rfl fun K hK => ?_
                refine step_append_run (by rfl) _ _ _ _ (by rfl) _ _ (.slice (some ⟨g6, 0, none⟩) (ys.length + 1) c6) X6 (by rfl) (by rfl) r6 ?_
                refine hK _ _ (fun _ => S6) ?_
                clear K hK
                try simp only [Act.put, List.setIfInBounds_toArray, List.set_cons_zero, List.set_cons_succ]
                obtain ⟨t, s, k1, k2, k3, k4⟩ := E6.out
                clear E2 E4 E6 r1 r2 r3 r4 r5 r6 S0 SA S1 S1a S2 SA2 S3 S4 SC SC2 S5 S6
                refine U_one 8 (by kernel_rfl) ?_
                refine U_step rfl fun K hK => ?_
                go_simp
                refine hK _ _ (fun h => absurd (by simp) h) ?_
                clear K hK
                try simp only [Act.put, List.setIfInBounds_toArray, List.set_cons_zero, List.set_cons_succ]
                refine U_one 9 (by kernel_rfl) ?_
                refine U_step rfl fun K hK => ?_
                go_simp
                refine hK _ _ (fun h => absurd (by simp) h) ?_
                clear K hK
                try simp only [Act.put, List.setIfInBounds_toArray, List.set_cons_zero, List.set_cons_succ]
                refine U_done (by kernel_rfl) ⟨rfl, ?_⟩ _
                clear k1 k2 k3 k4
                generalize (X6.setCell ⟨W7.heap.size, 0, none⟩ (.slice (some ⟨g5, 0, none⟩) (xs.length + 1) c5)).setCell ⟨W7.heap.size + 1, 0, none⟩ (.slice (some ⟨g6, 0, none⟩) (ys.length + 1) c6) = Wf at t s ⊢
                obtain ⟨hbt, hbel, hle⟩ := HH.out
                have bt' : Boxed Wf w7.heap.size 3 (.int .i64 1) := (s.bel.block _ (by have := HS5.out; omega)).trans hbt
                have bel' : Below w7.heap.size w7 Wf := hbel.trans (s.bel.mono (by have := HS5.out; omega))
                have bl' : Boxed Wf w.heap.size 3 (.int .i64 a2) := (bel'.block _ HLT.out).trans HBL.out
                have ct' := bt'.cell
                have cl' := bl'.cell
                have cg' := t.b1.cell
                rw [HXL.out] at cg'
                have HI : Hid (Inv w7 W8.heap.size W7.heap.size (W7.heap.size + 1) w7.heap.size 1 (pre ++ [x]) Wf) := Lib.hid ⟨⟨_, _, by rw [List.map_append, List.map_append, HX.out, HY.out]; exact t⟩, bt', bel', Nat.le_trans hle s.bel.size⟩
                have HK : Hid (KeepsFrom W8.heap.size W Wf ∧ Kr m n₀ W Wf) := Lib.hid ⟨s.oth.from _, Kr.of_below (s.bel.mono (by have := HS5.out; have := HN5.out; omega))⟩
                clear t s bt' bel' bl' hbt hbel hle
                gi_wp2
                exact ⟨HK.out.1, HK.out.2, HI.out, trivial⟩
            case finz =>
              rintro D2 pre W hD hcase hK
              obtain ⟨hp, hi, hn⟩ : pre <+: told z0 z1 ∧ Inv w7 W8.heap.size W7.heap.size (W7.heap.size + 1) w7.heap.size 1 pre W ∧ (told z0 z1).length = pre.length := by
                rcases hcase with ⟨rfl, hi, _⟩ | ⟨_, _, hf⟩
                · exact ⟨List.prefix_refl _, hi, rfl⟩
                · exact hf.elim
              obtain ⟨⟨q1, q2, h⟩, hbt, hbel, hle⟩ := hi
              have ct2 := hbt.cell
              have cl2 : W.cell? ⟨w.heap.size, 0, none⟩ = some (.int .i64 a2) := Boxed.cell ((hbel.block _ HLT.out).trans HBL.out)
              have HP := Lib.hid hp
              have HN := Lib.hid hn
              have HTW := Lib.hid h
              have HBT := Lib.hid hbt
              have HBE := Lib.hid hbel
              have HK := Lib.hid hK
              have HD := Lib.hid hD
              clear hp hn h hbt hbel hle hK hD hcase h0 ct
              go_upto_if 73 with fail
              go_cut [18] from 43 to 91 (fun s wx => s = .int .i64 (pre.length : Int) ∧ wx = W)
              case first =>
                go_wp2_with fail
                go_meet
                exact ⟨by rw [HN.out], rfl⟩
              case rest =>
                obtain ⟨rfl, rfl⟩ := hcut
                obtain ⟨We, rfl⟩ : ∃ We : World, We = wc := ⟨_, rfl⟩
                clear ct2 cl2
                go_upto_region 22 with fail
                go_cut [90] from 43 to 91 (fun s wx => s = .bool false ∧ Below We.heap.size We wx)
                case first =>
                  have hl1 : pre.length ≤ (told z0 z1).length := HP.out.length_le
                  have e1 : ((told z0 z1).map Prod.fst).take pre.length = pre.map Prod.fst := by rw [← List.map_take, ← List.prefix_iff_eq_take.1 HP.out]
                  have e2 : ((told z0 z1).map Prod.snd).take pre.length = pre.map Prod.snd := by rw [← List.map_take, ← List.prefix_iff_eq_take.1 HP.out]
                  have hm1 : (pre.map Prod.fst).length ≤ maxLen := by rw [List.length_map]; have := HTL.out; unfold maxLen; omega
                  have hm2 : (pre.map Prod.snd).length ≤ maxLen := by rw [List.length_map]; have := HTL.out; unfold maxLen; omega
                  have D1 : Hid (∀ v, IntsAt w7 v (pre.map Prod.fst) → ∀ X, Below We.heap.size We X → Calls Try.prog 14 #[q1, v] X fun e w' => e = .returned (.bool true) ∧ Below X.heap.size X w') := Lib.hid fun v hv X hX => by
                    have := sameLaw_any (pre.map Prod.fst) (pre.map Prod.fst) q1 v X (HTW.out.o1.at.below hX) (hv.below (HBE.out.trans (hX.mono HBE.out.size))) hm1 hm1
                    rw [eqB_same] at this
                    exact this
                  have D2 : Hid (∀ v, IntsAt w7 v (pre.map Prod.snd) → ∀ X, Below We.heap.size We X → Calls Try.prog 14 #[q2, v] X fun e w' => e = .returned (.bool true) ∧ Below X.heap.size X w') := Lib.hid fun v hv X hX => by
                    have := sameLaw_any (pre.map Prod.snd) (pre.map Prod.snd) q2 v X (HTW.out.o2.at.below hX) (hv.below (HBE.out.trans (hX.mono HBE.out.size))) hm2 hm2
                    rw [eqB_same] at this
                    exact this
                  have KEEP : ∀ {x y : World}, (x.cell? ⟨W7.heap.size, 0, none⟩ = some q1 ∧ x.cell? ⟨W7.heap.size + 1, 0, none⟩ = some q2 ∧ Below We.heap.size We x) → Below x.heap.size x y → (y.cell? ⟨W7.heap.size, 0, none⟩ = some q1 ∧ y.cell? ⟨W7.heap.size + 1, 0, none⟩ = some q2 ∧ Below We.heap.size We y) := fun {x y} h g => by
                    have hb := h.2.2.trans (g.mono h.2.2.size)
                    exact ⟨Boxed.cell ((hb.block _ HTW.out.b1.lt).trans HTW.out.b1), Boxed.cell ((hb.block _ HTW.out.b2.lt).trans HTW.out.b2), hb⟩
                  have BEL : ∀ {x : World}, (x.cell? ⟨W7.heap.size, 0, none⟩ = some q1 ∧ x.cell? ⟨W7.heap.size + 1, 0, none⟩ = some q2 ∧ Below We.heap.size We x) → Below We.heap.size We x := fun h => h.2.2
                  have S0 : We.drew.cell? ⟨W7.heap.size, 0, none⟩ = some q1 ∧ We.drew.cell? ⟨W7.heap.size + 1, 0, none⟩ = some q2 ∧ Below We.heap.size We We.drew := ⟨HTW.out.b1.cell, HTW.out.b2.cell, (Step.drew _ _).bel⟩
                  have hx := own_head HX5.out
                  have hy := own_head HY5.out
                  rw [List.length_map] at hx hy
                  rw [← e1] at D1
                  rw [← e2] at D2
                  clear e1 e2 hm1 hm2
                  rcases hx with ⟨ex, ez⟩ | ⟨g, c, ex, hc, hi⟩
                  · have h0 : (told z0 z1).length = 0 := by rw [← List.length_map (f := Prod.fst), ez]; rfl
                    obtain rfl : pre = [] := List.eq_nil_of_length_eq_zero (by omega)
                    have hz0 := Lib.hid h0
                    clear h0 ez
                    rw [List.length_nil] at D1 D2
                    rcases hy with ⟨ey, ez⟩ | ⟨g', c', ey, hc', hi'⟩
                    · clear ez
                      injection ex with epx emx ecx
                      clear emx
                      subst epx ecx
                      have E1 := Lib.hid (D1.out (.slice none 0 0) (.inl ⟨by rw [List.take_zero], none, 0, rfl⟩))
                      injection ey with epy emy ecy
                      clear emy
                      subst epy ecy
                      have E2 := Lib.hid (D2.out (.slice none 0 0) (.inl ⟨by rw [List.take_zero], none, 0, rfl⟩))
                      clear D1 D2 hl1 HTW
                      go_region_held3 (fun x => x.cell? ⟨W7.heap.size, 0, none⟩ = some q1 ∧ x.cell? ⟨W7.heap.size + 1, 0, none⟩ = some q2 ∧ Below We.heap.size We x) (first | assumption | exact KEEP (by assumption) hb | go_keep)
                        (first
                          | (go_at_call 14; refine (E1.out _ (BEL (by assumption))).mono ?_; clear E1; rintro e wk ⟨rfl, hb⟩)
                          | (go_at_call 14; refine (E2.out _ (BEL (by assumption))).mono ?_; rintro e wk ⟨rfl, hb⟩))
                      all_goals
                        go_wp2_with fail
                        go_meet
                        exact ⟨rfl, BEL (by assumption)⟩
                    · clear hc'
                      injection ex with epx emx ecx
                      clear emx
                      subst epx ecx
                      have E1 := Lib.hid (D1.out (.slice none 0 0) (.inl ⟨by rw [List.take_zero], none, 0, rfl⟩))
                      injection ey with epy emy ecy
                      clear emy
                      subst epy ecy
                      have E2 := Lib.hid (D2.out _ (hi' 0 (Nat.zero_le _)))
                      clear D1 D2 hi' hl1 HTW
                      go_region_held3 (fun x => x.cell? ⟨W7.heap.size, 0, none⟩ = some q1 ∧ x.cell? ⟨W7.heap.size + 1, 0, none⟩ = some q2 ∧ Below We.heap.size We x) (first | assumption | exact KEEP (by assumption) hb | go_keep)
                        (first
                          | (go_at_call 14; refine (E1.out _ (BEL (by assumption))).mono ?_; clear E1; rintro e wk ⟨rfl, hb⟩)
                          | (go_at_call 14; refine (E2.out _ (BEL (by assumption))).mono ?_; rintro e wk ⟨rfl, hb⟩))
                      all_goals
                        go_wp2_with fail
                        go_meet
                        exact ⟨rfl, BEL (by assumption)⟩
                  · rcases hy with ⟨ey, ez⟩ | ⟨g', c', ey, hc', hi'⟩
                    · have h0 : (told z0 z1).length = 0 := by rw [← List.length_map (f := Prod.snd), ez]; rfl
                      obtain rfl : pre = [] := List.eq_nil_of_length_eq_zero (by omega)
                      have hz0 := Lib.hid h0
                      clear h0 ez
                      rw [List.length_nil] at D1 D2
                      clear hc
                      injection ex with epx emx ecx
                      clear emx
                      subst epx ecx
                      have E1 := Lib.hid (D1.out _ (hi 0 (Nat.zero_le _)))
                      injection ey with epy emy ecy
                      clear emy
                      subst epy ecy
                      have E2 := Lib.hid (D2.out (.slice none 0 0) (.inl ⟨by rw [List.take_zero], none, 0, rfl⟩))
                      clear D1 D2 hi hl1 HTW
                      go_region_held3 (fun x => x.cell? ⟨W7.heap.size, 0, none⟩ = some q1 ∧ x.cell? ⟨W7.heap.size + 1, 0, none⟩ = some q2 ∧ Below We.heap.size We x) (first | assumption | exact KEEP (by assumption) hb | go_keep)
                        (first
                          | (go_at_call 14; refine (E1.out _ (BEL (by assumption))).mono ?_; clear E1; rintro e wk ⟨rfl, hb⟩)
                          | (go_at_call 14; refine (E2.out _ (BEL (by assumption))).mono ?_; rintro e wk ⟨rfl, hb⟩))
                      all_goals
                        go_wp2_with fail
                        go_meet
                        exact ⟨rfl, BEL (by assumption)⟩
                    · injection ex with ep _ ec
                      injection ey with ep' _ ec'
                      subst ep ec ep' ec'
                      have E1 := Lib.hid (D1.out _ (hi pre.length hl1))
                      have E2 := Lib.hid (D2.out _ (hi' pre.length hl1))
                      have hcc : (pre.length : Int) ≤ (cx : Int) := by omega
                      have hcc' : (pre.length : Int) ≤ (cy : Int) := by omega
                      have hp0 : (0 : Int) ≤ (pre.length : Int) := by omega
                      clear D1 D2 hi hi' hc hc' hl1 HTW
                      go_region_held3 (fun x => x.cell? ⟨W7.heap.size, 0, none⟩ = some q1 ∧ x.cell? ⟨W7.heap.size + 1, 0, none⟩ = some q2 ∧ Below We.heap.size We x) (first | assumption | exact KEEP (by assumption) hb | go_keep)
                        (first
                          | (go_at_call 14; refine (E1.out _ (BEL (by assumption))).mono ?_; clear E1; rintro e wk ⟨rfl, hb⟩)
                          | (go_at_call 14; refine (E2.out _ (BEL (by assumption))).mono ?_; rintro e wk ⟨rfl, hb⟩))
                      all_goals
                        go_wp2_with fail
                        go_meet
                        exact ⟨rfl, BEL (by assumption)⟩
                case rest =>
                  obtain ⟨rfl, hbc⟩ := hcut
                  obtain ⟨w9, rfl⟩ : ∃ w9 : World, w9 = wc := ⟨_, rfl⟩
                  have hbt9 : Boxed w9 w7.heap.size 3 (.int .i64 1) := (hbc.block _ HBT.out.lt).trans HBT.out
                  have hbe9 : Below w7.heap.size w7 w9 := HBE.out.trans (hbc.mono HBE.out.size)
                  have hk9 : w9.heap[D2]? = some (.deferred (some [])) := (hbc.block _ (Array.getElem?_eq_some_iff.1 HK.out).1).trans HK.out
                  have hDl := (Array.getElem?_eq_some_iff.1 HKA.out).1
                  have hka9 : w9.heap[D]? = some (.deferred (some [])) := (hbe9.block _ hDl).trans HKA.out
                  have hne : D ≠ D2 := by have h1 := HD.out; have h2 := HB6.out.size; omega
                  have hwD : w.heap.size ≤ D := HWD.out
                  have hwD2 : w.heap.size ≤ D2 := by have h1 := HD.out; have h2 := HB6.out.size; have h3 := HLT.out; omega
                  have hbw9 := HBW.out.trans (hbe9.mono HBW.out.size)
                  have ct9 := hbt9.cell
                  clear HAL HN5 HBL HBW HLT HX5 HY5 HBT HBE HK HTW HP HN HB5 HS5 HB6 HS6 HD hbc hbt9 hbe9 hDl HKA HWD
                  have HKA := Lib.hid hk9
                  have HKB := Lib.hid hka9
                  have HNE := Lib.hid hne
                  have HWA := Lib.hid hwD
                  have HWB := Lib.hid hwD2
                  have HBW := Lib.hid hbw9
                  have H8 := Lib.hid sure_yes
                  clear hk9 hka9 hne hwD hwD2 hbw9
                  go_wp2_with fail
                  rw [rounds_succ]
                  have ca := (Boxed.new w9 3 (.int .i64 2)).cell
                  have hba : Below w9.heap.size w9 (w9.alloc (.cells #[.int .i64 2] 3)) := (Below.refl _ w9).alloc (Nat.le_refl _) _
                  have HBA := Lib.hid hba
                  clear hba ct9
                  generalize w9.alloc (.cells #[.int .i64 2] 3) = wa at *
                  go_wp2_with (go_at_call 17; refine (H8.out _).mono ?_; rintro e wb ⟨rfl, hb⟩)
                  have hbb : Below w9.heap.size w9 wb := HBA.out.trans (hb.mono HBA.out.size)
                  have k1 : wb.heap[D2]? = some (.deferred (some [])) := (hbb.block _ (Array.getElem?_eq_some_iff.1 HKA.out).1).trans HKA.out
                  have k2 : wb.heap[D]? = some (.deferred (some [])) := (hbb.block _ (Array.getElem?_eq_some_iff.1 HKB.out).1).trans HKB.out
                  have hbwb : Below w.heap.size w wb := HBW.out.trans (hbb.mono HBW.out.size)
                  have k3 : (wb.putObj D2 (.deferred none)).heap[D]? = some (.deferred (some [])) := (World.putObj_heap_other HNE.out).trans k2
                  have f1 := belowK_b (w := w) (Nat.le_refl _) wb D2 (.deferred (some [])) (.deferred none) HWB.out k1 rfl rfl
                  have f2 := belowK_b (w := w) (Nat.le_refl _) (wb.putObj D2 (.deferred none)) D (.deferred (some [])) (.deferred none) HWA.out k3 rfl rfl
                  refine ⟨by simp, .inl ⟨_, _, rfl, run_takeDeferred k1, ?_⟩⟩
                  refine ⟨by simp, .inl ⟨_, _, rfl, run_takeDeferred k3, ?_⟩⟩
                  exact ⟨_, results_tmp rfl _ _ _, rfl, (hbwb.trans f1).trans f2⟩
end Go.Proofs.Ytbfaoelgbfhjdaa
