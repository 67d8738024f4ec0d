/- The document's Decode and Error. Conditions: those that each theorem names. -/
import Derived.Test.YtfgmkdghpdpdkaaScJ
namespace Go.Proofs.Ytfgmkdghpdpdkaa
set_option linter.unusedVariables false
open Go Go.RowKit Vc Rk
namespace Sc
set_option maxHeartbeats 8000000 in
set_option maxRecDepth 100000 in
theorem decR_any (lo hi : List Int) (C : List UInt8) (u v : Value) (w : World) (hu : IntsAt w u lo) (hv : IntsAt w v hi) (hl : lo.length ≤ maxLen) (hh : hi.length ≤ maxLen) (hC : C.length ≤ maxLen) :
    Calls Try.prog 14 #[.agg #[u, v], .string (tx C)] w fun e w' => ∃ r, e = .returned (.tuple #[r, .int .i64 (decQ lo hi C).2]) ∧ OwnN w' w.heap.size r (decQ lo hi C).1 ∧ Below w.heap.size w w' := by
  obtain ⟨W0, hW0⟩ : ∃ W0, W0 = w.alloc (.cells #[u, v] 25) := ⟨_, rfl⟩
  have hb0 : Below w.heap.size w W0 := by rw [hW0]; exact fresh_alloc _ _
  have hz : W0.heap[w.heap.size]? = some (.cells #[u, v] 25) := by rw [hW0]; exact heap_last _ _
  have d0 : W0.cell? ⟨w.heap.size, 0, none⟩ = some u := by rw [Lib.cell_of_heap hz]; rfl
  have d1 : W0.cell? ⟨w.heap.size, 1, none⟩ = some v := by rw [Lib.cell_of_heap hz]; rfl
  have hs0 : w.heap.size < W0.heap.size := by rw [hW0]; simp
  have C1 := Lib.hid (fun W (hW : Below W0.heap.size W0 W) => may_any lo hi u v W ((hu.below hb0).below hW) ((hv.below hb0).below hW) hl hh)
  have HB0 := Lib.hid hb0
  have HU0 := Lib.hid (hu.below hb0)
  have HV0 := Lib.hid (hv.below hb0)
  obtain ⟨p1, c1, e1⟩ := hu.form
  obtain ⟨p2, c2, e2⟩ := hv.form
  subst e1; subst e2
  have hmay : ∀ h : mayB lo hi = true, lo.length = hi.length ∧ vecB lo = true := fun h => ⟨(may_of h).2.2.1, (may_of h).1⟩
  have HZ : Hid (∀ wr, Below W0.heap.size W0 wr → wr.cell? ⟨w.heap.size, 0, none⟩ = some (.slice p1 lo.length c1) ∧ wr.cell? ⟨w.heap.size, 1, none⟩ = some (.slice p2 hi.length c2)) := Lib.hid (fun wr hw => by
    have h := (hw.block _ hs0).trans hz
    exact ⟨by rw [Lib.cell_of_heap h]; rfl, by rw [Lib.cell_of_heap h]; rfl⟩)
  have HS0 : Hid (w.heap.size ≤ W0.heap.size) := Lib.hid (Nat.le_of_lt hs0)
  obtain ⟨Q, hQ⟩ : ∃ Q, Q = decQ lo hi C := ⟨_, rfl⟩
  obtain ⟨Q1, Q2⟩ := Q
  rw [← hQ]
  obtain ⟨s, hs⟩ : ∃ s, s = tx C := ⟨_, rfl⟩
  have hsz : s.size = C.length := by rw [hs, tx_size]
  rw [← hs]
  have HSZ := Lib.hid hsz
  have HSS := Lib.hid hs
  have C1 := Lib.hid (C1.out W0 (Below.refl _ _))
  clear hz hu hv hl hh hb0 hC hs0 hs hsz
  cases hm : mayB lo hi with
  | false =>
    have he : ((Q1, Q2) : List Int × Int) = ([], 170) := by rw [hQ]; unfold decQ; rw [hm]; rfl
    injection he with he1 he2
    subst he1; subst he2
    rw [hm] at C1
    clear hmay hQ
    go_enter Try.func14, Try.ntmps14
    go_upto_region 1 with fail
    rw [← hW0]
    clear hW0
    go_wp2_with fail
    refine C1.out.mono ?_
    rintro e w1 ⟨rfl, hb1⟩
    have HF := Lib.hid (HB0.out.trans (hb1.mono HS0.out))
    clear hb1
    go_wp2_with fail
    go_ret2
    exact ⟨_, rfl, own_none _ _, HF.out⟩
  | true =>
    obtain ⟨hlen, hvl⟩ := hmay hm
    rw [hm] at C1
    obtain ⟨n1, n64, n3⟩ := parts_of hvl
    clear n3 hvl
    have HSL := Lib.hid (spans_len hlen)
    by_cases hln : C.length = lo.length
    · have he : ((Q1, Q2) : List Int × Int) = (decL (spansL lo hi) C, 0) := by rw [hQ]; unfold decQ; rw [hm, if_pos rfl, if_pos hln]
      injection he with he1 he2
      subst he2
      have hss : s.size = lo.length := HSZ.out.trans hln
      have HQL : Hid (Q1.length = lo.length) := Lib.hid (by rw [he1, dec_len (by rw [HSL.out]; omega)]; exact HSL.out)
      obtain ⟨q1, d1', e1, hc1⟩ := ints_row HU0.out
      injection e1 with e11 _ e13
      subst e11; subst e13
      obtain ⟨q2, d2', e2, hc2⟩ := ints_row HV0.out
      injection e2 with e11 _ e13
      subst e11; subst e13
      have hat : ∀ k, k < lo.length → ∃ (a b : Int) (y : UInt8) (g1 o1 g2 o2 : Nat), OkS (a, b) ∧ (∀ h0, s[k]'h0 = y) ∧ Q1[k]? = some (valueU (a, b) y) ∧ p1 = some ⟨g1, o1, none⟩ ∧ p2 = some ⟨g2, o2, none⟩ ∧
          ∀ wr, Below W0.heap.size W0 wr → wr.cell? ⟨g1, o1 + k, none⟩ = some (.int .i64 a) ∧ wr.cell? ⟨g2, o2 + k, none⟩ = some (.int .i64 b) := fun k hk => by
        obtain ⟨a, ha⟩ : ∃ a, lo[k]? = some a := ⟨_, List.getElem?_eq_getElem hk⟩
        obtain ⟨b, hb⟩ : ∃ b, hi[k]? = some b := ⟨_, List.getElem?_eq_getElem (by omega)⟩
        obtain ⟨y, hy⟩ : ∃ y, C[k]? = some y := ⟨_, List.getElem?_eq_getElem (by omega)⟩
        obtain ⟨g1, o1, f1, _, y1⟩ := hc1 k a ha
        obtain ⟨g2, o2, f2, _, y2⟩ := hc2 k b hb
        have hs : (spansL lo hi)[k]? = some (a, b) := by unfold spansL; rw [List.getElem?_zip_eq_some]; exact ⟨ha, hb⟩
        exact ⟨a, b, y, g1, o1, g2, o2, ok_of hm _ (List.mem_of_getElem? hs), fun h0 => by have := HSS.out; subst this; exact tx_at hy h0, by rw [he1]; exact dec_at hs hy, f1, f2, fun wr hw => ⟨y1 wr hw, y2 wr hw⟩⟩
      have HAT := Lib.hid hat
      have HN64 := Lib.hid n64
      have HSN := Lib.hid hss
      clear hmay hQ hm hat hc1 hc2 he1 n1 HU0 HV0 HSL HSS HSZ
      rw [← hlen] at HZ d1 hW0 C1 ⊢
      have hsi : (s.size : Int) = (lo.length : Int) := by omega
      have hsb : ((s.size : Int) == (lo.length : Int)) = true := beq_iff_eq.2 hsi
      clear hlen hln hss
      generalize lo.length = n at *
      go_enter Try.func14, Try.ntmps14
      go_upto_region 1 with fail
      rw [← hW0]
      clear hW0
      go_wp2_with fail
      refine C1.out.mono ?_
      rintro e w1 ⟨rfl, hb1⟩
      obtain ⟨z0, z1⟩ := HZ.out w1 hb1
      have HBY := Lib.hid hb1
      clear C1 hb1
      go_wp2_with fail
      clear z0 z1
      go_loopw [6, 7] (fun bv i wr => ∃ k : Nat, k ≤ n ∧ i = .int .i64 k ∧ Below W0.heap.size W0 wr ∧ OwnN wr W0.heap.size bv (Q1.take k)) (fun _ i _ => n - (intOf i).toNat)
      case atStart => exact ⟨0, Nat.zero_le _, rfl, HBY.out, by simpa using own_none _ _⟩
      case round =>
          obtain ⟨k, hk, rfl, hbw, how⟩ := hrel
          obtain ⟨wo, rfl⟩ : ∃ wo : World, wo = wr := ⟨_, rfl⟩
          obtain ⟨z0, z1⟩ := HZ.out wo hbw
          have HBW := Lib.hid hbw
          have HOW := Lib.hid how
          by_cases hlt : k < n
          · obtain ⟨a, b, y, g1, o1, g2, o2, hok, hy, hQk, rfl, rfl, hcells⟩ := HAT.out k hlt
            obtain ⟨y1, y2⟩ := hcells wo hbw
            have HCE := Lib.hid hcells
            have HLT := Lib.hid hlt
            have hkn : (k : Int) < (n : Int) := by omega
            have hks : k < s.size := by rw [HSN.out]; exact hlt
            have hki : (k : Int) < (s.size : Int) := by omega
            have hsk := hy hks
            have HTL : Hid ((Q1.take k).length = k) := Lib.hid (by rw [List.length_take, HQL.out]; omega)
            have HNX : Hid (∀ c, c = valueU (a, b) y → Q1.take k ++ [c] = Q1.take (k + 1)) := Lib.hid (fun c hc => by rw [List.take_add_one, hQk, hc]; rfl)
            have HK64 : Hid (k ≤ 64) := Lib.hid (by have := HN64.out; omega)
            have mixed : Try.prog.follows .mixedOrders = true := by kernel_rfl
            have hok1 : -32768 ≤ a ∧ a ≤ b ∧ b ≤ 32767 := hok
            have hvb := value_bd (s := (a, b)) hok (c := (y.toNat : Int)) (by omega) (by have := y.toNat_lt; omega)
            have GROW : Hid (∀ (yy : Int) W, Below wo.heap.size wo W → yy = valueU (a, b) y → ∃ g cap w', (∀ ty, (Builtin.append_ #[23, 23] ty #[u6, .slice (some ⟨W.heap.size, 0, none⟩) 1 1]).run Try.prog (W.alloc (.cells #[.int .i64 yy] 3)) = .ok (.slice (some ⟨g, 0, none⟩) (k + 1) cap) w') ∧
                OwnN w' W0.heap.size (.slice (some ⟨g, 0, none⟩) (k + 1) cap) (Q1.take (k + 1)) ∧ Below W0.heap.size W0 w') := Lib.hid (fun yy W hW hy => by
              have hbW := HBW.out.trans (hW.mono HBW.out.size)
              obtain ⟨g, cap, w', h1, h2, _, h3, _⟩ := grow_row yy (own_below HOW.out hW) (by rw [HTL.out]; have := HK64.out; omega) hbW.size
              rw [HTL.out] at h1 h2
              rw [HNX.out _ hy] at h2
              exact ⟨g, cap, w', h1, h2, hbW.trans h3⟩)
            obtain ⟨yi, hyi⟩ : ∃ yi : Int, yi = (y.toNat : Int) := ⟨_, rfl⟩
            have hy0 : 0 ≤ yi ∧ yi ≤ 255 := by have := y.toNat_lt; omega
            obtain ⟨m, hm⟩ : ∃ m, m = yi * (b - a) := ⟨_, rfl⟩
            have hm0 : 0 ≤ m := by rw [hm]; exact Int.mul_nonneg hy0.1 (by omega)
            have hm1 : m ≤ 16711425 := by
              have h := Int.mul_le_mul_of_nonneg_right hy0.2 (show 0 ≤ b - a by omega)
              rw [hm]; omega
            have HVE : Hid (a + m / 255 = valueU (a, b) y) := Lib.hid (by rw [hm, hyi]; rfl)
            have hve := HVE.out
            have w1' : wrap64 (b - a) = b - a := wrap_in _ (by omega)
            have w2' : IntKind.i64.wrap (b - a) = b - a := kw_in _ (by omega)
            have w3' : wrap64 (yi * (b - a)) = m := by rw [← hm]; exact wrap_in _ (by omega)
            have w4' : IntKind.i64.wrap (yi * (b - a)) = m := by rw [← hm]; exact kw_in _ (by omega)
            have w5' : IntKind.i64.wrap yi = yi := kw_in _ (by omega)
            have w8' : wrap64 (a + m / 255) = a + m / 255 := wrap_in _ (by omega)
            have w9' : IntKind.i64.wrap (a + m / 255) = a + m / 255 := kw_in _ (by omega)
            have HD := Lib.hid (fun W => down_any m 255 W hm0 (by omega) (by omega))
            have hyr : (y.toNat : Int) = yi := hyi.symm
            clear hcells hQk hbw how hok hy hm hvb hve hyi hm0 hm1 hy0
            generalize valueU (a, b) y = vy at *
            go_wp2_with fail
            have HSB : Hid (∀ X, Below W0.heap.size W0 X → (X.cell? ⟨w.heap.size, 0, none⟩ = some (.slice (some ⟨g1, o1, none⟩) n c1) ∧ X.cell? ⟨w.heap.size, 1, none⟩ = some (.slice (some ⟨g2, o2, none⟩) n c2)) ∧ X.cell? ⟨g1, o1 + k, none⟩ = some (.int .i64 a) ∧ X.cell? ⟨g2, o2 + k, none⟩ = some (.int .i64 b)) := Lib.hid (fun X hX => ⟨HZ.out X hX, HCE.out X hX⟩)
            have hbf : Below W0.heap.size W0 wo.drew := HBW.out.drew
            obtain ⟨g, cap, w8, hr, ho, hb⟩ := GROW.out (a + m / 255) wo.drew ((Below.refl _ wo).drew) HVE.out
            have HO := Lib.hid ho
            have HB := Lib.hid hb
            have hSa := HSB.out _ hbf
            have hSb := HSB.out _ (hbf.alloc hbf.size (.cells #[.int .i64 (a + m / 255)] 3))
            have hSc := HSB.out _ HB.out
            clear ho hb hbf HVE HSB GROW HAT HNX HTL HOW z0 z1 y1 y2
            refine wp_region_L 26 (fun X => (X.cell? ⟨w.heap.size, 0, none⟩ = some (.slice (some ⟨g1, o1, none⟩) n c1) ∧ X.cell? ⟨w.heap.size, 1, none⟩ = some (.slice (some ⟨g2, o2, none⟩) n c2)) ∧ X.cell? ⟨g1, o1 + k, none⟩ = some (.int .i64 a) ∧ X.cell? ⟨g2, o2 + k, none⟩ = some (.int .i64 b)) (by kernel_rfl) hSa fun hSS => ?_
            refine L_take' (i := 0) (v := ?vv0) rfl (by kernel_rfl) (by kernel_rfl) (by kernel_rfl) (by kernel_rfl) (fun _ _ _ h => h) (Or.inl ⟨by rfl, ?hy0⟩) (by assumption) ?rest0
            case hy0 =>
              intro wy hSx
              obtain ⟨⟨s0, s1⟩, s2, s3⟩ := hSx
              go_simp
              all_goals with_reducible rfl
            try simp only [Act.put, List.setIfInBounds_toArray, List.set_cons_zero, List.set_cons_succ]
            refine L_take' (i := 1) (v := ?vv1) rfl (by kernel_rfl) (by kernel_rfl) (by kernel_rfl) (by kernel_rfl) (fun _ _ _ h => h) (Or.inl ⟨by rfl, ?hy1⟩) (by assumption) ?rest1
            case hy1 =>
              intro wy hSx
              obtain ⟨⟨s0, s1⟩, s2, s3⟩ := hSx
              go_simp
              all_goals with_reducible rfl
            try simp only [Act.put, List.setIfInBounds_toArray, List.set_cons_zero, List.set_cons_succ]
            refine L_take' (i := 2) (v := ?vv2) rfl (by kernel_rfl) (by kernel_rfl) (by kernel_rfl) (by kernel_rfl) (fun _ _ _ h => h) (Or.inl ⟨by rfl, ?hy2⟩) (by assumption) ?rest2
            case hy2 =>
              intro wy hSx
              obtain ⟨⟨s0, s1⟩, s2, s3⟩ := hSx
              go_simp
              all_goals with_reducible rfl
            try simp only [Act.put, List.setIfInBounds_toArray, List.set_cons_zero, List.set_cons_succ]
            refine L_take' (i := 3) (v := ?vv3) rfl (by kernel_rfl) (by kernel_rfl) (by kernel_rfl) (by kernel_rfl) (fun _ _ _ h => h) (Or.inl ⟨by rfl, ?hy3⟩) (by assumption) ?rest3
            case hy3 =>
              intro wy hSx
              obtain ⟨⟨s0, s1⟩, s2, s3⟩ := hSx
              go_simp
              all_goals with_reducible rfl
            try simp only [Act.put, List.setIfInBounds_toArray, List.set_cons_zero, List.set_cons_succ]
            refine L_take' (i := 4) (v := ?vv4) rfl (by kernel_rfl) (by kernel_rfl) (by kernel_rfl) (by kernel_rfl) (fun _ _ _ h => h) (Or.inl ⟨by rfl, ?hy4⟩) (by assumption) ?rest4
            case hy4 =>
              intro wy hSx
              obtain ⟨⟨s0, s1⟩, s2, s3⟩ := hSx
              go_simp
              all_goals with_reducible rfl
            try simp only [Act.put, List.setIfInBounds_toArray, List.set_cons_zero, List.set_cons_succ]
            refine L_take' (i := 5) (v := ?vv5) rfl (by kernel_rfl) (by kernel_rfl) (by kernel_rfl) (by kernel_rfl) (fun _ _ _ h => h) (Or.inl ⟨by rfl, ?hy5⟩) (by assumption) ?rest5
            case hy5 =>
              intro wy hSx
              obtain ⟨⟨s0, s1⟩, s2, s3⟩ := hSx
              go_simp
              all_goals with_reducible rfl
            try simp only [Act.put, List.setIfInBounds_toArray, List.set_cons_zero, List.set_cons_succ]
            refine L_take' (i := 6) (v := ?vv6) rfl (by kernel_rfl) (by kernel_rfl) (by kernel_rfl) (by kernel_rfl) (fun _ _ _ h => h) (Or.inl ⟨by rfl, ?hy6⟩) (by assumption) ?rest6
            case hy6 =>
              intro wy hSx
              obtain ⟨⟨s0, s1⟩, s2, s3⟩ := hSx
              go_simp
              all_goals with_reducible rfl
            try simp only [Act.put, List.setIfInBounds_toArray, List.set_cons_zero, List.set_cons_succ]
            refine L_take' (i := 7) (v := ?vv7) rfl (by kernel_rfl) (by kernel_rfl) (by kernel_rfl) (by kernel_rfl) (fun _ _ _ h => h) (Or.inl ⟨by rfl, ?hy7⟩) (by assumption) ?rest7
            case hy7 =>
              intro wy hSx
              obtain ⟨⟨s0, s1⟩, s2, s3⟩ := hSx
              go_simp
              all_goals with_reducible rfl
            try simp only [Act.put, List.setIfInBounds_toArray, List.set_cons_zero, List.set_cons_succ]
            refine L_take' (i := 8) (v := ?vv8) rfl (by kernel_rfl) (by kernel_rfl) (by kernel_rfl) (by kernel_rfl) (fun _ _ _ h => h) (Or.inl ⟨by rfl, ?hy8⟩) (by assumption) ?rest8
            case hy8 =>
              intro wy hSx
              obtain ⟨⟨s0, s1⟩, s2, s3⟩ := hSx
              go_simp
              all_goals with_reducible rfl
            try simp only [Act.put, List.setIfInBounds_toArray, List.set_cons_zero, List.set_cons_succ]
            refine L_take' (i := 9) (v := ?vv9) rfl (by kernel_rfl) (by kernel_rfl) (by kernel_rfl) (by kernel_rfl) (fun _ _ _ h => h) (Or.inl ⟨by rfl, ?hy9⟩) (by assumption) ?rest9
            case hy9 =>
              intro wy hSx
              obtain ⟨⟨s0, s1⟩, s2, s3⟩ := hSx
              go_simp
              all_goals with_reducible rfl
            try simp only [Act.put, List.setIfInBounds_toArray, List.set_cons_zero, List.set_cons_succ]
            refine L_take' (i := 10) (v := ?vv10) rfl (by kernel_rfl) (by kernel_rfl) (by kernel_rfl) (by kernel_rfl) (fun _ _ _ h => h) (Or.inl ⟨by rfl, ?hy10⟩) (by assumption) ?rest10
            case hy10 =>
              intro wy hSx
              obtain ⟨⟨s0, s1⟩, s2, s3⟩ := hSx
              go_simp
              all_goals with_reducible rfl
            try simp only [Act.put, List.setIfInBounds_toArray, List.set_cons_zero, List.set_cons_succ]
            refine L_take' (i := 11) (v := ?vv11) rfl (by kernel_rfl) (by kernel_rfl) (by kernel_rfl) (by kernel_rfl) (fun _ _ _ h => h) (Or.inl ⟨by rfl, ?hy11⟩) (by assumption) ?rest11
            case hy11 =>
              intro wy hSx
              obtain ⟨⟨s0, s1⟩, s2, s3⟩ := hSx
              go_simp
              all_goals with_reducible rfl
            try simp only [Act.put, List.setIfInBounds_toArray, List.set_cons_zero, List.set_cons_succ]
            refine L_take' (i := 12) (v := ?vv12) rfl (by kernel_rfl) (by kernel_rfl) (by kernel_rfl) (by kernel_rfl) (fun _ _ _ h => h) (Or.inl ⟨by rfl, ?hy12⟩) (by assumption) ?rest12
            case hy12 =>
              intro wy hSx
              obtain ⟨⟨s0, s1⟩, s2, s3⟩ := hSx
              go_simp
              all_goals with_reducible rfl
            try simp only [Act.put, List.setIfInBounds_toArray, List.set_cons_zero, List.set_cons_succ]
            refine L_take' (i := 13) (v := ?vv13) rfl (by kernel_rfl) (by kernel_rfl) (by kernel_rfl) (by kernel_rfl) (fun _ _ _ h => h) (Or.inl ⟨by rfl, ?hy13⟩) (by assumption) ?rest13
            case hy13 =>
              intro wy hSx
              obtain ⟨⟨s0, s1⟩, s2, s3⟩ := hSx
              go_simp
              all_goals with_reducible rfl
            try simp only [Act.put, List.setIfInBounds_toArray, List.set_cons_zero, List.set_cons_succ]
            refine L_take' (i := 14) (v := ?vv14) rfl (by kernel_rfl) (by kernel_rfl) (by kernel_rfl) (by kernel_rfl) (fun _ _ _ h => h) (Or.inl ⟨by rfl, ?hy14⟩) (by assumption) ?rest14
            case hy14 =>
              intro wy hSx
              obtain ⟨⟨s0, s1⟩, s2, s3⟩ := hSx
              go_simp
              all_goals with_reducible rfl
            try simp only [Act.put, List.setIfInBounds_toArray, List.set_cons_zero, List.set_cons_succ]
            refine L_take' (i := 15) (v := ?vv15) rfl (by kernel_rfl) (by kernel_rfl) (by kernel_rfl) (by kernel_rfl) (fun _ _ _ h => h) (Or.inl ⟨by rfl, ?hy15⟩) (by assumption) ?rest15
            case hy15 =>
              intro wy hSx
              obtain ⟨⟨s0, s1⟩, s2, s3⟩ := hSx
              go_simp
              all_goals with_reducible rfl
            try simp only [Act.put, List.setIfInBounds_toArray, List.set_cons_zero, List.set_cons_succ]
            refine L_take' (i := 16) (v := ?vv16) rfl (by kernel_rfl) (by kernel_rfl) (by kernel_rfl) (by kernel_rfl) (fun _ _ _ h => h) (Or.inl ⟨by rfl, ?hy16⟩) (by assumption) ?rest16
            case hy16 =>
              intro wy hSx
              obtain ⟨⟨s0, s1⟩, s2, s3⟩ := hSx
              go_simp
              all_goals with_reducible rfl
            try simp only [Act.put, List.setIfInBounds_toArray, List.set_cons_zero, List.set_cons_succ]
            refine L_take' (i := 17) (v := ?vv17) rfl (by kernel_rfl) (by kernel_rfl) (by kernel_rfl) (by kernel_rfl) (fun _ _ _ h => h) (Or.inl ⟨by rfl, ?hy17⟩) (by assumption) ?rest17
            case hy17 =>
              intro wy hSx
              obtain ⟨⟨s0, s1⟩, s2, s3⟩ := hSx
              go_simp
              all_goals with_reducible rfl
            try simp only [Act.put, List.setIfInBounds_toArray, List.set_cons_zero, List.set_cons_succ]
            refine L_take' (i := 18) (v := ?vv18) rfl (by kernel_rfl) (by kernel_rfl) (by kernel_rfl) (by kernel_rfl) (fun _ _ _ h => h) (Or.inl ⟨by rfl, ?hy18⟩) (by assumption) ?rest18
            case hy18 =>
              intro wy hSx
              obtain ⟨⟨s0, s1⟩, s2, s3⟩ := hSx
              go_simp
              all_goals with_reducible rfl
            try simp only [Act.put, List.setIfInBounds_toArray, List.set_cons_zero, List.set_cons_succ]
            refine L_take' (i := 19) (v := ?vv19) rfl (by kernel_rfl) (by kernel_rfl) (by kernel_rfl) (by kernel_rfl) (fun _ _ _ h => h) (Or.inl ⟨by rfl, ?hy19⟩) (by assumption) ?rest19
            case hy19 =>
              intro wy hSx
              obtain ⟨⟨s0, s1⟩, s2, s3⟩ := hSx
              go_simp
              all_goals with_reducible rfl
            try simp only [Act.put, List.setIfInBounds_toArray, List.set_cons_zero, List.set_cons_succ]
            refine L_take' (i := 20) (v := ?vv20) rfl (by kernel_rfl) (by kernel_rfl) (by kernel_rfl) (by kernel_rfl) (fun _ _ _ h => h) (Or.inl ⟨by rfl, ?hy20⟩) (by assumption) ?rest20
            case hy20 =>
              intro wy hSx
              obtain ⟨⟨s0, s1⟩, s2, s3⟩ := hSx
              go_simp
              all_goals with_reducible rfl
            try simp only [Act.put, List.setIfInBounds_toArray, List.set_cons_zero, List.set_cons_succ]
            refine L_take' (i := 21) (v := ?vv21) rfl (by kernel_rfl) (by kernel_rfl) (by kernel_rfl) (by kernel_rfl) (fun _ _ _ h => h) (Or.inl ⟨by rfl, ?hy21⟩) (by assumption) ?rest21
            case hy21 =>
              intro wy hSx
              obtain ⟨⟨s0, s1⟩, s2, s3⟩ := hSx
              go_simp
              all_goals with_reducible rfl
            try simp only [Act.put, List.setIfInBounds_toArray, List.set_cons_zero, List.set_cons_succ]
            refine L_one' (i := 22) rfl (by kernel_rfl) fun K hK => ?_
            go_simp
            with_reducible refine (HD.out _).mono ?_
            rintro e w5 ⟨rfl, rfl⟩
            dsimp only
            refine hK _ _ (fun _ => hSa) ?_
            clear K hK
            try simp only [Act.put, List.setIfInBounds_toArray, List.set_cons_zero, List.set_cons_succ]
            refine L_one' (i := 23) rfl (by kernel_rfl) fun K hK => ?_
            go_simp
            refine hK _ _ (fun _ => hSa) ?_
            clear K hK
            try simp only [Act.put, List.setIfInBounds_toArray, List.set_cons_zero, List.set_cons_succ]
            refine L_one' (i := 24) rfl (by kernel_rfl) fun K hK => ?_
            go_simp
            refine hK _ _ (fun _ => hSb) ?_
            clear K hK
            try simp only [Act.put, List.setIfInBounds_toArray, List.set_cons_zero, List.set_cons_succ]
            refine L_one' (i := 25) rfl (by kernel_rfl) fun K hK => ?_
            refine step_append_run (by rfl) _ _ _ _ (by rfl) _ _ (.slice (some ⟨g, 0, none⟩) (k + 1) cap) w8 (by rfl) (by rfl) hr ?_
            refine hK _ _ (fun _ => hSc) ?_
            clear K hK
            try simp only [Act.put, List.setIfInBounds_toArray, List.set_cons_zero, List.set_cons_succ]
            refine L_one' (i := 26) rfl (by kernel_rfl) fun K hK => ?_
            go_simp
            refine hK _ _ (fun h => absurd rfl h) ?_
            clear K hK
            try simp only [Act.put, List.setIfInBounds_toArray, List.set_cons_zero, List.set_cons_succ]
            refine L_done (by kernel_rfl) ?_ _
            go_wp2_with fail
            go_roundw
            case rel => exact ⟨k + 1, HLT.out, by first | rfl | go_num, HB.out, HO.out⟩
            case measure => have := HLT.out; simp only [intOf]; omega
          · obtain rfl : k = n := by omega
            have hQQ : Q1.take k = Q1 := by rw [← HQL.out, List.take_length]
            rw [hQQ] at how
            have HF := Lib.hid (HB0.out.trans (hbw.mono HS0.out))
            have HO := Lib.hid (own_le how HS0.out)
            clear how hbw z0 z1
            go_wp2_with fail
            go_ret2
            exact ⟨_, rfl, HO.out, HF.out⟩
    · have he : ((Q1, Q2) : List Int × Int) = ([], 60) := by rw [hQ]; unfold decQ; rw [hm, if_pos rfl, if_neg hln]
      injection he with he1 he2
      subst he1; subst he2
      have hli : ¬ (s.size : Int) = (lo.length : Int) := by have := HSZ.out; omega
      have hlb : ((s.size : Int) == (lo.length : Int)) = false := beq_eq_false_iff_ne.2 hli
      clear hmay hQ hm hlen
      go_enter Try.func14, Try.ntmps14
      go_upto_region 1 with fail
      rw [← hW0]
      clear hW0
      go_wp2_with fail
      refine C1.out.mono ?_
      rintro e w1 ⟨rfl, hb1⟩
      obtain ⟨z0, z1⟩ := HZ.out w1 hb1
      have HF := Lib.hid (HB0.out.trans (hb1.mono HS0.out))
      clear hb1
      go_wp2_with fail
      go_ret2
      exact ⟨_, rfl, own_none _ _, HF.out⟩
set_option maxHeartbeats 8000000 in
set_option maxRecDepth 100000 in
theorem errR_any (lo hi : List Int) (u v : Value) (w : World) (hu : IntsAt w u lo) (hv : IntsAt w v hi) (hl : lo.length ≤ maxLen) (hh : hi.length ≤ maxLen) :
    Calls Try.prog 17 #[.agg #[u, v]] w fun e w' => ∃ r, e = .returned r ∧ OwnN w' w.heap.size r (if mayB lo hi = true then errL (spansL lo hi) else []) ∧ Below w.heap.size w w' := by
  obtain ⟨W0, hW0⟩ : ∃ W0, W0 = w.alloc (.cells #[u, v] 25) := ⟨_, rfl⟩
  have hb0 : Below w.heap.size w W0 := by rw [hW0]; exact fresh_alloc _ _
  have hz : W0.heap[w.heap.size]? = some (.cells #[u, v] 25) := by rw [hW0]; exact heap_last _ _
  have d0 : W0.cell? ⟨w.heap.size, 0, none⟩ = some u := by rw [Lib.cell_of_heap hz]; rfl
  have d1 : W0.cell? ⟨w.heap.size, 1, none⟩ = some v := by rw [Lib.cell_of_heap hz]; rfl
  have hs0 : w.heap.size < W0.heap.size := by rw [hW0]; simp
  have C1 := Lib.hid (fun W (hW : Below W0.heap.size W0 W) => may_any lo hi u v W ((hu.below hb0).below hW) ((hv.below hb0).below hW) hl hh)
  have HB0 := Lib.hid hb0
  have HU0 := Lib.hid (hu.below hb0)
  have HV0 := Lib.hid (hv.below hb0)
  obtain ⟨p1, c1, e1⟩ := hu.form
  obtain ⟨p2, c2, e2⟩ := hv.form
  subst e1; subst e2
  have hmay : ∀ h : mayB lo hi = true, lo.length = hi.length ∧ vecB lo = true := fun h => ⟨(may_of h).2.2.1, (may_of h).1⟩
  have HZ : Hid (∀ wr, Below W0.heap.size W0 wr → wr.cell? ⟨w.heap.size, 0, none⟩ = some (.slice p1 lo.length c1) ∧ wr.cell? ⟨w.heap.size, 1, none⟩ = some (.slice p2 hi.length c2)) := Lib.hid (fun wr hw => by
    have h := (hw.block _ hs0).trans hz
    exact ⟨by rw [Lib.cell_of_heap h]; rfl, by rw [Lib.cell_of_heap h]; rfl⟩)
  have HS0 : Hid (w.heap.size ≤ W0.heap.size) := Lib.hid (Nat.le_of_lt hs0)
  obtain ⟨Q1, hQ⟩ : ∃ Q, Q = (if mayB lo hi = true then errL (spansL lo hi) else []) := ⟨_, rfl⟩
  rw [← hQ]
  have HLM := Lib.hid hl
  clear hz hu hv hl hh hb0 hs0
  cases hm : mayB lo hi with
  | false =>
    rw [hm] at C1
    have he : Q1 = [] := by rw [hQ, hm]; rfl
    subst he
    clear hmay hQ
    obtain ⟨n, hn⟩ : ∃ n, n = lo.length := ⟨_, rfl⟩
    rw [← hn] at HZ d0 hW0 C1 HLM ⊢
    clear hn HU0 HV0
    go_enter Try.func17, Try.ntmps17
    go_upto_region 1 with fail
    rw [← hW0]
    clear hW0
    rcases Nat.eq_zero_or_pos n with rfl | h0
    · go_wp2_with fail
      go_loop [3, 4] (fun bv i => bv = .slice none 0 0 ∧ i = .int .i64 0) (fun _ _ => 0)
      case atStart => exact ⟨rfl, rfl⟩
      case round =>
        obtain ⟨rfl, rfl⟩ := hrel
        go_wp2_with fail
        go_ret
        exact ⟨_, rfl, own_none _ _, HB0.out⟩
    · have hi0 : (0 : Int) < (n : Int) := by omega
      go_wp2_with fail
      go_loopw [3, 4] (fun bv i wr => bv = .slice none 0 0 ∧ i = .int .i64 0 ∧ wr = W0) (fun _ _ _ => 0)
      case atStart => exact ⟨rfl, rfl, rfl⟩
      case round =>
        obtain ⟨rfl, rfl, rfl⟩ := hrel
        have C2 := C1.out _ (Below.refl _ _)
        go_wp2_with fail
        refine C2.mono ?_
        rintro e w1 ⟨rfl, hb1⟩
        have HF := Lib.hid (HB0.out.trans (hb1.mono HS0.out))
        clear hb1
        go_wp2_with fail
        go_ret
        exact ⟨_, rfl, own_none _ _, HF.out⟩
  | true =>
    obtain ⟨hlen, hvl⟩ := hmay hm
    rw [hm] at C1
    obtain ⟨n1, n64, n3⟩ := parts_of hvl
    clear n3 hvl
    have HSL := Lib.hid (spans_len hlen)
    have he1 : Q1 = errL (spansL lo hi) := by rw [hQ, hm]; rfl
    have HQL : Hid (Q1.length = lo.length) := Lib.hid (by rw [he1, ← HSL.out]; simp [errL])
    obtain ⟨q1, d1', e1, hc1⟩ := ints_row HU0.out
    injection e1 with e11 _ e13
    subst e11; subst e13
    obtain ⟨q2, d2', e2, hc2⟩ := ints_row HV0.out
    injection e2 with e11 _ e13
    subst e11; subst e13
    have hat : ∀ k, k < lo.length → ∃ (a b : Int) (g1 o1 g2 o2 : Nat), OkS (a, b) ∧ Q1[k]? = some (stepI (a, b)) ∧ p1 = some ⟨g1, o1, none⟩ ∧ p2 = some ⟨g2, o2, none⟩ ∧
          ∀ wr, Below W0.heap.size W0 wr → wr.cell? ⟨g1, o1 + k, none⟩ = some (.int .i64 a) ∧ wr.cell? ⟨g2, o2 + k, none⟩ = some (.int .i64 b) := fun k hk => by
        obtain ⟨a, ha⟩ : ∃ a, lo[k]? = some a := ⟨_, List.getElem?_eq_getElem hk⟩
        obtain ⟨b, hb⟩ : ∃ b, hi[k]? = some b := ⟨_, List.getElem?_eq_getElem (by omega)⟩
        obtain ⟨g1, o1, f1, _, y1⟩ := hc1 k a ha
        obtain ⟨g2, o2, f2, _, y2⟩ := hc2 k b hb
        have hs : (spansL lo hi)[k]? = some (a, b) := by unfold spansL; rw [List.getElem?_zip_eq_some]; exact ⟨ha, hb⟩
        exact ⟨a, b, g1, o1, g2, o2, ok_of hm _ (List.mem_of_getElem? hs), by rw [he1]; simp [errL, hs], f1, f2, fun wr hw => ⟨y1 wr hw, y2 wr hw⟩⟩
    have HAT := Lib.hid hat
    have HN64 := Lib.hid n64
    clear hmay hQ hm hat hc1 hc2 he1 n1 HU0 HV0 HSL
    rw [← hlen] at HZ d1 hW0 C1 ⊢
    clear hlen
    generalize lo.length = n at *
    go_enter Try.func17, Try.ntmps17
    go_upto_region 1 with fail
    rw [← hW0]
    clear hW0
    go_wp2_with fail
    go_loopw [3, 4] (fun bv i wr => ∃ k : Nat, k ≤ n ∧ i = .int .i64 k ∧ Below W0.heap.size W0 wr ∧ OwnN wr W0.heap.size bv (Q1.take k)) (fun _ i _ => n - (intOf i).toNat)
    case atStart => exact ⟨0, Nat.zero_le _, rfl, Below.refl _ _, by simpa using own_none _ _⟩
    case round =>
          obtain ⟨k, hk, rfl, hbw, how⟩ := hrel
          obtain ⟨wq, rfl⟩ : ∃ wq : World, wq = wr := ⟨_, rfl⟩
          obtain ⟨z0, z1⟩ := HZ.out wq hbw
          by_cases hlt : k < n
          · have hki : (k : Int) < (n : Int) := by omega
            have C2 := Lib.hid (C1.out wq hbw)
            have HBQ := Lib.hid hbw
            have HOQ := Lib.hid how
            clear hbw how
            go_wp2_with fail
            refine C2.out.mono ?_
            rintro e wo ⟨rfl, hbo⟩
            have hbw := HBQ.out.trans (hbo.mono HBQ.out.size)
            obtain ⟨z0, z1⟩ := HZ.out wo hbw
            have HBW := Lib.hid hbw
            have HOW := Lib.hid (own_below HOQ.out hbo)
            obtain ⟨a, b, g1, o1, g2, o2, hok, hQk, rfl, rfl, hcells⟩ := HAT.out k hlt
            obtain ⟨y1, y2⟩ := hcells wo hbw
            have HCE := Lib.hid hcells
            have HLT := Lib.hid hlt
            have HTL : Hid ((Q1.take k).length = k) := Lib.hid (by rw [List.length_take, HQL.out]; omega)
            have HNX : Hid (∀ c, c = stepI (a, b) → Q1.take k ++ [c] = Q1.take (k + 1)) := Lib.hid (fun c hc => by rw [List.take_add_one, hQk, hc]; rfl)
            have HK64 : Hid (k ≤ 64) := Lib.hid (by have := HN64.out; omega)
            have mixed : Try.prog.follows .mixedOrders = true := by kernel_rfl
            have hok1 : -32768 ≤ a ∧ a ≤ b ∧ b ≤ 32767 := hok
            have GROW : Hid (∀ (yy : Int) W, Below wo.heap.size wo W → yy = stepI (a, b) → ∃ g cap w', (∀ ty, (Builtin.append_ #[23, 23] ty #[u3, .slice (some ⟨W.heap.size, 0, none⟩) 1 1]).run Try.prog (W.alloc (.cells #[.int .i64 yy] 3)) = .ok (.slice (some ⟨g, 0, none⟩) (k + 1) cap) w') ∧
                OwnN w' W0.heap.size (.slice (some ⟨g, 0, none⟩) (k + 1) cap) (Q1.take (k + 1)) ∧ Below W0.heap.size W0 w') := Lib.hid (fun yy W hW hy => by
              have hbW := HBW.out.trans (hW.mono HBW.out.size)
              obtain ⟨g, cap, w', h1, h2, _, h3, _⟩ := grow_row yy (own_below HOW.out hW) (by rw [HTL.out]; have := HK64.out; omega) hbW.size
              rw [HTL.out] at h1 h2
              rw [HNX.out _ hy] at h2
              exact ⟨g, cap, w', h1, h2, hbW.trans h3⟩)
            have HVE : Hid ((b - a) / 255 + 1 = stepI (a, b)) := Lib.hid rfl
            have w1' : wrap64 (b - a) = b - a := wrap_in _ (by omega)
            have w2' : IntKind.i64.wrap (b - a) = b - a := kw_in _ (by omega)
            have w8' : wrap64 ((b - a) / 255 + 1) = (b - a) / 255 + 1 := wrap_in _ (by omega)
            have w9' : IntKind.i64.wrap ((b - a) / 255 + 1) = (b - a) / 255 + 1 := kw_in _ (by omega)
            have HD := Lib.hid (fun W => down_any (b - a) 255 W (by omega) (by omega) (by omega))
            clear hcells hQk hbw hok hbo
            generalize stepI (a, b) = vy at *
            go_wp2_with fail
            have HSB : Hid (∀ X, Below W0.heap.size W0 X → (X.cell? ⟨w.heap.size, 0, none⟩ = some (.slice (some ⟨g1, o1, none⟩) n c1) ∧ X.cell? ⟨w.heap.size, 1, none⟩ = some (.slice (some ⟨g2, o2, none⟩) n c2)) ∧ X.cell? ⟨g1, o1 + k, none⟩ = some (.int .i64 a) ∧ X.cell? ⟨g2, o2 + k, none⟩ = some (.int .i64 b)) := Lib.hid (fun X hX => ⟨HZ.out X hX, HCE.out X hX⟩)
            have hbf : Below W0.heap.size W0 wo.drew := HBW.out.drew
            obtain ⟨g, cap, w8, hr, ho, hb⟩ := GROW.out ((b - a) / 255 + 1) wo.drew ((Below.refl _ wo).drew) HVE.out
            have HO := Lib.hid ho
            have HB := Lib.hid hb
            have hSa := HSB.out _ hbf
            have hSb := HSB.out _ (hbf.alloc hbf.size (.cells #[.int .i64 ((b - a) / 255 + 1)] 3))
            have hSc := HSB.out _ HB.out
            clear ho hb hbf HVE HSB GROW HAT HNX HTL HOW z0 z1 y1 y2
            refine wp_region_L 16 (fun X => (X.cell? ⟨w.heap.size, 0, none⟩ = some (.slice (some ⟨g1, o1, none⟩) n c1) ∧ X.cell? ⟨w.heap.size, 1, none⟩ = some (.slice (some ⟨g2, o2, none⟩) n c2)) ∧ X.cell? ⟨g1, o1 + k, none⟩ = some (.int .i64 a) ∧ X.cell? ⟨g2, o2 + k, none⟩ = some (.int .i64 b)) (by kernel_rfl) hSa fun hSS => ?_
            refine L_take' (i := 0) (v := ?vv0) rfl (by kernel_rfl) (by kernel_rfl) (by kernel_rfl) (by kernel_rfl) (fun _ _ _ h => h) (Or.inl ⟨by rfl, ?hy0⟩) (by assumption) ?rest0
            case hy0 =>
              intro wy hSx
              obtain ⟨⟨s0, s1⟩, s2, s3⟩ := hSx
              go_simp
              all_goals with_reducible rfl
            try simp only [Act.put, List.setIfInBounds_toArray, List.set_cons_zero, List.set_cons_succ]
            refine L_take' (i := 1) (v := ?vv1) rfl (by kernel_rfl) (by kernel_rfl) (by kernel_rfl) (by kernel_rfl) (fun _ _ _ h => h) (Or.inl ⟨by rfl, ?hy1⟩) (by assumption) ?rest1
            case hy1 =>
              intro wy hSx
              obtain ⟨⟨s0, s1⟩, s2, s3⟩ := hSx
              go_simp
              all_goals with_reducible rfl
            try simp only [Act.put, List.setIfInBounds_toArray, List.set_cons_zero, List.set_cons_succ]
            refine L_take' (i := 2) (v := ?vv2) rfl (by kernel_rfl) (by kernel_rfl) (by kernel_rfl) (by kernel_rfl) (fun _ _ _ h => h) (Or.inl ⟨by rfl, ?hy2⟩) (by assumption) ?rest2
            case hy2 =>
              intro wy hSx
              obtain ⟨⟨s0, s1⟩, s2, s3⟩ := hSx
              go_simp
              all_goals with_reducible rfl
            try simp only [Act.put, List.setIfInBounds_toArray, List.set_cons_zero, List.set_cons_succ]
            refine L_take' (i := 3) (v := ?vv3) rfl (by kernel_rfl) (by kernel_rfl) (by kernel_rfl) (by kernel_rfl) (fun _ _ _ h => h) (Or.inl ⟨by rfl, ?hy3⟩) (by assumption) ?rest3
            case hy3 =>
              intro wy hSx
              obtain ⟨⟨s0, s1⟩, s2, s3⟩ := hSx
              go_simp
              all_goals with_reducible rfl
            try simp only [Act.put, List.setIfInBounds_toArray, List.set_cons_zero, List.set_cons_succ]
            refine L_take' (i := 4) (v := ?vv4) rfl (by kernel_rfl) (by kernel_rfl) (by kernel_rfl) (by kernel_rfl) (fun _ _ _ h => h) (Or.inl ⟨by rfl, ?hy4⟩) (by assumption) ?rest4
            case hy4 =>
              intro wy hSx
              obtain ⟨⟨s0, s1⟩, s2, s3⟩ := hSx
              go_simp
              all_goals with_reducible rfl
            try simp only [Act.put, List.setIfInBounds_toArray, List.set_cons_zero, List.set_cons_succ]
            refine L_take' (i := 5) (v := ?vv5) rfl (by kernel_rfl) (by kernel_rfl) (by kernel_rfl) (by kernel_rfl) (fun _ _ _ h => h) (Or.inl ⟨by rfl, ?hy5⟩) (by assumption) ?rest5
            case hy5 =>
              intro wy hSx
              obtain ⟨⟨s0, s1⟩, s2, s3⟩ := hSx
              go_simp
              all_goals with_reducible rfl
            try simp only [Act.put, List.setIfInBounds_toArray, List.set_cons_zero, List.set_cons_succ]
            refine L_take' (i := 6) (v := ?vv6) rfl (by kernel_rfl) (by kernel_rfl) (by kernel_rfl) (by kernel_rfl) (fun _ _ _ h => h) (Or.inl ⟨by rfl, ?hy6⟩) (by assumption) ?rest6
            case hy6 =>
              intro wy hSx
              obtain ⟨⟨s0, s1⟩, s2, s3⟩ := hSx
              go_simp
              all_goals with_reducible rfl
            try simp only [Act.put, List.setIfInBounds_toArray, List.set_cons_zero, List.set_cons_succ]
            refine L_take' (i := 7) (v := ?vv7) rfl (by kernel_rfl) (by kernel_rfl) (by kernel_rfl) (by kernel_rfl) (fun _ _ _ h => h) (Or.inl ⟨by rfl, ?hy7⟩) (by assumption) ?rest7
            case hy7 =>
              intro wy hSx
              obtain ⟨⟨s0, s1⟩, s2, s3⟩ := hSx
              go_simp
              all_goals with_reducible rfl
            try simp only [Act.put, List.setIfInBounds_toArray, List.set_cons_zero, List.set_cons_succ]
            refine L_take' (i := 8) (v := ?vv8) rfl (by kernel_rfl) (by kernel_rfl) (by kernel_rfl) (by kernel_rfl) (fun _ _ _ h => h) (Or.inl ⟨by rfl, ?hy8⟩) (by assumption) ?rest8
            case hy8 =>
              intro wy hSx
              obtain ⟨⟨s0, s1⟩, s2, s3⟩ := hSx
              go_simp
              all_goals with_reducible rfl
            try simp only [Act.put, List.setIfInBounds_toArray, List.set_cons_zero, List.set_cons_succ]
            refine L_take' (i := 9) (v := ?vv9) rfl (by kernel_rfl) (by kernel_rfl) (by kernel_rfl) (by kernel_rfl) (fun _ _ _ h => h) (Or.inl ⟨by rfl, ?hy9⟩) (by assumption) ?rest9
            case hy9 =>
              intro wy hSx
              obtain ⟨⟨s0, s1⟩, s2, s3⟩ := hSx
              go_simp
              all_goals with_reducible rfl
            try simp only [Act.put, List.setIfInBounds_toArray, List.set_cons_zero, List.set_cons_succ]
            refine L_take' (i := 10) (v := ?vv10) rfl (by kernel_rfl) (by kernel_rfl) (by kernel_rfl) (by kernel_rfl) (fun _ _ _ h => h) (Or.inl ⟨by rfl, ?hy10⟩) (by assumption) ?rest10
            case hy10 =>
              intro wy hSx
              obtain ⟨⟨s0, s1⟩, s2, s3⟩ := hSx
              go_simp
              all_goals with_reducible rfl
            try simp only [Act.put, List.setIfInBounds_toArray, List.set_cons_zero, List.set_cons_succ]
            refine L_take' (i := 11) (v := ?vv11) rfl (by kernel_rfl) (by kernel_rfl) (by kernel_rfl) (by kernel_rfl) (fun _ _ _ h => h) (Or.inl ⟨by rfl, ?hy11⟩) (by assumption) ?rest11
            case hy11 =>
              intro wy hSx
              obtain ⟨⟨s0, s1⟩, s2, s3⟩ := hSx
              go_simp
              all_goals with_reducible rfl
            try simp only [Act.put, List.setIfInBounds_toArray, List.set_cons_zero, List.set_cons_succ]
            refine L_one' (i := 12) rfl (by kernel_rfl) fun K hK => ?_
            go_simp
            with_reducible refine (HD.out _).mono ?_
            rintro e w5 ⟨rfl, rfl⟩
            dsimp only
            refine hK _ _ (fun _ => hSa) ?_
            clear K hK
            try simp only [Act.put, List.setIfInBounds_toArray, List.set_cons_zero, List.set_cons_succ]
            refine L_one' (i := 13) rfl (by kernel_rfl) fun K hK => ?_
            go_simp
            refine hK _ _ (fun _ => hSa) ?_
            clear K hK
            try simp only [Act.put, List.setIfInBounds_toArray, List.set_cons_zero, List.set_cons_succ]
            refine L_one' (i := 14) rfl (by kernel_rfl) fun K hK => ?_
            go_simp
            refine hK _ _ (fun _ => hSb) ?_
            clear K hK
            try simp only [Act.put, List.setIfInBounds_toArray, List.set_cons_zero, List.set_cons_succ]
            refine L_one' (i := 15) rfl (by kernel_rfl) fun K hK => ?_
            refine step_append_run (by rfl) _ _ _ _ (by rfl) _ _ (.slice (some ⟨g, 0, none⟩) (k + 1) cap) w8 (by rfl) (by rfl) hr ?_
            refine hK _ _ (fun _ => hSc) ?_
            clear K hK
            try simp only [Act.put, List.setIfInBounds_toArray, List.set_cons_zero, List.set_cons_succ]
            refine L_one' (i := 16) rfl (by kernel_rfl) fun K hK => ?_
            go_simp
            refine hK _ _ (fun h => absurd rfl h) ?_
            clear K hK
            try simp only [Act.put, List.setIfInBounds_toArray, List.set_cons_zero, List.set_cons_succ]
            refine L_done (by kernel_rfl) ?_ _
            go_wp2_with fail
            go_roundw
            case rel => exact ⟨k + 1, HLT.out, by first | rfl | go_num, HB.out, HO.out⟩
            case measure => have := HLT.out; simp only [intOf]; omega
          · obtain rfl : k = n := by omega
            have hQQ : Q1.take k = Q1 := by rw [← HQL.out, List.take_length]
            rw [hQQ] at how
            have HF := Lib.hid (HB0.out.trans (hbw.mono HS0.out))
            have HO := Lib.hid (own_le how HS0.out)
            clear how hbw
            go_wp2_with fail
            go_ret
            exact ⟨_, rfl, HO.out, HF.out⟩
end Sc
end Go.Proofs.Ytfgmkdghpdpdkaa
