/- The document's Encode. Conditions: those that each theorem names. -/
import Derived.Test.YtfgmkdghpdpdkaaScI
namespace Go.Proofs.Ytfgmkdghpdpdkaa
set_option linter.unusedVariables false
open Go Go.RowKit Vc Rk
namespace Sc
theorem code_low {s : Sp} (h : OkS s) {x : Int} (hx : x ≤ s.1) : codeI s x = 0 := by
  obtain ⟨h1, h2, h3⟩ := h
  unfold codeI
  by_cases c1 : x < s.1
  · rw [if_pos c1]
  · have e : x = s.1 := by omega
    rw [if_neg c1, if_neg (by omega)]
    by_cases c2 : s.1 = s.2
    · rw [if_pos c2]
    · rw [if_neg c2, e, Int.sub_self, Int.zero_mul, Int.zero_ediv]
theorem code_high {s : Sp} (h : OkS s) {x : Int} (h0 : ¬ x ≤ s.1) (hx : s.2 < x) : codeI s x = 255 := by
  unfold codeI
  rw [if_neg (by omega), if_pos hx]
theorem code_mid {s : Sp} (h : OkS s) {x : Int} (h0 : ¬ x ≤ s.1) (hx : ¬ s.2 < x) : codeI s x = (x - s.1) * 255 / (s.2 - s.1) := by
  unfold codeI
  rw [if_neg (by omega), if_neg hx, if_neg (by omega)]
/-- One element behind a row of one's own. -/
theorem grow_el {α : Type} {enc : α → List Value} {k T ST b : Nat} (F : Flat Try.prog enc k T ST b) {w : World} {base : Nat} {v : Value} {A : List α} (x : α) (h : Rk.Own enc k T w base v A) (hA : (A.length + 1) * b ≤ 140737488355328) (hm : A.length + 1 ≤ maxLen) (hbase : base ≤ w.heap.size) :
    ∃ g cap w', (∀ ty, (Builtin.append_ #[ST, ST] ty #[v, .slice (some ⟨w.heap.size, 0, none⟩) 1 1]).run Try.prog (w.alloc (.cells (enc x).toArray T)) = .ok (.slice (some ⟨g, 0, none⟩) (A.length + 1) cap) w') ∧
      Rk.Own enc k T w' base (.slice (some ⟨g, 0, none⟩) (A.length + 1) cap) (A ++ [x]) ∧ (v.ownBlock = some g ∨ g = w.heap.size + 1) ∧ Below base w w' ∧ (∀ j, j < w.heap.size → v.ownBlock ≠ some j → w'.heap[j]? = w.heap[j]?) ∧ w.heap.size ≤ w'.heap.size := by
  have hb1 := fresh_alloc w (.cells (enc x).toArray T)
  obtain ⟨v', w', hr, ho, hg, hv, g, cap, e, h1, h2⟩ := append_el F (own_below h hb1) (heap_last w (.cells (enc x).toArray T)) (x := x) hA hm (by simp; omega)
  subst e
  refine ⟨g, cap, w', hr, ho, ?_, ((Below.refl base w).alloc hbase _).grown hg (by simp; omega) (fun j hj => (own_block h j hj).1), fun j hj hne => (hg.block j (by simp; omega) (fun e => hne (by rw [e]))).trans (heap_old _ _ hj), Nat.le_trans (by simp) hg.size⟩
  rcases hv with hv | hv
  · left; rw [← hv]; rfl
  · right
    simp [Value.ownBlock] at hv
    exact hv
/-- One byte behind a row of bytes of one's own. -/
theorem grow_byte {w : World} {base : Nat} {v : Value} {A : List UInt8} (x : UInt8) (c : Int) (hc : (x.toNat : Int) = c) (h : OwnU w base v A) (hA : A.length ≤ 1099511627775) (hbase : base ≤ w.heap.size) :
    ∃ g cap w', (∀ ty, (Builtin.append_ #[68, 68] ty #[v, .slice (some ⟨w.heap.size, 0, none⟩) 1 1]).run Try.prog (w.alloc (.cells #[.int .u8 c] 5)) = .ok (.slice (some ⟨g, 0, none⟩) (A.length + 1) cap) w') ∧
      OwnU w' base (.slice (some ⟨g, 0, none⟩) (A.length + 1) cap) (A ++ [x]) ∧ Below base w w' := by
  subst hc
  obtain ⟨g, cap, w', h1, h2, _, h3, _⟩ := grow_el flatU x h (by omega) (by unfold maxLen; omega) hbase
  exact ⟨g, cap, w', h1, h2, h3⟩
set_option maxHeartbeats 4000000 in
set_option maxRecDepth 100000 in
theorem encR_any (lo hi L : List Int) (u v x : Value) (w : World) (hu : IntsAt w u lo) (hv : IntsAt w v hi) (hx : IntsAt w x L) (hl : lo.length ≤ maxLen) (hh : hi.length ≤ maxLen) (hL : L.length ≤ maxLen) :
    Calls Try.prog 12 #[.agg #[u, v], x] w fun e w' => e = .returned (.tuple #[.string (tx (encQ lo hi L).1), .int .i64 (encQ lo hi L).2]) ∧ Below w.heap.size w w' := by
  obtain ⟨W0, hW0⟩ : ∃ W0, W0 = w.alloc (.cells #[u, v] 25) := ⟨_, rfl⟩
  have hb0 : Below w.heap.size w W0 := by rw [hW0]; exact fresh_alloc _ _
  have hz : W0.heap[w.heap.size]? = some (.cells #[u, v] 25) := by rw [hW0]; exact heap_last _ _
  have d0 : W0.cell? ⟨w.heap.size, 0, none⟩ = some u := by rw [Lib.cell_of_heap hz]; rfl
  have d1 : W0.cell? ⟨w.heap.size, 1, none⟩ = some v := by rw [Lib.cell_of_heap hz]; rfl
  have hs0 : w.heap.size < W0.heap.size := by rw [hW0]; simp
  have C1 := Lib.hid (may_any lo hi u v W0 (hu.below hb0) (hv.below hb0) hl hh)
  have HB0 := Lib.hid hb0
  have HX0 := Lib.hid (hx.below hb0)
  have HLL := Lib.hid hL
  have HU0 := Lib.hid (hu.below hb0)
  have HV0 := Lib.hid (hv.below hb0)
  obtain ⟨p1, c1, e1⟩ := hu.form
  obtain ⟨p2, c2, e2⟩ := hv.form
  obtain ⟨p3, c3, e3⟩ := hx.form
  subst e1; subst e2; subst e3
  have hmay : ∀ h : mayB lo hi = true, lo.length = hi.length ∧ vecB lo = true := fun h => ⟨(may_of h).2.2.1, (may_of h).1⟩
  have HZ : Hid (∀ wr, Below W0.heap.size W0 wr → wr.cell? ⟨w.heap.size, 0, none⟩ = some (.slice p1 lo.length c1) ∧ wr.cell? ⟨w.heap.size, 1, none⟩ = some (.slice p2 hi.length c2)) := Lib.hid (fun wr hw => by
    have h := (hw.block _ hs0).trans hz
    exact ⟨by rw [Lib.cell_of_heap h]; rfl, by rw [Lib.cell_of_heap h]; rfl⟩)
  have HS0 : Hid (w.heap.size ≤ W0.heap.size) := Lib.hid (Nat.le_of_lt hs0)
  obtain ⟨Q, hQ⟩ : ∃ Q, Q = encQ lo hi L := ⟨_, rfl⟩
  obtain ⟨Q1, Q2⟩ := Q
  rw [← hQ]
  clear hz hu hv hx hl hh hb0 hL hs0
  cases hm : mayB lo hi with
  | false =>
    have he : ((Q1, Q2) : List UInt8 × Int) = ([], 170) := by rw [hQ]; unfold encQ; rw [hm]; rfl
    injection he with he1 he2
    subst he1; subst he2
    rw [hm] at C1
    clear hmay hQ
    go_enter Try.func12, Try.ntmps12
    go_upto_region 1 with fail
    rw [← hW0]
    clear hW0
    go_wp2_with fail
    refine C1.out.mono ?_
    rintro e w1 ⟨rfl, hb1⟩
    have HF := Lib.hid (HB0.out.trans (hb1.mono HS0.out))
    clear hb1
    go_wp2_with fail
    go_ret2
    exact ⟨rfl, HF.out⟩
  | true =>
    obtain ⟨hlen, hvl⟩ := hmay hm
    rw [hm] at C1
    obtain ⟨n1, n64, n3⟩ := parts_of hvl
    clear n3
    have HOK := Lib.hid (ok_of hm)
    have HSL := Lib.hid (spans_len hlen)
    by_cases hln : L.length = lo.length
    · cases hp : L.all partB with
      | false =>
        have he : ((Q1, Q2) : List UInt8 × Int) = ([], 60) := by
          rw [hQ]; unfold encQ okR; rw [hm, if_pos rfl, vecB_is, hp]; simp
        injection he with he1 he2
        subst he1; subst he2
        have HP := Lib.hid hp
        have hli : (L.length : Int) = (lo.length : Int) := by omega
        have hlb : ((L.length : Int) == (lo.length : Int)) = true := beq_iff_eq.2 hli
        clear hmay hQ hm hlen hln hvl
        go_enter Try.func12, Try.ntmps12
        go_upto_region 1 with fail
        rw [← hW0]
        clear hW0
        go_wp2_with fail
        refine C1.out.mono ?_
        rintro e w1 ⟨rfl, hb1⟩
        obtain ⟨z0, z1⟩ := HZ.out w1 hb1
        have C2 := range_any L _ w1 (HX0.out.below hb1) HLL.out
        rw [HP.out] at C2
        have C2 := Lib.hid C2
        have HF := Lib.hid (HB0.out.trans (hb1.mono HS0.out))
        clear hb1
        go_wp2_with fail
        refine C2.out.mono ?_
        rintro _ _ ⟨rfl, rfl⟩
        go_wp2_with fail
        go_ret2
        exact ⟨rfl, HF.out⟩
      | true =>
        have hvL : vecB L = true := by rw [vecB_is, hp]; simp; omega
        have he : ((Q1, Q2) : List UInt8 × Int) = (encL (spansL lo hi) L, 0) := by
          rw [hQ]; unfold encQ okR; rw [hm, if_pos rfl, hvL]; simp [hln]
        injection he with he1 he2
        subst he2
        have HP := Lib.hid hp
        have hli : (L.length : Int) = (lo.length : Int) := by omega
        have hlb : ((L.length : Int) == (lo.length : Int)) = true := beq_iff_eq.2 hli
        have HQ1 := Lib.hid he1
        have HQL : Hid (Q1.length = lo.length) := Lib.hid (by rw [he1, enc_len (by rw [HSL.out]; omega)]; exact HSL.out)
        obtain ⟨q1, d1', e1, hc1⟩ := ints_row HU0.out
        injection e1 with e11 _ e13
        subst e11; subst e13
        obtain ⟨q2, d2', e2, hc2⟩ := ints_row HV0.out
        injection e2 with e11 _ e13
        subst e11; subst e13
        obtain ⟨q3, d3', e3, hc3⟩ := ints_row HX0.out
        injection e3 with e11 _ e13
        subst e11; subst e13
        have hat : ∀ k, k < lo.length → ∃ (a b x : Int) (g1 o1 g2 o2 g3 o3 : Nat), OkS (a, b) ∧ (-32768 ≤ x ∧ x ≤ 32767) ∧ Q1[k]? = some (codeU (a, b) x) ∧ p1 = some ⟨g1, o1, none⟩ ∧ p2 = some ⟨g2, o2, none⟩ ∧ p3 = some ⟨g3, o3, none⟩ ∧
            ∀ wr, Below W0.heap.size W0 wr → wr.cell? ⟨g1, o1 + k, none⟩ = some (.int .i64 a) ∧ wr.cell? ⟨g2, o2 + k, none⟩ = some (.int .i64 b) ∧ wr.cell? ⟨g3, o3 + k, none⟩ = some (.int .i64 x) := fun k hk => by
          obtain ⟨a, ha⟩ : ∃ a, lo[k]? = some a := ⟨_, List.getElem?_eq_getElem hk⟩
          obtain ⟨b, hb⟩ : ∃ b, hi[k]? = some b := ⟨_, List.getElem?_eq_getElem (by omega)⟩
          obtain ⟨x, hx⟩ : ∃ x, L[k]? = some x := ⟨_, List.getElem?_eq_getElem (by omega)⟩
          obtain ⟨g1, o1, f1, _, y1⟩ := hc1 k a ha
          obtain ⟨g2, o2, f2, _, y2⟩ := hc2 k b hb
          obtain ⟨g3, o3, f3, _, y3⟩ := hc3 k x hx
          have hs : (spansL lo hi)[k]? = some (a, b) := by unfold spansL; rw [List.getElem?_zip_eq_some]; exact ⟨ha, hb⟩
          exact ⟨a, b, x, g1, o1, g2, o2, g3, o3, ok_of hm _ (List.mem_of_getElem? hs), vec_in hvL x (List.mem_of_getElem? hx), by rw [he1]; exact enc_at hs hx, f1, f2, f3, fun wr hw => ⟨y1 wr hw, y2 wr hw, y3 wr hw⟩⟩
        have HAT := Lib.hid hat
        have HN64 := Lib.hid n64
        have HN1 : Hid (1 ≤ lo.length) := Lib.hid n1
        clear hmay hQ hm hat hc1 hc2 hc3 he1 hvL hp n1
        rw [← hlen] at HZ d1 hW0 C1 ⊢
        rw [hln] at HX0
        clear HU0 HV0 HOK HSL HQ1 hvl
        have C2a : Hid (∀ W, Below W0.heap.size W0 W → Calls Try.prog 29 #[.slice p3 lo.length c3] W fun e w' => e = .returned (.bool true) ∧ W = w') := Lib.hid (fun W hW => by
          have h := range_any L _ W (HX0.out.below hW) HLL.out
          rw [HP.out] at h
          exact h)
        rw [hln] at hli hlb ⊢
        clear HX0 HLL HP hlen hln
        generalize lo.length = n at *
        go_enter Try.func12, Try.ntmps12
        go_upto_region 1 with fail
        rw [← hW0]
        clear hW0
        go_wp2_with fail
        refine C1.out.mono ?_
        rintro e w1 ⟨rfl, hb1⟩
        obtain ⟨z0, z1⟩ := HZ.out w1 hb1
        have C2 := Lib.hid (C2a.out w1 hb1)
        have HBY := Lib.hid hb1
        clear C1 C2a hb1
        go_wp2_with fail
        refine C2.out.mono ?_
        rintro _ _ ⟨rfl, rfl⟩
        clear C2
        go_wp2_with fail
        clear z0 z1
        go_loopw [6, 7] (fun bv i wr => ∃ k : Nat, k ≤ n ∧ i = .int .i64 k ∧ Below W0.heap.size W0 wr ∧ OwnU wr W0.heap.size bv (Q1.take k)) (fun _ i _ => n - (intOf i).toNat)
        case atStart => exact ⟨0, Nat.zero_le _, rfl, HBY.out, by simpa using own_none _ _⟩
        case round =>
          obtain ⟨k, hk, rfl, hbw, how⟩ := hrel
          obtain ⟨wo, rfl⟩ : ∃ wo : World, wo = wr := ⟨_, rfl⟩
          obtain ⟨z0, z1⟩ := HZ.out wo hbw
          have HBW := Lib.hid hbw
          have HOW := Lib.hid how
          by_cases hlt : k < n
          · obtain ⟨a, b, x, g1, o1, g2, o2, g3, o3, hok, hx, hQk, rfl, rfl, rfl, hcells⟩ := HAT.out k hlt
            obtain ⟨y1, y2, y3⟩ := hcells wo hbw
            have HCE := Lib.hid hcells
            have HLT := Lib.hid hlt
            have HCU := Lib.hid (codeU_is hok x)
            have hkn : (k : Int) < (n : Int) := by omega
            have HTL : Hid ((Q1.take k).length = k) := Lib.hid (by rw [List.length_take, HQL.out]; omega)
            have HNX : Hid (∀ c, c = codeU (a, b) x → Q1.take k ++ [c] = Q1.take (k + 1)) := Lib.hid (fun c hc => by rw [List.take_add_one, hQk, hc]; rfl)
            have HK64 : Hid (k ≤ 64) := Lib.hid (by have := HN64.out; omega)
            have mixed : Try.prog.follows .mixedOrders = true := by kernel_rfl
            have hok1 : -32768 ≤ a ∧ a ≤ b ∧ b ≤ 32767 := hok
            have GROW : Hid (∀ c W, Below wo.heap.size wo W → codeI (a, b) x = c → ∃ g cap w', (∀ ty, (Builtin.append_ #[68, 68] ty #[u6, .slice (some ⟨W.heap.size, 0, none⟩) 1 1]).run Try.prog (W.alloc (.cells #[.int .u8 c] 5)) = .ok (.slice (some ⟨g, 0, none⟩) (k + 1) cap) w') ∧
                OwnU w' W0.heap.size (.slice (some ⟨g, 0, none⟩) (k + 1) cap) (Q1.take (k + 1)) ∧ Below W0.heap.size W0 w') := Lib.hid (fun c W hW hc => by
              have hbW := HBW.out.trans (hW.mono HBW.out.size)
              obtain ⟨g, cap, w', h1, h2, h3⟩ := grow_byte (codeU (a, b) x) c (by rw [HCU.out]; exact hc) (own_below HOW.out hW) (by rw [HTL.out]; have := HK64.out; omega) hbW.size
              rw [HTL.out] at h1 h2
              rw [HNX.out _ rfl] at h2
              exact ⟨g, cap, w', h1, h2, hbW.trans h3⟩)
            by_cases h1 : x ≤ a
            · have HC := Lib.hid (code_low hok h1)
              clear hcells hQk hbw how hx hok
              go_wp2_with fail
              go_quiet (fail)
              obtain ⟨g, cap, w6, hr, ho, hb⟩ := GROW.out 0 (wo.drewN nq) (below_drewN (Below.refl _ _) nq) HC.out
              have HO := Lib.hid ho
              have HB := Lib.hid hb
              clear ho hb
              generalize wo.drewN nq = wd at *
              go_wp2_with (at_builtin; refine wpList_append_run rfl _ _ _ _ rfl _ _ _ _ rfl rfl hr ?_)
              go_roundw
              case rel => exact ⟨k + 1, HLT.out, by first | rfl | go_num, HB.out, HO.out⟩
              case measure => have := HLT.out; simp only [intOf]; omega
            · by_cases h2 : b < x
              · have HC := Lib.hid (code_high hok h1 h2)
                clear hcells hQk hbw how hx hok
                go_wp2_with fail
                go_quiet (fail)
                have hbd := below_drewN (Below.refl wo.heap.size wo) nq
                have hbd0 := HBW.out.trans (hbd.mono HBW.out.size)
                obtain ⟨z0, z1⟩ := HZ.out _ hbd0
                obtain ⟨y1, y2, y3⟩ := HCE.out _ hbd0
                have HBD := Lib.hid hbd
                clear hbd hbd0
                generalize wo.drewN nq = wd at *
                go_wp2_with fail
                go_quiet (fail)
                have hbe := HBD.out.trans (below_drewN (Below.refl wd.heap.size wd) nq |>.mono HBD.out.size)
                obtain ⟨g, cap, w6, hr, ho, hb⟩ := GROW.out 255 _ hbe HC.out
                have HO := Lib.hid ho
                have HB := Lib.hid hb
                clear ho hb hbe
                generalize wd.drewN nq = we at *
                go_wp2_with (at_builtin; refine wpList_append_run rfl _ _ _ _ rfl _ _ _ _ rfl rfl hr ?_)
                go_roundw
                case rel => exact ⟨k + 1, HLT.out, by first | rfl | go_num, HB.out, HO.out⟩
                case measure => have := HLT.out; simp only [intOf]; omega
              · have HC := Lib.hid (code_mid hok h1 h2)
                have HCB := Lib.hid (code_bd hok x)
                clear hcells hQk hbw how hok
                go_wp2_with fail
                go_quiet (fail)
                have hbd := below_drewN (Below.refl wo.heap.size wo) nq
                have hbd0 := HBW.out.trans (hbd.mono HBW.out.size)
                obtain ⟨z0, z1⟩ := HZ.out _ hbd0
                obtain ⟨y1, y2, y3⟩ := HCE.out _ hbd0
                have HBD := Lib.hid hbd
                clear hbd hbd0
                generalize wo.drewN nq = wd at *
                go_wp2_with fail
                go_quiet (fail)
                have hbe := HBD.out.trans (below_drewN (Below.refl wd.heap.size wd) nq |>.mono HBD.out.size)
                have hbe0 := HBW.out.trans (hbe.mono HBW.out.size)
                obtain ⟨z0, z1⟩ := HZ.out _ hbe0
                obtain ⟨y1, y2, y3⟩ := HCE.out _ hbe0
                have HBE := Lib.hid hbe
                clear hbe hbe0
                generalize wd.drewN nq = we at *
                have w1' : wrap64 (x - a) = x - a := wrap_in _ (by omega)
                have w2' : wrap64 ((x - a) * 255) = (x - a) * 255 := wrap_in _ (by omega)
                have w4' : IntKind.i64.wrap (x - a) = x - a := kw_in _ (by omega)
                have w5' : IntKind.i64.wrap ((x - a) * 255) = (x - a) * 255 := kw_in _ (by omega)
                have w7' : IntKind.i64.wrap (b - a) = b - a := kw_in _ (by omega)
                have w3' : wrap64 (b - a) = b - a := wrap_in _ (by omega)
                have HD := Lib.hid (fun W => down_any ((x - a) * 255) (b - a) W (by omega) (by omega) (by omega))
                rw [← HC.out] at HD
                have w6' : IntKind.u8.wrap (codeI (a, b) x) = codeI (a, b) x := u8_in _ HCB.out
                go_wp2_with fail
                have HSB : Hid (∀ X, Below W0.heap.size W0 X → ((X.cell? ⟨w.heap.size, 0, none⟩ = some (.slice (some ⟨g1, o1, none⟩) n c1) ∧ X.cell? ⟨w.heap.size, 1, none⟩ = some (.slice (some ⟨g2, o2, none⟩) n c2)) ∧ X.cell? ⟨g1, o1 + k, none⟩ = some (.int .i64 a) ∧ X.cell? ⟨g2, o2 + k, none⟩ = some (.int .i64 b) ∧ X.cell? ⟨g3, o3 + k, none⟩ = some (.int .i64 x))) := Lib.hid (fun X hX => ⟨HZ.out X hX, HCE.out X hX⟩)
                have hbf : Below W0.heap.size W0 we.drew := (HBW.out.trans (HBE.out.mono HBW.out.size)).drew
                obtain ⟨g, cap, w8, hr, ho, hb⟩ := GROW.out (codeI (a, b) x) we.drew (HBE.out.trans ((Below.refl _ we).drew.mono HBE.out.size)) rfl
                have HO := Lib.hid ho
                have HB := Lib.hid hb
                have hSa := HSB.out _ hbf
                have hSb := HSB.out _ (hbf.alloc hbf.size (.cells #[.int .u8 (codeI (a, b) x)] 5))
                have hSc := HSB.out _ HB.out
                generalize codeI (a, b) x = cq at *
                clear ho hb hbf HC HCB HSB GROW HAT HNX HTL HCU HOW
                refine wp_region_L 27 (fun X => ((X.cell? ⟨w.heap.size, 0, none⟩ = some (.slice (some ⟨g1, o1, none⟩) n c1) ∧ X.cell? ⟨w.heap.size, 1, none⟩ = some (.slice (some ⟨g2, o2, none⟩) n c2)) ∧ X.cell? ⟨g1, o1 + k, none⟩ = some (.int .i64 a) ∧ X.cell? ⟨g2, o2 + k, none⟩ = some (.int .i64 b) ∧ X.cell? ⟨g3, o3 + k, none⟩ = some (.int .i64 x))) (by kernel_rfl) hSa fun hSS => ?_
                refine L_take' (i := 0) (v := ?vv0) rfl (by kernel_rfl) (by kernel_rfl) (by kernel_rfl) (by kernel_rfl) (fun _ _ _ h => h) (Or.inl ⟨by rfl, ?hy0⟩) (by assumption) ?rest0
                case hy0 =>
                  intro wy hSx
                  obtain ⟨⟨s0, s1⟩, s2, s3, s4⟩ := hSx
                  go_simp
                  all_goals with_reducible rfl
                try simp only [Act.put, List.setIfInBounds_toArray, List.set_cons_zero, List.set_cons_succ]
                refine L_take' (i := 1) (v := ?vv1) rfl (by kernel_rfl) (by kernel_rfl) (by kernel_rfl) (by kernel_rfl) (fun _ _ _ h => h) (Or.inl ⟨by rfl, ?hy1⟩) (by assumption) ?rest1
                case hy1 =>
                  intro wy hSx
                  obtain ⟨⟨s0, s1⟩, s2, s3, s4⟩ := hSx
                  go_simp
                  all_goals with_reducible rfl
                try simp only [Act.put, List.setIfInBounds_toArray, List.set_cons_zero, List.set_cons_succ]
                refine L_take' (i := 2) (v := ?vv2) rfl (by kernel_rfl) (by kernel_rfl) (by kernel_rfl) (by kernel_rfl) (fun _ _ _ h => h) (Or.inl ⟨by rfl, ?hy2⟩) (by assumption) ?rest2
                case hy2 =>
                  intro wy hSx
                  obtain ⟨⟨s0, s1⟩, s2, s3, s4⟩ := hSx
                  go_simp
                  all_goals with_reducible rfl
                try simp only [Act.put, List.setIfInBounds_toArray, List.set_cons_zero, List.set_cons_succ]
                refine L_take' (i := 3) (v := ?vv3) rfl (by kernel_rfl) (by kernel_rfl) (by kernel_rfl) (by kernel_rfl) (fun _ _ _ h => h) (Or.inl ⟨by rfl, ?hy3⟩) (by assumption) ?rest3
                case hy3 =>
                  intro wy hSx
                  obtain ⟨⟨s0, s1⟩, s2, s3, s4⟩ := hSx
                  go_simp
                  all_goals with_reducible rfl
                try simp only [Act.put, List.setIfInBounds_toArray, List.set_cons_zero, List.set_cons_succ]
                refine L_take' (i := 4) (v := ?vv4) rfl (by kernel_rfl) (by kernel_rfl) (by kernel_rfl) (by kernel_rfl) (fun _ _ _ h => h) (Or.inl ⟨by rfl, ?hy4⟩) (by assumption) ?rest4
                case hy4 =>
                  intro wy hSx
                  obtain ⟨⟨s0, s1⟩, s2, s3, s4⟩ := hSx
                  go_simp
                  all_goals with_reducible rfl
                try simp only [Act.put, List.setIfInBounds_toArray, List.set_cons_zero, List.set_cons_succ]
                refine L_take' (i := 5) (v := ?vv5) rfl (by kernel_rfl) (by kernel_rfl) (by kernel_rfl) (by kernel_rfl) (fun _ _ _ h => h) (Or.inl ⟨by rfl, ?hy5⟩) (by assumption) ?rest5
                case hy5 =>
                  intro wy hSx
                  obtain ⟨⟨s0, s1⟩, s2, s3, s4⟩ := hSx
                  go_simp
                  all_goals with_reducible rfl
                try simp only [Act.put, List.setIfInBounds_toArray, List.set_cons_zero, List.set_cons_succ]
                refine L_take' (i := 6) (v := ?vv6) rfl (by kernel_rfl) (by kernel_rfl) (by kernel_rfl) (by kernel_rfl) (fun _ _ _ h => h) (Or.inl ⟨by rfl, ?hy6⟩) (by assumption) ?rest6
                case hy6 =>
                  intro wy hSx
                  obtain ⟨⟨s0, s1⟩, s2, s3, s4⟩ := hSx
                  go_simp
                  all_goals with_reducible rfl
                try simp only [Act.put, List.setIfInBounds_toArray, List.set_cons_zero, List.set_cons_succ]
                refine L_take' (i := 7) (v := ?vv7) rfl (by kernel_rfl) (by kernel_rfl) (by kernel_rfl) (by kernel_rfl) (fun _ _ _ h => h) (Or.inl ⟨by rfl, ?hy7⟩) (by assumption) ?rest7
                case hy7 =>
                  intro wy hSx
                  obtain ⟨⟨s0, s1⟩, s2, s3, s4⟩ := hSx
                  go_simp
                  all_goals with_reducible rfl
                try simp only [Act.put, List.setIfInBounds_toArray, List.set_cons_zero, List.set_cons_succ]
                refine L_take' (i := 8) (v := ?vv8) rfl (by kernel_rfl) (by kernel_rfl) (by kernel_rfl) (by kernel_rfl) (fun _ _ _ h => h) (Or.inl ⟨by rfl, ?hy8⟩) (by assumption) ?rest8
                case hy8 =>
                  intro wy hSx
                  obtain ⟨⟨s0, s1⟩, s2, s3, s4⟩ := hSx
                  go_simp
                  all_goals with_reducible rfl
                try simp only [Act.put, List.setIfInBounds_toArray, List.set_cons_zero, List.set_cons_succ]
                refine L_take' (i := 9) (v := ?vv9) rfl (by kernel_rfl) (by kernel_rfl) (by kernel_rfl) (by kernel_rfl) (fun _ _ _ h => h) (Or.inl ⟨by rfl, ?hy9⟩) (by assumption) ?rest9
                case hy9 =>
                  intro wy hSx
                  obtain ⟨⟨s0, s1⟩, s2, s3, s4⟩ := hSx
                  go_simp
                  all_goals with_reducible rfl
                try simp only [Act.put, List.setIfInBounds_toArray, List.set_cons_zero, List.set_cons_succ]
                refine L_take' (i := 10) (v := ?vv10) rfl (by kernel_rfl) (by kernel_rfl) (by kernel_rfl) (by kernel_rfl) (fun _ _ _ h => h) (Or.inl ⟨by rfl, ?hy10⟩) (by assumption) ?rest10
                case hy10 =>
                  intro wy hSx
                  obtain ⟨⟨s0, s1⟩, s2, s3, s4⟩ := hSx
                  go_simp
                  all_goals with_reducible rfl
                try simp only [Act.put, List.setIfInBounds_toArray, List.set_cons_zero, List.set_cons_succ]
                refine L_take' (i := 11) (v := ?vv11) rfl (by kernel_rfl) (by kernel_rfl) (by kernel_rfl) (by kernel_rfl) (fun _ _ _ h => h) (Or.inl ⟨by rfl, ?hy11⟩) (by assumption) ?rest11
                case hy11 =>
                  intro wy hSx
                  obtain ⟨⟨s0, s1⟩, s2, s3, s4⟩ := hSx
                  go_simp
                  all_goals with_reducible rfl
                try simp only [Act.put, List.setIfInBounds_toArray, List.set_cons_zero, List.set_cons_succ]
                refine L_take' (i := 12) (v := ?vv12) rfl (by kernel_rfl) (by kernel_rfl) (by kernel_rfl) (by kernel_rfl) (fun _ _ _ h => h) (Or.inl ⟨by rfl, ?hy12⟩) (by assumption) ?rest12
                case hy12 =>
                  intro wy hSx
                  obtain ⟨⟨s0, s1⟩, s2, s3, s4⟩ := hSx
                  go_simp
                  all_goals with_reducible rfl
                try simp only [Act.put, List.setIfInBounds_toArray, List.set_cons_zero, List.set_cons_succ]
                refine L_take' (i := 13) (v := ?vv13) rfl (by kernel_rfl) (by kernel_rfl) (by kernel_rfl) (by kernel_rfl) (fun _ _ _ h => h) (Or.inl ⟨by rfl, ?hy13⟩) (by assumption) ?rest13
                case hy13 =>
                  intro wy hSx
                  obtain ⟨⟨s0, s1⟩, s2, s3, s4⟩ := hSx
                  go_simp
                  all_goals with_reducible rfl
                try simp only [Act.put, List.setIfInBounds_toArray, List.set_cons_zero, List.set_cons_succ]
                refine L_take' (i := 14) (v := ?vv14) rfl (by kernel_rfl) (by kernel_rfl) (by kernel_rfl) (by kernel_rfl) (fun _ _ _ h => h) (Or.inl ⟨by rfl, ?hy14⟩) (by assumption) ?rest14
                case hy14 =>
                  intro wy hSx
                  obtain ⟨⟨s0, s1⟩, s2, s3, s4⟩ := hSx
                  go_simp
                  all_goals with_reducible rfl
                try simp only [Act.put, List.setIfInBounds_toArray, List.set_cons_zero, List.set_cons_succ]
                refine L_take' (i := 15) (v := ?vv15) rfl (by kernel_rfl) (by kernel_rfl) (by kernel_rfl) (by kernel_rfl) (fun _ _ _ h => h) (Or.inl ⟨by rfl, ?hy15⟩) (by assumption) ?rest15
                case hy15 =>
                  intro wy hSx
                  obtain ⟨⟨s0, s1⟩, s2, s3, s4⟩ := hSx
                  go_simp
                  all_goals with_reducible rfl
                try simp only [Act.put, List.setIfInBounds_toArray, List.set_cons_zero, List.set_cons_succ]
                refine L_take' (i := 16) (v := ?vv16) rfl (by kernel_rfl) (by kernel_rfl) (by kernel_rfl) (by kernel_rfl) (fun _ _ _ h => h) (Or.inl ⟨by rfl, ?hy16⟩) (by assumption) ?rest16
                case hy16 =>
                  intro wy hSx
                  obtain ⟨⟨s0, s1⟩, s2, s3, s4⟩ := hSx
                  go_simp
                  all_goals with_reducible rfl
                try simp only [Act.put, List.setIfInBounds_toArray, List.set_cons_zero, List.set_cons_succ]
                refine L_take' (i := 17) (v := ?vv17) rfl (by kernel_rfl) (by kernel_rfl) (by kernel_rfl) (by kernel_rfl) (fun _ _ _ h => h) (Or.inl ⟨by rfl, ?hy17⟩) (by assumption) ?rest17
                case hy17 =>
                  intro wy hSx
                  obtain ⟨⟨s0, s1⟩, s2, s3, s4⟩ := hSx
                  go_simp
                  all_goals with_reducible rfl
                try simp only [Act.put, List.setIfInBounds_toArray, List.set_cons_zero, List.set_cons_succ]
                refine L_take' (i := 18) (v := ?vv18) rfl (by kernel_rfl) (by kernel_rfl) (by kernel_rfl) (by kernel_rfl) (fun _ _ _ h => h) (Or.inl ⟨by rfl, ?hy18⟩) (by assumption) ?rest18
                case hy18 =>
                  intro wy hSx
                  obtain ⟨⟨s0, s1⟩, s2, s3, s4⟩ := hSx
                  go_simp
                  all_goals with_reducible rfl
                try simp only [Act.put, List.setIfInBounds_toArray, List.set_cons_zero, List.set_cons_succ]
                refine L_take' (i := 19) (v := ?vv19) rfl (by kernel_rfl) (by kernel_rfl) (by kernel_rfl) (by kernel_rfl) (fun _ _ _ h => h) (Or.inl ⟨by rfl, ?hy19⟩) (by assumption) ?rest19
                case hy19 =>
                  intro wy hSx
                  obtain ⟨⟨s0, s1⟩, s2, s3, s4⟩ := hSx
                  go_simp
                  all_goals with_reducible rfl
                try simp only [Act.put, List.setIfInBounds_toArray, List.set_cons_zero, List.set_cons_succ]
                refine L_take' (i := 20) (v := ?vv20) rfl (by kernel_rfl) (by kernel_rfl) (by kernel_rfl) (by kernel_rfl) (fun _ _ _ h => h) (Or.inl ⟨by rfl, ?hy20⟩) (by assumption) ?rest20
                case hy20 =>
                  intro wy hSx
                  obtain ⟨⟨s0, s1⟩, s2, s3, s4⟩ := hSx
                  go_simp
                  all_goals with_reducible rfl
                try simp only [Act.put, List.setIfInBounds_toArray, List.set_cons_zero, List.set_cons_succ]
                refine L_take' (i := 21) (v := ?vv21) rfl (by kernel_rfl) (by kernel_rfl) (by kernel_rfl) (by kernel_rfl) (fun _ _ _ h => h) (Or.inl ⟨by rfl, ?hy21⟩) (by assumption) ?rest21
                case hy21 =>
                  intro wy hSx
                  obtain ⟨⟨s0, s1⟩, s2, s3, s4⟩ := hSx
                  go_simp
                  all_goals with_reducible rfl
                try simp only [Act.put, List.setIfInBounds_toArray, List.set_cons_zero, List.set_cons_succ]
                refine L_take' (i := 22) (v := ?vv22) rfl (by kernel_rfl) (by kernel_rfl) (by kernel_rfl) (by kernel_rfl) (fun _ _ _ h => h) (Or.inl ⟨by rfl, ?hy22⟩) (by assumption) ?rest22
                case hy22 =>
                  intro wy hSx
                  obtain ⟨⟨s0, s1⟩, s2, s3, s4⟩ := hSx
                  go_simp
                  all_goals with_reducible rfl
                try simp only [Act.put, List.setIfInBounds_toArray, List.set_cons_zero, List.set_cons_succ]
                refine L_one' (i := 23) rfl (by kernel_rfl) fun K hK => ?_
                go_simp
                with_reducible refine (HD.out _).mono ?_
                rintro e w5 ⟨rfl, rfl⟩
                dsimp only
                refine hK _ _ (fun _ => hSa) ?_
                clear K hK
                try simp only [Act.put, List.setIfInBounds_toArray, List.set_cons_zero, List.set_cons_succ]
                refine L_one' (i := 24) rfl (by kernel_rfl) fun K hK => ?_
                go_simp
                refine hK _ _ (fun _ => hSa) ?_
                clear K hK
                try simp only [Act.put, List.setIfInBounds_toArray, List.set_cons_zero, List.set_cons_succ]
                refine L_one' (i := 25) rfl (by kernel_rfl) fun K hK => ?_
                go_simp
                refine hK _ _ (fun _ => hSb) ?_
                clear K hK
                try simp only [Act.put, List.setIfInBounds_toArray, List.set_cons_zero, List.set_cons_succ]
                refine L_one' (i := 26) rfl (by kernel_rfl) fun K hK => ?_
                refine step_append_run (by rfl) _ _ _ _ (by rfl) _ _ (.slice (some ⟨g, 0, none⟩) (k + 1) cap) w8 (by rfl) (by rfl) hr ?_
                refine hK _ _ (fun _ => hSc) ?_
                clear K hK
                try simp only [Act.put, List.setIfInBounds_toArray, List.set_cons_zero, List.set_cons_succ]
                refine L_one' (i := 27) rfl (by kernel_rfl) fun K hK => ?_
                go_simp
                refine hK _ _ (fun h => absurd rfl h) ?_
                clear K hK
                try simp only [Act.put, List.setIfInBounds_toArray, List.set_cons_zero, List.set_cons_succ]
                refine L_done (by kernel_rfl) ?_ _
                go_wp2_with fail
                go_roundw
                case rel => exact ⟨k + 1, HLT.out, by first | rfl | go_num, HB.out, HO.out⟩
                case measure => have := HLT.out; simp only [intOf]; omega
          · obtain rfl : k = n := by omega
            have hQQ : Q1.take k = Q1 := by rw [← HQL.out, List.take_length]
            rw [hQQ] at how
            obtain ⟨B, cap, e, _, _⟩ := own_form how (by rw [HQL.out]; exact HN1.out)
            rw [HQL.out] at e
            subst e
            have hcv := own_text how HQL.out
            have HF := Lib.hid (HB0.out.trans (hbw.mono HS0.out))
            clear how hbw z0 z1
            go_wp2_with fail
            go_ret2
            exact ⟨rfl, HF.out⟩
    · have ho : okR lo.length L = false := by unfold okR; rw [decide_eq_false (by omega)]; rfl
      have he : ((Q1, Q2) : List UInt8 × Int) = ([], 60) := by rw [hQ]; unfold encQ; rw [hm, ho]; rfl
      injection he with he1 he2
      subst he1; subst he2
      have hli : ¬ (L.length : Int) = (lo.length : Int) := by omega
      have hlb : ((L.length : Int) == (lo.length : Int)) = false := beq_eq_false_iff_ne.2 hli
      clear hmay hQ hm hlen ho hvl
      go_enter Try.func12, Try.ntmps12
      go_upto_region 1 with fail
      rw [← hW0]
      clear hW0
      go_wp2_with fail
      refine C1.out.mono ?_
      rintro e w1 ⟨rfl, hb1⟩
      obtain ⟨z0, z1⟩ := HZ.out w1 hb1
      have HF := Lib.hid (HB0.out.trans (hb1.mono HS0.out))
      clear hb1
      go_wp2_with fail
      go_ret2
      exact ⟨rfl, HF.out⟩
end Sc
end Go.Proofs.Ytfgmkdghpdpdkaa
