/- The records of a text, by the document. Conditions: those that each theorem names. -/
import Derived.Test.YtioidkbpjkcjeaaGreatDoorWlE
import Derived.Test.YtioidkbpjkcjeaaGreatDoorWlD
namespace Go.Proofs.YtioidkbpjkcjeaaGreatDoor
set_option linter.unusedVariables false
open Go Go.RowKit Wl
set_option maxHeartbeats 4000000 in
set_option maxRecDepth 100000 in
theorem rscan_any (s : ByteArray) (w : World) (hs : s.size ≤ 140737488351232) :
    Calls Tryz.prog 37 #[.string s] w (ScanP w.heap.size w s.data.toList) := by
  have HS := Lib.hid hs
  have hS' : (s.size : Int) ≤ 140737488351232 := by omega
  go_enter Tryz.func37, Tryz.ntmps37
  go_wp2_with fail
  go_loopw [5, 6] (fun l i wr => ∃ (pre : List Rc) (k : Nat), i = .int .i64 (k : Int) ∧ k ≤ s.size ∧ OwnR wr w.heap.size l pre ∧ Hid (scan 0 s.data.toList = ⟨pre ++ (scan (lastP pre) (s.data.toList.drop k)).recs, k + (scan (lastP pre) (s.data.toList.drop k)).size, (scan (lastP pre) (s.data.toList.drop k)).err⟩) ∧ Hid (pre.length * 20 ≤ k) ∧ Hid (Ranged pre) ∧ Below w.heap.size w wr) (fun _ i _ => s.size - (intOf i).toNat)
  case atStart => exact ⟨[], 0, rfl, Nat.zero_le _, rec_row_nil _ _, Lib.hid (by simp [lastP]), Lib.hid (by simp), Lib.hid (fun x hx => by cases hx), Below.refl _ _⟩
  case round =>
    obtain ⟨pre, k, rfl, hk, ho, HR, HL, HG, hb⟩ := hrel
    have HO := Lib.hid ho
    have HB := Lib.hid hb
    have HK := Lib.hid hk
    clear ho hb
    obtain ⟨wo, rfl⟩ : ∃ wo : World, wo = wr := ⟨_, rfl⟩
    by_cases hlt : k < s.size
    · have hl1 : (k : Int) < (s.size : Int) := by omega
      have hl2 : (k : Int) ≤ (s.size : Int) := by omega
      have hne : s.data.toList.drop k ≠ [] := by
        intro e
        have := congrArg List.length e
        rw [List.length_drop, ln] at this
        simp at this; omega
      have C := Lib.hid (fun W => rone_any (s.extract k s.size) W (by rw [ByteArray.size_extract]; unfold maxLen; omega))
      rw [ext_end] at C
      have hone : ∃ o, o = recOf (s.data.toList.drop k) := ⟨_, rfl⟩
      obtain ⟨o, ho⟩ := hone
      rw [← ho] at C
      have HO1 := Lib.hid ho
      have HNE := Lib.hid hne
      clear ho hne hk
      cases o with
      | torn =>
        have C' : Hid (∀ W, Calls Tryz.prog 60 #[.string (s.extract k s.size)] W fun e w' => e = .returned (.tuple #[.agg #[.int .i64 0, .string ⟨#[]⟩], .int .i64 0, .int .i64 91]) ∧ Below W.heap.size W w') := C
        have HE : Hid (scan 0 s.data.toList = ⟨pre, k, 91⟩) := Lib.hid (by rw [HR.out, scan_torn HNE.out HO1.out.symm]; simp)
        clear C HR
        go_wp2_with fail
        refine (C'.out _).mono ?_
        rintro e w2 ⟨rfl, hb2⟩
        have HO2 := Lib.hid (ownR_below HO.out hb2)
        have HB2 := Lib.hid ((HB.out.trans (hb2.mono HB.out.size)).alloc (Nat.le_trans HB.out.size hb2.size) (.cells #[.int .i64 0, .string ⟨#[]⟩] 62))
        clear hb2 C'
        go_wp2_with fail
        have HO3 : Hid (OwnR (w2.alloc (.cells #[.int .i64 0, .string ⟨#[]⟩] 62)) w.heap.size _ pre) := Lib.hid (ownR_below HO2.out (below_new _ _))
        generalize w2.alloc (.cells #[.int .i64 0, .string ⟨#[]⟩] 62) = W3 at *
        go_quiet (fail)
        go_wp2_with fail
        go_ret3
        exact ⟨_, by rw [HE.out]; rfl, by rw [HE.out]; exact HO3.out, below_drewN HB2.out _⟩
      | bad =>
        have C' : Hid (∀ W, Calls Tryz.prog 60 #[.string (s.extract k s.size)] W fun e w' => e = .returned (.tuple #[.agg #[.int .i64 0, .string ⟨#[]⟩], .int .i64 0, .int .i64 90]) ∧ Below W.heap.size W w') := C
        have HE : Hid (scan 0 s.data.toList = ⟨pre, k, 90⟩) := Lib.hid (by rw [HR.out, scan_bad HNE.out HO1.out.symm]; simp)
        clear C HR
        go_wp2_with fail
        refine (C'.out _).mono ?_
        rintro e w2 ⟨rfl, hb2⟩
        have HO2 := Lib.hid (ownR_below HO.out hb2)
        have HB2 := Lib.hid ((HB.out.trans (hb2.mono HB.out.size)).alloc (Nat.le_trans HB.out.size hb2.size) (.cells #[.int .i64 0, .string ⟨#[]⟩] 62))
        clear hb2 C'
        go_wp2_with fail
        have HO3 : Hid (OwnR (w2.alloc (.cells #[.int .i64 0, .string ⟨#[]⟩] 62)) w.heap.size _ pre) := Lib.hid (ownR_below HO2.out (below_new _ _))
        generalize w2.alloc (.cells #[.int .i64 0, .string ⟨#[]⟩] 62) = W3 at *
        go_quiet (fail)
        go_wp2_with fail
        go_ret3
        exact ⟨_, by rw [HE.out]; rfl, by rw [HE.out]; exact HO3.out, below_drewN HB2.out _⟩
      | ok q b =>
        have C' : Hid (∀ W, Calls Tryz.prog 60 #[.string (s.extract k s.size)] W fun e w' => e = .returned (.tuple #[.agg #[.int .i64 (q : Int), .string (tx b)], .int .i64 ((20 + b.length : Nat) : Int), .int .i64 0]) ∧ Below W.heap.size W w') := C
        obtain ⟨k1, k2, k3, k4⟩ := one_ok HO1.out.symm
        rw [List.length_drop, ln] at k1
        have K1 := Lib.hid k1
        have K2 := Lib.hid (And.intro k2 k3)
        obtain ⟨Y2, hY2⟩ : ∃ Y : Nat, Y = 20 + b.length := ⟨_, rfl⟩
        obtain ⟨Y3, hY3⟩ : ∃ Y : Nat, Y = k + (20 + b.length) := ⟨_, rfl⟩
        have q3 : ((k : Int) + (Y2 : Int)) = (Y3 : Int) ∧ -9223372036854775808 ≤ (Y3 : Int) ∧ (Y3 : Int) ≤ 9223372036854775807 := by omega
        have wz3 := wrI q3.1 q3.2
        have HY3 := Lib.hid hY3
        rw [← hY2] at C'
        clear q3 hY2 hY3
        clear C k1 k2 k3 k4
        rcases own_form2 HO.out with ⟨hpre, p, c, hv⟩ | ⟨g, m, cap, hv, hm, hg1, hg2⟩
        · subst hpre hv
          have HE : Hid (scan 0 s.data.toList = ⟨(q, b) :: (scan q (s.data.toList.drop (k + (20 + b.length)))).recs, k + (20 + b.length) + (scan q (s.data.toList.drop (k + (20 + b.length)))).size, (scan q (s.data.toList.drop (k + (20 + b.length)))).err⟩) := Lib.hid (by
            rw [HR.out, scan_next HNE.out HO1.out.symm (by simp [lastP]), List.drop_drop]
            simp [Sc.more, Nat.add_assoc])
          clear HR
          go_wp2_with fail
          refine (C'.out _).mono ?_
          rintro e w2 ⟨rfl, hb2⟩
          have HO2 := Lib.hid (ownR_below HO.out hb2)
          have HB2 := Lib.hid (HB.out.trans (hb2.mono HB.out.size))
          obtain ⟨c0, c1⟩ := robj_cells (x := (q, b)) (heap_alloc_new w2 (robj (q, b)))
          have HRb := Lib.hid (heap_alloc_new w2 (robj (q, b)))
          have HO3 := Lib.hid (ownR_below HO2.out (below_new w2 (robj (q, b))))
          have HB3 := Lib.hid (HB2.out.alloc HB2.out.size (robj (q, b)))
          have HR3 : Hid (w2.heap.size < (w2.alloc (robj (q, b))).heap.size) := Lib.hid (by simp)
          have HLB : Hid (w.heap.size ≤ w2.heap.size) := Lib.hid (HB2.out.size)
          clear hb2 C'
          go_wp2_with fail
          change Code.wp _ _ _ _ (w2.alloc (robj (q, b)))
          generalize w2.alloc (robj (q, b)) = W3 at *
          have HNB : Hid (∀ g0, (Value.ownBlock (.slice p 0 c)) = some g0 → g0 < w2.heap.size) := Lib.hid (fun g0 h0 => (HO2.out.lt g0 h0).2)
          clear HO2 HB2
          generalize w2.heap.size = R at *
          go_quiet (fail)
          have HO4 : Hid (OwnR (W3.drewN nq) w.heap.size (.slice p 0 c) []) := Lib.hid HO3.out
          have HB4 : Hid (Below w.heap.size w (W3.drewN nq)) := Lib.hid (below_drewN HB3.out _)
          have HR4 : Hid ((W3.drewN nq).heap[R]? = some (robj (q, b))) := Lib.hid HRb.out
          have HS4 : Hid (R < (W3.drewN nq).heap.size) := Lib.hid HR3.out
          have e0 : (W3.drewN nq).cell? ⟨R, 0, none⟩ = some (.int .i64 (q : Int)) := c0
          have e1 : (W3.drewN nq).cell? ⟨R, 1, none⟩ = some (.string (tx b)) := c1
          generalize W3.drewN nq = W4 at *
          clear HO3 HB3 HRb HR3 c0 c1
          obtain ⟨v5, w5, hr5, ho5, hb5, hk5, hs5⟩ := append_box2 (q, b) HO4.out (by have := HL.out; have := HK.out; have := HS.out; clear wz3; first | (simp; done) | (simp; omega)) HB4.out.size
          have HA5 := Lib.hid hr5
          have HB5 := Lib.hid (HB4.out.trans hb5)
          have HO5 := Lib.hid ho5
          have X5 := (hk5 R HS4.out (fun h0 => Nat.lt_irrefl _ (HNB.out R h0))).trans HR4.out
          obtain ⟨f0, f1⟩ := robj_cells X5
          clear hr5 hb5 ho5 hk5 hs5 X5
          go_wp2_with (at_builtin; refine wpList_append_run rfl _ _ _ _ rfl _ _ v5 w5 rfl rfl (fun ty => HA5.out ty) ?_)
          go_roundw
          case rel => exact ⟨[] ++ [(q, b)], Y3, congrArg _ wz3, by have := HY3.out; have := K1.out; clear wz3; omega, HO5.out, Lib.hid (by rw [HE.out, lastP_snoc, ← HY3.out]; simp), Lib.hid (by have := HY3.out; have := HL.out; clear wz3; simp at this ⊢; omega), Lib.hid (fun x hx => by
            rcases List.mem_append.1 hx with h | h
            · exact HG.out x h
            · rw [List.mem_singleton.1 h]; exact K2.out), HB5.out⟩
          case measure => have := HY3.out; have := K1.out; rw [wz3]; clear wz3; simp [intOf]; omega
        · have HLQ : Hid (1 ≤ lastP pre ∧ lastP pre ≤ 4503599627370496) := Lib.hid (by
            have hx : pre[m]'(by omega) ∈ pre := List.getElem_mem _
            have := HG.out _ hx
            have hl : lastP pre = (pre[m]'(by omega)).1 := by
              unfold lastP
              rw [List.getLast?_eq_getElem?, List.getElem?_eq_getElem (by omega)]
              simp [hm]
            rw [hl]; exact this)
          obtain ⟨P1, hP1⟩ : ∃ P : Nat, P = lastP pre + 1 := ⟨_, rfl⟩
          have q1 : ((lastP pre : Int) + 1) = (P1 : Int) ∧ -9223372036854775808 ≤ (P1 : Int) ∧ (P1 : Int) ≤ 9223372036854775807 := by have := HLQ.out; clear wz3; omega
          have q2 : ((pre.length : Int) - 1) = (m : Int) ∧ -9223372036854775808 ≤ (m : Int) ∧ (m : Int) ≤ 9223372036854775807 := by have := HL.out; have := HK.out; have := HS.out; clear wz3; omega
          have wp1 := wrI q1.1 q1.2
          have HP1 := Lib.hid hP1
          have wm := wrI q2.1 q2.2
          clear q1 q2
          have hm1 : (m : Int) < (pre.length : Int) := by clear wz3 wp1 wm; omega
          have hm2 : (0 : Int) ≤ (m : Int) := by clear wz3 wp1 wm; omega
          have hm3 : decide (0 < pre.length) = true := decide_eq_true (by clear wz3 wp1 wm; omega)
          have HCELL := Lib.hid (fun W hW => own_last (hv ▸ HO.out) hm W hW)
          have HM := Lib.hid hm
          have HG1 := Lib.hid hg1
          have HG2 := Lib.hid hg2
          clear hm hg1 hg2 hP1
          subst hv
          by_cases hoff : q = P1
          · have HE : Hid (scan 0 s.data.toList = ⟨pre ++ (q, b) :: (scan q (s.data.toList.drop (k + (20 + b.length)))).recs, k + (20 + b.length) + (scan q (s.data.toList.drop (k + (20 + b.length)))).size, (scan q (s.data.toList.drop (k + (20 + b.length)))).err⟩) := Lib.hid (by
              rw [HR.out, scan_next HNE.out HO1.out.symm (by have := HP1.out; clear wz3 wp1 wm; omega), List.drop_drop]
              simp [Sc.more, Nat.add_assoc])
            have hq1 : ((q : Int) == (P1 : Int)) = true := by simp [hoff]
            have hq2 : ((q : Int) != (P1 : Int)) = false := by simp [hoff]
            clear HR hoff
            go_wp2_with fail
            refine (C'.out _).mono ?_
            rintro e w2 ⟨rfl, hb2⟩
            have HO2 := Lib.hid (ownR_below HO.out hb2)
            have HB2 := Lib.hid (HB.out.trans (hb2.mono HB.out.size))
            obtain ⟨c0, c1⟩ := robj_cells (x := (q, b)) (heap_alloc_new w2 (robj (q, b)))
            have HRb := Lib.hid (heap_alloc_new w2 (robj (q, b)))
            have HO3 := Lib.hid (ownR_below HO2.out (below_new w2 (robj (q, b))))
            have HB3 := Lib.hid (HB2.out.alloc HB2.out.size (robj (q, b)))
            have HR3 : Hid (w2.heap.size < (w2.alloc (robj (q, b))).heap.size) := Lib.hid (by simp)
            have c2 := HCELL.out (w2.alloc (robj (q, b))) ((heap_alloc_old w2 _ (Nat.lt_of_lt_of_le HG2.out hb2.size)).trans (hb2.block g HG2.out))
            clear hb2 C' HCELL
            go_wp2_with fail
            change Code.wp _ _ _ _ (w2.alloc (robj (q, b)))
            generalize w2.alloc (robj (q, b)) = W3 at *
            have HNB : Hid (∀ g0, (Value.ownBlock (.slice (some ⟨g, 0, none⟩) pre.length cap)) = some g0 → g0 < w2.heap.size) := Lib.hid (fun g0 h0 => (HO2.out.lt g0 h0).2)
            clear HO2 HB2
            generalize w2.heap.size = R at *
            go_quiet (fail)
            have HO4 : Hid (OwnR (W3.drewN nq) w.heap.size (.slice (some ⟨g, 0, none⟩) pre.length cap) pre) := Lib.hid HO3.out
            have HB4 : Hid (Below w.heap.size w (W3.drewN nq)) := Lib.hid (below_drewN HB3.out _)
            have HR4 : Hid ((W3.drewN nq).heap[R]? = some (robj (q, b))) := Lib.hid HRb.out
            have HS4 : Hid (R < (W3.drewN nq).heap.size) := Lib.hid HR3.out
            have e0 : (W3.drewN nq).cell? ⟨R, 0, none⟩ = some (.int .i64 (q : Int)) := c0
            have e1 : (W3.drewN nq).cell? ⟨R, 1, none⟩ = some (.string (tx b)) := c1
            generalize W3.drewN nq = W4 at *
            clear HO3 HB3 HRb HR3 c0 c1 c2
            obtain ⟨v5, w5, hr5, ho5, hb5, hk5, hs5⟩ := append_box2 (q, b) HO4.out (by have := HL.out; have := HK.out; have := HS.out; clear wz3 wp1 wm; omega) HB4.out.size
            have HA5 := Lib.hid hr5
            have HB5 := Lib.hid (HB4.out.trans hb5)
            have HO5 := Lib.hid ho5
            have X5 := (hk5 R HS4.out (fun h0 => Nat.lt_irrefl _ (HNB.out R h0))).trans HR4.out
            obtain ⟨f0, f1⟩ := robj_cells X5
            clear hr5 hb5 ho5 hk5 hs5 X5
            go_wp2_with (at_builtin; refine wpList_append_run rfl _ _ _ _ rfl _ _ v5 w5 rfl rfl (fun ty => HA5.out ty) ?_)
            go_roundw
            case rel => exact ⟨pre ++ [(q, b)], Y3, congrArg _ wz3, by have := HY3.out; have := K1.out; clear wz3; omega, HO5.out, Lib.hid (by rw [HE.out, lastP_snoc, ← HY3.out]; simp), Lib.hid (by have := HY3.out; have := HL.out; clear wz3; simp at this ⊢; omega), Lib.hid (fun x hx => by
              rcases List.mem_append.1 hx with h | h
              · exact HG.out x h
              · rw [List.mem_singleton.1 h]; exact K2.out), HB5.out⟩
            case measure => have := HY3.out; have := K1.out; rw [wz3]; clear wz3; simp [intOf]; omega
          · have HE : Hid (scan 0 s.data.toList = ⟨pre, k, 90⟩) := Lib.hid (by
              rw [HR.out, scan_off HNE.out HO1.out.symm (by have := HP1.out; have := HLQ.out; clear wz3 wp1 wm; omega)]; simp)
            have hq1 : ((q : Int) == (P1 : Int)) = false := by clear wz3 wp1 wm; simp; omega
            have hq2 : ((q : Int) != (P1 : Int)) = true := by clear wz3 wp1 wm; simp; omega
            clear HR hoff
            go_wp2_with fail
            refine (C'.out _).mono ?_
            rintro e w2 ⟨rfl, hb2⟩
            have HO2 := Lib.hid (ownR_below HO.out hb2)
            have HB2 := Lib.hid (HB.out.trans (hb2.mono HB.out.size))
            obtain ⟨c0, c1⟩ := robj_cells (x := (q, b)) (heap_alloc_new w2 (robj (q, b)))
            have HO3 := Lib.hid (ownR_below HO2.out (below_new w2 (robj (q, b))))
            have HB3 := Lib.hid (HB2.out.alloc HB2.out.size (robj (q, b)))
            have c2 := HCELL.out (w2.alloc (robj (q, b))) ((heap_alloc_old w2 _ (Nat.lt_of_lt_of_le HG2.out hb2.size)).trans (hb2.block g HG2.out))
            clear hb2 C' HCELL
            go_wp2_with fail
            change Code.wp _ _ _ _ (w2.alloc (robj (q, b)))
            generalize w2.alloc (robj (q, b)) = W3 at *
            clear HO2 HB2
            generalize w2.heap.size = R at *
            go_quiet (fail)
            go_wp2_with fail
            go_ret3
            exact ⟨_, by rw [HE.out]; rfl, by rw [HE.out]; exact HO3.out, below_drewN HB3.out _⟩
    · have hl1 : ¬ (k : Int) < (s.size : Int) := by omega
      obtain rfl : k = s.size := by omega
      have HE : Hid (scan 0 s.data.toList = ⟨pre, s.size, 0⟩) := Lib.hid (by
        rw [HR.out, List.drop_of_length_le (by rw [ln]; exact Nat.le_refl _), scan_nil]; simp)
      clear HR
      go_wp2_with fail
      go_ret3
      exact ⟨_, by rw [HE.out]; rfl, by rw [HE.out]; exact HO.out, HB.out⟩
end Go.Proofs.YtioidkbpjkcjeaaGreatDoor
