/- The walk of the law StatsBounds. Conditions: those that each theorem names. -/
import Derived.Test.YtmkilmglmeohmaaSsI
import Derived.Test.YtmkilmglmeohmaaSsPl4
import Derived.BigQuiet
namespace Go.Proofs.Ytmkilmglmeohmaa
set_option linter.unusedVariables false
open Go Go.RowKit Go.Sort
namespace Ss
set_option maxHeartbeats 4000000 in
set_option maxRecDepth 100000 in
theorem bounds_any (L : List Int) (v : Value) (q lo hi : Int) (w : World) (h : IntsAt w v L) (hl : L.length ≤ 1048576) (hr : ∀ x ∈ L, -9223372036854775808 ≤ x ∧ x ≤ 9223372036854775807) (hlh : OkLow lo hi) :
    Calls Try.prog 4 #[v, .int .i64 q, .agg #[.int .i64 lo, .int .i64 hi]] w fun e w' => e = .returned (.bool true) ∧ Below w.heap.size w w' := by
  have hz0 := Rk.heap_last w (.cells #[.int .i64 lo, .int .i64 hi] 32)
  have hb0 := Rk.fresh_alloc w (.cells #[.int .i64 lo, .int .i64 hi] 32)
  have H1 := Lib.hid (build_any L [] v (.slice none 0 0) q _ (h.below hb0) (.inl ⟨rfl, _, _, rfl⟩) (by omega) (by decide) (by simp))
  rw [no_runs] at H1
  have hSl := srt_len L
  have hSu := srt_up L
  have hSr : ∀ x ∈ srt L, -9223372036854775808 ≤ x ∧ x ≤ 9223372036854775807 := fun x hx => hr x ((srt_perm L).mem_iff.1 hx)
  have hmb : many q L.length ≤ (srt L).length := by rw [hSl]; exact many_le _ _
  have hmp : 0 < (srt L).length → 0 < many q L.length := by rw [hSl]; exact many_pos _ _
  have hok := bks_ok hSu hSr hmb
  have hsm := bks_all hmb hmp
  have htr := btw_true (lo := lo) (hi := hi) hSu hmb hmp
  rw [cnt_perm (srt_perm L)] at htr
  rw [hSl] at hsm
  obtain ⟨B, hB⟩ : ∃ B, B = bks (srt L) (many q L.length) := ⟨_, rfl⟩
  have hbl : B.length ≤ L.length := by rw [hB, bks_len]; exact many_le _ _
  rw [← hB] at H1 hok hsm htr
  have hbd := btw_bd (low := lo) (high := hi) hok B.length (Nat.le_refl _)
  rw [List.take_length] at hbd
  have hwh := btw_whole hok
  rw [hsm] at hwh
  obtain ⟨p, c, rfl⟩ := h.form
  have HC := Lib.hid (Rx.row_cells h)
  have HML : Hid (L.length ≤ maxLen) := Lib.hid (by unfold maxLen; omega)
  have HOK := Lib.hid hok
  have HSM := Lib.hid hsm
  have HTR := Lib.hid htr
  have HBD := Lib.hid hbd
  have HWH := Lib.hid hwh
  have HBL := Lib.hid hbl
  have HLH := Lib.hid hlh
  have HLB := Lib.hid hl
  have HB0 := Lib.hid hb0
  have HZ0 := Lib.hid hz0
  clear h hl hr hlh hSl hSu hSr hmb hmp hok hsm htr hB hbd hwh hbl hb0 hz0
  go_enter Try.func4, Try.ntmps4
  go_wp2_with fail
  generalize w.alloc (.cells #[.int .i64 lo, .int .i64 hi] 32) = w1 at *
  refine H1.out.mono ?_
  clear H1
  rintro e w2 ⟨p1, c1, p2, c2, rfl, ho, _, hb2⟩
  simp only [List.length_nil, Nat.add_zero] at ho ⊢
  have hz := Rk.heap_last w2 (sO L.length (.slice p1 B.length c1) (.slice p2 0 c2))
  have hb3 := Rk.fresh_alloc w2 (sO L.length (.slice p1 B.length c1) (.slice p2 0 c2))
  have hrow := (Rk.own_row flatB ho).below hb3
  have hb13 := hb2.trans (hb3.mono hb2.size)
  have d0 : (w2.alloc (sO L.length (.slice p1 B.length c1) (.slice p2 0 c2))).cell? ⟨w2.heap.size, 0, none⟩ = some (.int .i64 (L.length : Int)) := by rw [Lib.cell_of_heap hz]; rfl
  have d1 : (w2.alloc (sO L.length (.slice p1 B.length c1) (.slice p2 0 c2))).cell? ⟨w2.heap.size, 1, none⟩ = some (.slice p1 B.length c1) := by rw [Lib.cell_of_heap hz]; rfl
  have d2 : (w2.alloc (sO L.length (.slice p1 B.length c1) (.slice p2 0 c2))).cell? ⟨w2.heap.size, 2, none⟩ = some (.slice p2 0 c2) := by rw [Lib.cell_of_heap hz]; rfl
  have hz3 := (hb13.block _ (Rk.lt_of_block HZ0.out)).trans HZ0.out
  have a0 : (w2.alloc (sO L.length (.slice p1 B.length c1) (.slice p2 0 c2))).cell? ⟨w.heap.size, 0, none⟩ = some (.int .i64 lo) := by rw [Lib.cell_of_heap hz3]; rfl
  have a1 : (w2.alloc (sO L.length (.slice p1 B.length c1) (.slice p2 0 c2))).cell? ⟨w.heap.size, 1, none⟩ = some (.int .i64 hi) := by rw [Lib.cell_of_heap hz3]; rfl
  have HB3 := Lib.hid (HB0.out.trans (hb13.mono HB0.out.size))
  have HBM : Hid (B.length ≤ maxLen) := Lib.hid (Nat.le_trans HBL.out HML.out)
  have HBW := Lib.hid (fun W (hW : Below (w2.alloc (sO L.length (.slice p1 B.length c1) (.slice p2 0 c2))).heap.size (w2.alloc (sO L.length (.slice p1 B.length c1) (.slice p2 0 c2))) W) (lw hg : Int) (hk : OkLow lw hg) => between_any B (.slice p1 B.length c1) (.slice p2 0 c2) L.length lw hg W (hrow.below hW) HBM.out HOK.out (by have := HSM.out; have := HLB.out; omega) hk)
  have HZ := Lib.hid hz
  have HZ3 := Lib.hid hz3
  have HCB := Lib.hid (bk_cells hrow)
  clear hz hb3 hrow hb13 hb2 ho hz3
  go_wp2_with fail
  generalize w2.alloc (sO L.length (.slice p1 B.length c1) (.slice p2 0 c2)) = w3 at *
  have H2 := Lib.hid (HBW.out w3 (Below.refl _ _) lo hi HLH.out)
  refine H2.out.mono ?_
  clear H2
  rintro e w4 ⟨rfl, hb4⟩
  have HB4 := Lib.hid hb4
  obtain ⟨s1, hs1⟩ : ∃ s, s = (btw lo hi B).1 := ⟨_, rfl⟩
  obtain ⟨s2, hs2⟩ : ∃ s, s = (btw lo hi B).2.1 := ⟨_, rfl⟩
  obtain ⟨s3, hs3⟩ : ∃ s, s = (btw lo hi B).2.2 := ⟨_, rfl⟩
  rw [← hs1, ← hs3] at HTR
  rw [← hs1, ← hs2, ← hs3] at HBD ⊢
  clear hs1 hs2 hs3 hb4 d0 d1 d2 a0 a1
  go_wp2_with fail
  go_loopw [11, 13] (fun a i wr => ∃ k : Nat, k ≤ L.length ∧ i = .int .i64 k ∧ a = .int .i64 (cnt lo hi (L.take k) : Int) ∧ ∃ nq, wr = w4.drewN nq) (fun _ i _ => L.length - (intOf i).toNat)
  case atStart => exact ⟨0, Nat.zero_le _, rfl, by simp [cnt], 0, rfl⟩
  case round =>
    obtain ⟨k, hk, rfl, rfl, nq, rfl⟩ := hrel
    have HD : Hid (Below w4.heap.size w4 (w4.drewN nq)) := Lib.hid ⟨rfl, rfl, rfl, Nat.le_refl _, fun _ _ => rfl⟩
    have HD3 : Hid (Below w3.heap.size w3 (w4.drewN nq)) := Lib.hid (HB4.out.trans (HD.out.mono HB4.out.size))
    have HNQ : Hid (∀ n, ∃ nq', (w4.drewN nq).drewN n = w4.drewN nq') := Lib.hid (fun n => ⟨nq + n, World.drewN_drewN ..⟩)
    by_cases hlt : k < L.length
    · obtain ⟨g, off, rfl, _, hc⟩ := HC.out k hlt
      have hcell := hc (w4.drewN nq) (HB3.out.trans (HD3.out.mono HB3.out.size))
      have hz3 := (HD3.out.block _ (Rk.lt_of_block HZ3.out)).trans HZ3.out
      have a0 : (w4.drewN nq).cell? ⟨w.heap.size, 0, none⟩ = some (.int .i64 lo) := by rw [Lib.cell_of_heap hz3]; rfl
      have a1 : (w4.drewN nq).cell? ⟨w.heap.size, 1, none⟩ = some (.int .i64 hi) := by rw [Lib.cell_of_heap hz3]; rfl
      have hn := cnt_next (lo := lo) (hi := hi) hlt
      have hle := cnt_le lo hi (L.take k)
      rw [List.length_take] at hle
      have hlt' : (k : Int) < (L.length : Int) := by omega
      generalize L[k] = x at hcell hn
      generalize cnt lo hi (L.take k) = q9 at *
      have hq : wrap64 ((q9 : Int) + 1) = ((q9 + 1 : Nat) : Int) := by rw [wrap64_in _ (by have := HLB.out; omega)]; rfl
      have HQ := Lib.hid hq
      have HN := Lib.hid hn
      clear hc hle hn hz3 hq
      generalize w4.drewN nq = wo at *
      by_cases h1 : lo ≤ x
      · by_cases h2 : x ≤ hi
        · have g1 : decide (lo ≤ x) = true := by simpa using h1
          have g2 : decide (x ≤ hi) = true := by simpa using h2
          rw [if_pos ⟨h1, h2⟩] at HN
          clear h1 h2
          go_wp2_with fail
          go_quiet (fail)
          go_wp2_with fail
          go_roundw
          case rel => exact ⟨k + 1, by omega, congrArg _ (wrap_s HML.out hlt), by rw [HN.out]; exact congrArg _ HQ.out, HNQ.out _⟩
          case measure =>
            rw [wrap_s HML.out hlt]
            exact int_less hlt
        · have g1 : decide (lo ≤ x) = true := by simpa using h1
          have g2 : decide (x ≤ hi) = false := by simpa using h2
          rw [if_neg (fun c => h2 c.2)] at HN
          clear h1 h2
          go_wp2_with fail
          go_quiet (fail)
          go_wp2_with fail
          go_roundw
          case rel => exact ⟨k + 1, by omega, congrArg _ (wrap_s HML.out hlt), by rw [HN.out]; rfl, HNQ.out _⟩
          case measure =>
            rw [wrap_s HML.out hlt]
            exact int_less hlt
      · have g1 : decide (lo ≤ x) = false := by simpa using h1
        rw [if_neg (fun c => h1 c.1)] at HN
        clear h1
        go_wp2_with fail
        go_quiet (fail)
        go_wp2_with fail
        go_roundw
        case rel => exact ⟨k + 1, by omega, congrArg _ (wrap_s HML.out hlt), by rw [HN.out]; rfl, HNQ.out _⟩
        case measure =>
          rw [wrap_s HML.out hlt]
          exact int_less hlt
    · obtain rfl : k = L.length := by omega
      rw [List.take_length]
      generalize cnt lo hi L = q9 at *
      have hz4 := (HD3.out.block _ (Rk.lt_of_block HZ.out)).trans HZ.out
      have d0 : (w4.drewN nq).cell? ⟨w2.heap.size, 0, none⟩ = some (.int .i64 (L.length : Int)) := by rw [Lib.cell_of_heap hz4]; rfl
      have d1 : (w4.drewN nq).cell? ⟨w2.heap.size, 1, none⟩ = some (.slice p1 B.length c1) := by rw [Lib.cell_of_heap hz4]; rfl
      have d2 : (w4.drewN nq).cell? ⟨w2.heap.size, 2, none⟩ = some (.slice p2 0 c2) := by rw [Lib.cell_of_heap hz4]; rfl
      clear hlt hk HC HNQ HD hz4
      generalize w4.drewN nq = w5 at *
      go_wp2_with fail
      go_loop [12, 14] (fun a i => ∃ k : Nat, k ≤ B.length ∧ i = .int .i64 k ∧ a = .int .i64 (cSum (B.take k))) (fun _ i => B.length - (intOf i).toNat)
      case atStart => exact ⟨0, Nat.zero_le _, rfl, by simp [cSum]⟩
      case round =>
        obtain ⟨k, hk, rfl, rfl⟩ := hrel
        by_cases hlt : k < B.length
        · obtain ⟨g, off, rfl, hc⟩ := HCB.out k hlt
          obtain ⟨_, _, c0, _⟩ := hc _ HD3.out
          have hn := cSum_next hlt
          have h1 := cSum_mono HOK.out (k + 1) (by omega)
          have h2 := cSum_mono HOK.out k (by omega)
          have hlt' : (k : Int) < (B.length : Int) := by omega
          generalize B[k].2.2.1 = x at c0 hn
          rw [HSM.out] at h1
          rw [hn] at h1
          have HWS := Lib.hid (show wrap64 (cSum (B.take k) + x) = cSum (B.take k) + x from wrap64_in _ (by have := HLB.out; omega))
          have HN := Lib.hid hn
          clear hc hn h1 h2
          generalize cSum (B.take k) = q8 at *
          go_wp2_with fail
          go_round
          case rel => exact ⟨k + 1, by omega, congrArg _ (wrap_s HBM.out hlt), by rw [HN.out]; exact congrArg _ HWS.out⟩
          case measure =>
            rw [wrap_s HBM.out hlt]
            exact int_less hlt
        · obtain rfl : k = B.length := by omega
          rw [List.take_length, HSM.out]
          have H3 := HBW.out w5 HD3.out (-9223372036854775808) 9223372036854775807 ⟨⟨by decide, by decide⟩, by decide, by decide⟩
          rw [HWH.out] at H3
          have H3 := Lib.hid H3
          have hd := HBD.out
          have ht := HTR.out
          have g1 : decide (s1 ≤ (q9 : Int)) = true := by simpa using ht.1
          have g2 : decide ((q9 : Int) ≤ s3) = true := by simpa using ht.2
          have g3 : decide (s1 ≤ s2) = true := by simpa using hd.2.1
          have g4 : decide (s2 ≤ s3) = true := by simpa using hd.2.2.1
          clear hd ht HBW HCB HBD HTR HWH
          go_wp2_with fail
          refine H3.out.mono ?_
          clear H3
          rintro e w6 ⟨rfl, hb6⟩
          have HB6 : Hid (Below w.heap.size w w6) := Lib.hid (by
            have h1 := HB3.out.trans (HD3.out.mono HB3.out.size)
            exact h1.trans (hb6.mono h1.size))
          have hz6 := (hb6.block _ (Nat.lt_of_lt_of_le (Rk.lt_of_block HZ.out) HD3.out.size)).trans ((HD3.out.block _ (Rk.lt_of_block HZ.out)).trans HZ.out)
          have f0 : w6.cell? ⟨w2.heap.size, 0, none⟩ = some (.int .i64 (L.length : Int)) := by rw [Lib.cell_of_heap hz6]; rfl
          have HA := Lib.hid (awake_yes w6)
          have gl : ((L.length : Int) == (L.length : Int)) = true := by simp
          clear hb6 hz6
          go_wp2_with fail
          refine HA.out.mono ?_
          clear HA
          rintro e w7 ⟨rfl, hb7⟩
          have HB7 := Lib.hid (HB6.out.trans (hb7.mono HB6.out.size))
          clear hb7
          go_wp2_with fail
          go_ret
          exact ⟨rfl, HB7.out⟩
end Ss
end Go.Proofs.Ytmkilmglmeohmaa
