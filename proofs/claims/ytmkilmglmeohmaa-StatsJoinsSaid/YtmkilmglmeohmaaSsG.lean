/- The program's size, share, Between, Word. Conditions: those that each theorem names. -/
import Derived.Test.YtmkilmglmeohmaaSsF
import Derived.Test.YtmkilmglmeohmaaSsPl3
import Derived.WalkMore
namespace Go.Proofs.Ytmkilmglmeohmaa
set_option linter.unusedVariables false
open Go Go.RowKit Go.Sort
namespace Ss
theorem size_wrap {lo hi : Int} (h1 : -9223372036854775808 ≤ lo) (h2 : lo ≤ hi) (h3 : hi ≤ 9223372036854775807) :
    (hi - lo + 1 ≤ 9223372036854775807 → wrap64 (wrap64 (hi - lo) + 1) = hi - lo + 1) ∧ (¬ hi - lo + 1 ≤ 9223372036854775807 → ¬ 0 < wrap64 (wrap64 (hi - lo) + 1)) := by
  refine ⟨fun h => ?_, fun h => ?_⟩
  · rw [wrap64_in (hi - lo) (by omega)]; exact wrap64_in _ (by omega)
  · by_cases he : hi - lo = 9223372036854775807
    · rw [he]; decide +kernel
    · have e : wrap64 (hi - lo) = hi - lo - 18446744073709551616 := by unfold wrap64; omega
      rw [e, wrap64_in _ (by omega)]
      omega
theorem size_fit (lo hi : Int) (w : World) (h1 : -9223372036854775808 ≤ lo) (h2 : lo ≤ hi) (h3 : hi ≤ 9223372036854775807) (hf : hi - lo + 1 ≤ 9223372036854775807) :
    Calls Try.prog 29 #[.int .i64 lo, .int .i64 hi] w fun e w' => e = .returned (.tuple #[.int .i64 (hi - lo + 1), .bool true]) ∧ w = w' := by
  have e := (size_wrap h1 h2 h3).1 hf
  have hp : (0 : Int) < hi - lo + 1 := by omega
  clear h1 h2 h3 hf
  generalize hi - lo + 1 = d at *
  go_enter Try.func29, Try.ntmps29
  go_wp2
  go_ret2
  exact ⟨by rw [← e]; rfl, rfl⟩
theorem size_over (lo hi : Int) (w : World) (h1 : -9223372036854775808 ≤ lo) (h2 : lo ≤ hi) (h3 : hi ≤ 9223372036854775807) (hf : ¬ hi - lo + 1 ≤ 9223372036854775807) :
    Calls Try.prog 29 #[.int .i64 lo, .int .i64 hi] w fun e w' => e = .returned (.tuple #[.int .i64 (wrap64 (wrap64 (hi - lo) + 1)), .bool false]) ∧ w = w' := by
  have e := (size_wrap h1 h2 h3).2 hf
  obtain ⟨z, hz⟩ : ∃ z, wrap64 (wrap64 (hi - lo) + 1) = z := ⟨_, rfl⟩
  rw [hz] at e ⊢
  clear h1 h2 h3 hf
  go_enter Try.func29, Try.ntmps29
  go_wp2
  go_ret2
  exact ⟨rfl, rfl⟩
theorem shr_half1 {b : Bk} {f t : Int} (h : ¬ b.2.1 - b.1 + 1 ≤ 9223372036854775807) : shr b f t = b.2.2.1 / 2 := by unfold shr; rw [if_neg h]
theorem shr_half2 {b : Bk} {f t : Int} (h : ¬ b.2.2.1 * (t - f + 1) ≤ 9223372036854775807) : shr b f t = b.2.2.1 / 2 := by unfold shr; rw [if_neg h]; split <;> rfl
theorem shr_quo {b : Bk} {f t : Int} (h1 : b.2.1 - b.1 + 1 ≤ 9223372036854775807) (h : b.2.2.1 * (t - f + 1) ≤ 9223372036854775807) : shr b f t = b.2.2.1 * (t - f + 1) / (b.2.1 - b.1 + 1) := by unfold shr; rw [if_pos h1, if_pos h]
theorem half_run {c : Int} (h : 0 ≤ c) (h' : c ≤ 9223372036854775807) : wrap64 (c.tdiv 2) = c / 2 := by rw [quo_pos h]; exact wrap64_in _ (by omega)
abbrev bO (lo hi c kd : Int) : Obj := .cells #[.int .i64 lo, .int .i64 hi, .int .i64 c, .int .i64 kd] 36
set_option maxHeartbeats 2000000 in
set_option maxRecDepth 100000 in
theorem share_any (lo hi c kd f t : Int) (w : World) (hb : OkBk (lo, hi, c, kd)) (hc : c ≤ 4611686018427387904) (h1 : lo ≤ f) (h2 : f ≤ t) (h3 : t ≤ hi) :
    Calls Try.prog 21 #[.agg #[.int .i64 lo, .int .i64 hi, .int .i64 c, .int .i64 kd], .int .i64 f, .int .i64 t] w fun e w' => e = .returned (.int .i64 (shr (lo, hi, c, kd) f t)) ∧ Below w.heap.size w w' := by
  obtain ⟨b1, b2, b3, b4⟩ := hb
  simp only at b1 b2 b3 b4
  have hz := Rk.heap_last w (bO lo hi c kd)
  have q0 : (w.alloc (bO lo hi c kd)).cell? ⟨w.heap.size, 0, none⟩ = some (.int .i64 lo) := by rw [Lib.cell_of_heap hz]; rfl
  have q1 : (w.alloc (bO lo hi c kd)).cell? ⟨w.heap.size, 1, none⟩ = some (.int .i64 hi) := by rw [Lib.cell_of_heap hz]; rfl
  have q2 : (w.alloc (bO lo hi c kd)).cell? ⟨w.heap.size, 2, none⟩ = some (.int .i64 c) := by rw [Lib.cell_of_heap hz]; rfl
  have HB := Lib.hid (Rk.fresh_alloc w (bO lo hi c kd))
  have hh := half_run (c := c) b4 (by omega)
  have HHH := Lib.hid hh
  by_cases hf : hi - lo + 1 ≤ 9223372036854775807
  · have C1 := Lib.hid (fun W => size_fit lo hi W b1 b2 b3 hf)
    have C2 := Lib.hid (fun W => size_fit f t W (by omega) h2 (by omega) (by omega))
    by_cases hm : c * (t - f + 1) ≤ 9223372036854775807
    · have hp : 0 ≤ c * (t - f + 1) := Int.mul_nonneg b4 (by omega)
      have C3 := Lib.hid (fun W => mul_fit c (t - f + 1) W (by omega) (by omega) (by omega) hm)
      have hs := shr_quo (b := (lo, hi, c, kd)) (f := f) (t := t) hf hm
      have hbd := shr_bd (b := (lo, hi, c, kd)) (f := f) (t := t) ⟨b1, b2, b3, b4⟩ h1 h2 h3
      rw [hs] at hbd ⊢
      simp only at hbd ⊢
      have HQ : Hid (wrap64 ((c * (t - f + 1)).tdiv (hi - lo + 1)) = c * (t - f + 1) / (hi - lo + 1)) := Lib.hid (by rw [quo_pos hp]; exact wrap64_in _ (by omega))
      have hd : ¬ hi - lo + 1 = 0 := by omega
      clear hz b1 b2 b3 b4 hc h1 h2 h3 hf hm hp hs hbd hh
      generalize hi - lo + 1 = d at *
      generalize t - f + 1 = u at *
      generalize c * u = pr at *
      go_enter Try.func21, Try.ntmps21
      go_wp2_with (first
        | (go_at_call 29; refine (C1.out _).mono ?_; clear C1; rintro e w2 ⟨rfl, rfl⟩)
        | (go_at_call 29; refine (C2.out _).mono ?_; clear C2; rintro e w2 ⟨rfl, rfl⟩)
        | (go_at_call 30; refine (C3.out _).mono ?_; rintro e w2 ⟨rfl, rfl⟩))
      go_ret
      exact ⟨retI HQ.out.symm, HB.out⟩
    · have C3 := Lib.hid (fun W => mul_over c (t - f + 1) W (by omega) (by omega) (by omega))
      rw [shr_half2 (b := (lo, hi, c, kd)) hm]
      simp only
      clear hz b1 b2 b3 b4 hc h1 h2 h3 hf hm hh
      generalize hi - lo + 1 = d at *
      generalize t - f + 1 = u at *
      go_enter Try.func21, Try.ntmps21
      go_wp2_with (first
        | (go_at_call 29; refine (C1.out _).mono ?_; clear C1; rintro e w2 ⟨rfl, rfl⟩)
        | (go_at_call 29; refine (C2.out _).mono ?_; clear C2; rintro e w2 ⟨rfl, rfl⟩)
        | (go_at_call 30; refine (C3.out _).mono ?_; rintro e w2 ⟨rfl, rfl⟩))
      go_ret
      exact ⟨retI HHH.out.symm, HB.out⟩
  · have C1 := Lib.hid (fun W => size_over lo hi W b1 b2 b3 hf)
    rw [shr_half1 (b := (lo, hi, c, kd)) hf]
    simp only
    clear hz b1 b2 b3 b4 hc h1 h2 h3 hf hh
    generalize wrap64 (wrap64 (hi - lo) + 1) = d at *
    go_enter Try.func21, Try.ntmps21
    go_wp2_with (go_at_call 29; refine (C1.out _).mono ?_; rintro e w2 ⟨rfl, rfl⟩)
    go_ret
    exact ⟨retI HHH.out.symm, HB.out⟩
abbrev OkLow (low high : Int) : Prop := (-9223372036854775808 ≤ low ∧ low ≤ 9223372036854775807) ∧ (-9223372036854775808 ≤ high ∧ high ≤ 9223372036854775807)
abbrev BksAt (w : World) (v : Value) (L : List Bk) : Prop := Rk.RowAt encB 4 w v L
abbrev sO (n : Int) (b x : Value) : Obj := .cells #[.int .i64 n, b, x] 27
theorem bk_cells {w : World} {p : Option Addr} {c n : Nat} {L : List Bk} (h : BksAt w (.slice p n c) L) : ∀ k (hk : k < L.length), ∃ b off, p = some ⟨b, off, none⟩ ∧ ∀ wr, Below w.heap.size w wr → wr.cell? ⟨b, off + k * 4, none⟩ = some (.int .i64 L[k].1) ∧ wr.cell? ⟨b, off + k * 4 + 1, none⟩ = some (.int .i64 L[k].2.1) ∧ wr.cell? ⟨b, off + k * 4 + 2, none⟩ = some (.int .i64 L[k].2.2.1) ∧ wr.cell? ⟨b, off + k * 4 + 3, none⟩ = some (.int .i64 L[k].2.2.2) := by
  intro k hk
  rcases h with ⟨h0, _⟩ | ⟨b, off, c2, e, hb, hc⟩
  · subst h0; simp at hk
  · injection e with e1
    refine ⟨b, off, e1, fun wr hw => ?_⟩
    have hh := hc wr (hw.block b hb) k hk
    exact ⟨hh 0 _ rfl, hh 1 _ rfl, hh 2 _ rfl, hh 3 _ rfl⟩
theorem stB_miss {low high : Int} {s : Int × Int × Int} {b : Bk} (h : max low b.1 > min high b.2.1) : stB low high s b = s := by unfold stB; rw [if_pos h]
theorem stB_part {low high : Int} {s : Int × Int × Int} {b : Bk} (h : ¬ max low b.1 > min high b.2.1) (h2 : max low b.1 > b.1 ∨ min high b.2.1 < b.2.1) : stB low high s b = (s.1, s.2.1 + shr b (max low b.1) (min high b.2.1), s.2.2 + b.2.2.1) := by unfold stB; rw [if_neg h, if_pos h2]
theorem stB_all {low high : Int} {s : Int × Int × Int} {b : Bk} (h : ¬ max low b.1 > min high b.2.1) (h2 : ¬ (max low b.1 > b.1 ∨ min high b.2.1 < b.2.1)) : stB low high s b = (s.1 + b.2.2.1, s.2.1 + b.2.2.1, s.2.2 + b.2.2.1) := by unfold stB; rw [if_neg h, if_neg h2]
set_option maxHeartbeats 4000000 in
set_option maxRecDepth 100000 in
theorem between_any (B : List Bk) (v y : Value) (N low high : Int) (w : World) (h : BksAt w v B) (hl : B.length ≤ maxLen) (hB : ∀ b ∈ B, OkBk b) (hs : cSum B ≤ 4611686018427387904) (hlh : OkLow low high) :
    Calls Try.prog 11 #[.agg #[.int .i64 N, v, y], .int .i64 low, .int .i64 high] w fun e w' => e = .returned (.tuple #[.int .i64 (btw low high B).1, .int .i64 (btw low high B).2.1, .int .i64 (btw low high B).2.2]) ∧ Below w.heap.size w w' := by
  obtain ⟨p, c, rfl⟩ := h.form
  have hz := Rk.heap_last w (sO N (.slice p B.length c) y)
  have q1 : (w.alloc (sO N (.slice p B.length c) y)).cell? ⟨w.heap.size, 1, none⟩ = some (.slice p B.length c) := by rw [Lib.cell_of_heap hz]; rfl
  have hb0 := Rk.fresh_alloc w (sO N (.slice p B.length c) y)
  have HC := Lib.hid (bk_cells (h.below hb0))
  have HB0 := Lib.hid hb0
  have HML := Lib.hid hl
  have HOK := Lib.hid hB
  have HS := Lib.hid hs
  have HLH := Lib.hid hlh
  obtain ⟨n, hn⟩ : ∃ n, n = B.length := ⟨_, rfl⟩
  have HN := Lib.hid hn
  clear hz h hl hB hs hlh hb0 hn
  go_enter Try.func11, Try.ntmps11
  go_wp2_with fail
  generalize w.alloc (sO N (.slice p B.length c) y) = w1 at *
  go_loopw [9, 10, 11, 13, 14, 15, 19] (fun a b c x f t i wr => ∃ k : Nat, k ≤ B.length ∧ i = .int .i64 k ∧ a = .int .i64 (btw low high (B.take k)).1 ∧ b = .int .i64 (btw low high (B.take k)).2.1 ∧ c = .int .i64 (btw low high (B.take k)).2.2 ∧ Below w1.heap.size w1 wr) (fun _ _ _ _ _ _ i _ => B.length - (intOf i).toNat)
  case atStart => exact ⟨0, Nat.zero_le _, rfl, rfl, rfl, rfl, Below.refl _ _⟩
  case round =>
    obtain ⟨k, hk, rfl, rfl, rfl, rfl, hb⟩ := hrel
    have HB := Lib.hid hb
    clear hb
    obtain ⟨wo, rfl⟩ : ∃ wo : World, wo = wr := ⟨_, rfl⟩
    by_cases hlt : k < B.length
    · obtain ⟨g, off, rfl, hc⟩ := HC.out k hlt
      obtain ⟨c0, c1, c2, c3⟩ := hc wo HB.out
      have hn := btw_next (low := low) (high := high) hlt
      have hok := HOK.out B[k] (List.getElem_mem hlt)
      have hbd := btw_bd (low := low) (high := high) HOK.out k (by omega)
      have hbd2 := btw_bd (low := low) (high := high) HOK.out (k + 1) (by omega)
      have hm2 := cSum_mono HOK.out (k + 1) (by omega)
      have hlt' : (k : Int) < (B.length : Int) := by omega
      generalize B[k] = x at c0 c1 c2 c3 hn hok
      obtain ⟨lo, hi, ct, kd⟩ := x
      simp only at c0 c1 c2 c3
      generalize btw low high (B.take k) = s at *
      obtain ⟨s1, s2, s3⟩ := s
      have hz := Rk.heap_last wo (bO lo hi ct kd)
      have q0 : (wo.alloc (bO lo hi ct kd)).cell? ⟨wo.heap.size, 0, none⟩ = some (.int .i64 lo) := by rw [Lib.cell_of_heap hz]; rfl
      have q1 : (wo.alloc (bO lo hi ct kd)).cell? ⟨wo.heap.size, 1, none⟩ = some (.int .i64 hi) := by rw [Lib.cell_of_heap hz]; rfl
      have q2 : (wo.alloc (bO lo hi ct kd)).cell? ⟨wo.heap.size, 2, none⟩ = some (.int .i64 ct) := by rw [Lib.cell_of_heap hz]; rfl
      have q3 : (wo.alloc (bO lo hi ct kd)).cell? ⟨wo.heap.size, 3, none⟩ = some (.int .i64 kd) := by rw [Lib.cell_of_heap hz]; rfl
      have HB2 : Hid (Below w1.heap.size w1 (wo.alloc (bO lo hi ct kd))) := Lib.hid (HB.out.alloc HB.out.size _)
      have HN2 := Lib.hid hn
      have HOKX := Lib.hid hok
      obtain ⟨F, hF⟩ : ∃ F, max low lo = F := ⟨_, rfl⟩
      obtain ⟨T, hT⟩ : ∃ T, min high hi = T := ⟨_, rfl⟩
      have HBD := Lib.hid hbd
      have HBD2 := Lib.hid hbd2
      have HM2 := Lib.hid hm2
      have hct : ¬ ct < 0 := by have := hok.2.2.2; simp only at this; omega
      have HF := Lib.hid hF
      have HT := Lib.hid hT
      clear hz hn hok hbd hbd2 hm2 hc
      by_cases hm : F > T
      · have hst : btw low high (B.take (k + 1)) = (s1, s2, s3) := by rw [HN2.out]; exact stB_miss (by simp only; rw [HF.out, HT.out]; exact hm)
        have HST := Lib.hid hst
        clear hst
        go_upto_region 5 with fail
        go_region
        have e0 : (wo.alloc (bO lo hi ct kd)).drew.cell? ⟨wo.heap.size, 0, none⟩ = some (.int .i64 lo) := q0
        have e1 : (wo.alloc (bO lo hi ct kd)).drew.cell? ⟨wo.heap.size, 1, none⟩ = some (.int .i64 hi) := q1
        have e2 : (wo.alloc (bO lo hi ct kd)).drew.cell? ⟨wo.heap.size, 2, none⟩ = some (.int .i64 ct) := q2
        have e3 : (wo.alloc (bO lo hi ct kd)).drew.cell? ⟨wo.heap.size, 3, none⟩ = some (.int .i64 kd) := q3
        have HBD3 : Hid (Below w1.heap.size w1 (wo.alloc (bO lo hi ct kd)).drew) := Lib.hid HB2.out.drew
        clear q0 q1 q2 q3 HB2 c0 c1 c2 c3
        generalize (wo.alloc (bO lo hi ct kd)).drew = wd at *
        go_wp2_with fail
        go_roundw
        case rel => exact ⟨k + 1, by omega, congrArg _ (wrap_s HML.out hlt), by rw [HST.out] <;> first | exact congrArg _ W1.out | rfl, by rw [HST.out] <;> first | exact congrArg _ W2.out | rfl, by rw [HST.out] <;> first | exact congrArg _ W3.out | rfl, HBD3.out⟩
        case measure =>
          rw [wrap_s HML.out hlt]
          exact int_less hlt
      · have hft : F ≤ T := by omega
        have hlo : lo ≤ F := by omega
        have hhi : T ≤ hi := by omega
        have h3 := HBD.out
        have h3' := HBD2.out
        have hS := HS.out
        have hM := HM2.out
        have hoK := HOKX.out
        obtain ⟨k1, k2, k3, k4⟩ := hoK
        simp only at k1 k2 k3 k4 h3
        by_cases hp : F > lo ∨ T < hi
        · have hst : btw low high (B.take (k + 1)) = (s1, s2 + shr (lo, hi, ct, kd) F T, s3 + ct) := by rw [HN2.out, ← HF.out, ← HT.out]; exact stB_part (by simp only; rw [HF.out, HT.out]; exact hm) (by simp only; rw [HF.out, HT.out]; exact hp)
          rw [hst] at h3'
          simp only at h3'
          have hsb := shr_bd (b := (lo, hi, ct, kd)) (f := F) (t := T) HOKX.out hlo hft hhi
          simp only at hsb
          have CS := Lib.hid (fun W => share_any lo hi ct kd F T W HOKX.out (by omega) hlo hft hhi)
          have HST := Lib.hid hst
          obtain ⟨z, hz⟩ : ∃ z, z = shr (lo, hi, ct, kd) F T := ⟨_, rfl⟩
          rw [← hz] at CS hsb h3' HST
          have W3 := Lib.hid (show wrap64 (s3 + ct) = s3 + ct from wrap64_in _ (by omega))
          have W2 := Lib.hid (show wrap64 (s2 + z) = s2 + z from wrap64_in _ (by omega))
          clear hst hz h3 h3' hS hM k1 k2 k3 k4 hsb hlo hhi HBD HBD2 HM2 HOKX HN2 HF HT hm
          rcases hp with hp | hp
          · have hlf : lo < F := hp
            go_upto_region 5 with fail
            go_region
            have e0 : (wo.alloc (bO lo hi ct kd)).drew.cell? ⟨wo.heap.size, 0, none⟩ = some (.int .i64 lo) := q0
            have e1 : (wo.alloc (bO lo hi ct kd)).drew.cell? ⟨wo.heap.size, 1, none⟩ = some (.int .i64 hi) := q1
            have e2 : (wo.alloc (bO lo hi ct kd)).drew.cell? ⟨wo.heap.size, 2, none⟩ = some (.int .i64 ct) := q2
            have e3 : (wo.alloc (bO lo hi ct kd)).drew.cell? ⟨wo.heap.size, 3, none⟩ = some (.int .i64 kd) := q3
            have HBD3 : Hid (Below w1.heap.size w1 (wo.alloc (bO lo hi ct kd)).drew) := Lib.hid HB2.out.drew
            clear q0 q1 q2 q3 HB2 c0 c1 c2 c3
            generalize (wo.alloc (bO lo hi ct kd)).drew = wd at *
            have W3' := W3.out
            have W2' := W2.out
            go_wp2_with (go_at_call 21; refine (CS.out _).mono ?_; rintro e w5 ⟨rfl, hb5⟩)
            go_roundw
            case rel => exact ⟨k + 1, by omega, congrArg _ (wrap_s HML.out hlt), by rw [HST.out] <;> first | exact congrArg _ W1.out | rfl, by rw [HST.out] <;> first | exact congrArg _ W2.out | rfl, by rw [HST.out] <;> first | exact congrArg _ W3.out | rfl, HBD3.out.trans (hb5.mono HBD3.out.size)⟩
            case measure =>
              rw [wrap_s HML.out hlt]
              exact int_less hlt
          · by_cases hlf : lo < F
            · have hx1 : True := trivial
              go_upto_region 5 with fail
              go_region
              have e0 : (wo.alloc (bO lo hi ct kd)).drew.cell? ⟨wo.heap.size, 0, none⟩ = some (.int .i64 lo) := q0
              have e1 : (wo.alloc (bO lo hi ct kd)).drew.cell? ⟨wo.heap.size, 1, none⟩ = some (.int .i64 hi) := q1
              have e2 : (wo.alloc (bO lo hi ct kd)).drew.cell? ⟨wo.heap.size, 2, none⟩ = some (.int .i64 ct) := q2
              have e3 : (wo.alloc (bO lo hi ct kd)).drew.cell? ⟨wo.heap.size, 3, none⟩ = some (.int .i64 kd) := q3
              have HBD3 : Hid (Below w1.heap.size w1 (wo.alloc (bO lo hi ct kd)).drew) := Lib.hid HB2.out.drew
              clear q0 q1 q2 q3 HB2 c0 c1 c2 c3
              generalize (wo.alloc (bO lo hi ct kd)).drew = wd at *
              have W3' := W3.out
              have W2' := W2.out
              go_wp2_with (go_at_call 21; refine (CS.out _).mono ?_; rintro e w5 ⟨rfl, hb5⟩)
              go_roundw
              case rel => exact ⟨k + 1, by omega, congrArg _ (wrap_s HML.out hlt), by rw [HST.out] <;> first | exact congrArg _ W1.out | rfl, by rw [HST.out] <;> first | exact congrArg _ W2.out | rfl, by rw [HST.out] <;> first | exact congrArg _ W3.out | rfl, HBD3.out.trans (hb5.mono HBD3.out.size)⟩
              case measure =>
                rw [wrap_s HML.out hlt]
                exact int_less hlt
            · have hx1 : True := trivial
              go_upto_region 5 with fail
              go_region
              have e0 : (wo.alloc (bO lo hi ct kd)).drew.cell? ⟨wo.heap.size, 0, none⟩ = some (.int .i64 lo) := q0
              have e1 : (wo.alloc (bO lo hi ct kd)).drew.cell? ⟨wo.heap.size, 1, none⟩ = some (.int .i64 hi) := q1
              have e2 : (wo.alloc (bO lo hi ct kd)).drew.cell? ⟨wo.heap.size, 2, none⟩ = some (.int .i64 ct) := q2
              have e3 : (wo.alloc (bO lo hi ct kd)).drew.cell? ⟨wo.heap.size, 3, none⟩ = some (.int .i64 kd) := q3
              have HBD3 : Hid (Below w1.heap.size w1 (wo.alloc (bO lo hi ct kd)).drew) := Lib.hid HB2.out.drew
              clear q0 q1 q2 q3 HB2 c0 c1 c2 c3
              generalize (wo.alloc (bO lo hi ct kd)).drew = wd at *
              have W3' := W3.out
              have W2' := W2.out
              go_wp2_with (go_at_call 21; refine (CS.out _).mono ?_; rintro e w5 ⟨rfl, hb5⟩)
              go_roundw
              case rel => exact ⟨k + 1, by omega, congrArg _ (wrap_s HML.out hlt), by rw [HST.out] <;> first | exact congrArg _ W1.out | rfl, by rw [HST.out] <;> first | exact congrArg _ W2.out | rfl, by rw [HST.out] <;> first | exact congrArg _ W3.out | rfl, HBD3.out.trans (hb5.mono HBD3.out.size)⟩
              case measure =>
                rw [wrap_s HML.out hlt]
                exact int_less hlt
        · have hst : btw low high (B.take (k + 1)) = (s1 + ct, s2 + ct, s3 + ct) := by rw [HN2.out]; exact stB_all (by simp only; rw [HF.out, HT.out]; exact hm) (by simp only; rw [HF.out, HT.out]; exact hp)
          rw [hst] at h3'
          simp only at h3'
          have HST := Lib.hid hst
          have W3 := Lib.hid (show wrap64 (s3 + ct) = s3 + ct from wrap64_in _ (by omega))
          have W2 := Lib.hid (show wrap64 (s2 + ct) = s2 + ct from wrap64_in _ (by omega))
          have W1 := Lib.hid (show wrap64 (s1 + ct) = s1 + ct from wrap64_in _ (by omega))
          have hlf : ¬ lo < F := by omega
          have hth : ¬ T < hi := by omega
          clear hst h3 h3' hS hM k1 k2 k3 k4 hlo hhi HBD HBD2 HM2 HOKX HN2 HF HT hm hp
          go_upto_region 5 with fail
          go_region
          have e0 : (wo.alloc (bO lo hi ct kd)).drew.cell? ⟨wo.heap.size, 0, none⟩ = some (.int .i64 lo) := q0
          have e1 : (wo.alloc (bO lo hi ct kd)).drew.cell? ⟨wo.heap.size, 1, none⟩ = some (.int .i64 hi) := q1
          have e2 : (wo.alloc (bO lo hi ct kd)).drew.cell? ⟨wo.heap.size, 2, none⟩ = some (.int .i64 ct) := q2
          have e3 : (wo.alloc (bO lo hi ct kd)).drew.cell? ⟨wo.heap.size, 3, none⟩ = some (.int .i64 kd) := q3
          have HBD3 : Hid (Below w1.heap.size w1 (wo.alloc (bO lo hi ct kd)).drew) := Lib.hid HB2.out.drew
          clear q0 q1 q2 q3 HB2 c0 c1 c2 c3
          generalize (wo.alloc (bO lo hi ct kd)).drew = wd at *
          have W3' := W3.out
          have W2' := W2.out
          have W1' := W1.out
          go_wp2_with fail
          go_roundw
          case rel => exact ⟨k + 1, by omega, congrArg _ (wrap_s HML.out hlt), by rw [HST.out] <;> first | exact congrArg _ W1.out | rfl, by rw [HST.out] <;> first | exact congrArg _ W2.out | rfl, by rw [HST.out] <;> first | exact congrArg _ W3.out | rfl, HBD3.out⟩
          case measure =>
            rw [wrap_s HML.out hlt]
            exact int_less hlt
    · obtain rfl : k = B.length := by omega
      rw [List.take_length]
      go_wp2_with fail
      go_ret3
      exact ⟨rfl, HB0.out.trans (HB.out.mono HB0.out.size)⟩
end Ss
end Go.Proofs.Ytmkilmglmeohmaa
