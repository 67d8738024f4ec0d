/- The program's And and Or over any row, and the document's. Conditions: those that each theorem names. -/
import Derived.Test.YtmkilmglmeohmaaSsA
namespace Go.Proofs.Ytmkilmglmeohmaa
set_option linter.unusedVariables false
open Go Go.RowKit
namespace Ss
theorem andF_all (t n : Int) (L : List Int) : andF t (L.take L.length) n = andF t L n := by rw [List.take_length]
set_option maxHeartbeats 1000000 in
theorem and_any (t : Int) (L : List Int) (v : Value) (w : World) (h : IntsAt w v L) (hl : L.length ≤ maxLen) (ht : t ≤ 9223372036854775807) :
    Calls Try.prog 13 #[.int .i64 t, v] w fun e w' => e = .returned (.int .i64 (andL t L)) ∧ w = w' := by
  obtain ⟨p, c, rfl⟩ := h.form
  have HC := Lib.hid (Rx.row_cells h)
  have HML := Lib.hid hl
  obtain ⟨T, hT⟩ : ∃ T, max t 0 = T := ⟨_, rfl⟩
  have HT := Lib.hid (show 0 ≤ T ∧ T ≤ 9223372036854775807 by omega)
  unfold andL
  rw [hT]
  clear h hl ht
  go_enter Try.func13, Try.ntmps13
  go_wp2
  go_loop [5, 7, 13] (fun n x i => ∃ k : Nat, k ≤ L.length ∧ i = .int .i64 k ∧ n = .int .i64 (andF T (L.take k) T)) (fun _ _ i => L.length - (intOf i).toNat)
  case atStart => exact ⟨0, Nat.zero_le _, rfl, rfl⟩
  case round =>
    obtain ⟨k, hk, rfl, rfl⟩ := hrel
    by_cases hlt : k < L.length
    · obtain ⟨b, off, rfl, _, hc⟩ := HC.out k hlt
      have hcell := hc w (Below.refl _ _)
      have hn := andF_next (t := T) (n := T) hlt
      have hb := (andF_bd HT.out.1 (L.take k) T HT.out.1 (Int.le_refl _))
      have hx := inn_bd (n := L[k]) HT.out.1
      have hlt' : (k : Int) < (L.length : Int) := by omega
      generalize L[k] = x at hcell hn hx
      have CW := Lib.hid (fun W => within_any x T W)
      have CS := Lib.hid (fun W => scaled_any (andF T (L.take k) T) (inn x T) T W hb.1 hb.2.1 hx.1 hx.2 HT.out.2)
      rw [← hn] at CS
      have HN := Lib.hid hn
      clear hc hn hb hx
      generalize andF T (L.take k) T = A at *
      generalize inn x T = X at *
      go_wp2_with (first
        | (go_at_call 24; refine (CW.out _).mono ?_; rintro e w' ⟨rfl, rfl⟩)
        | (go_at_call 23; refine (CS.out _).mono ?_; rintro e w' ⟨rfl, rfl⟩))
      go_round
      case rel => exact ⟨k + 1, by omega, congrArg _ (wrap_s HML.out hlt), rfl⟩
      case measure =>
        rw [wrap_s HML.out hlt]
        exact int_less hlt
    · obtain rfl : k = L.length := by omega
      rw [andF_all]
      go_wp2_with fail
      go_ret
      exact ⟨rfl, rfl⟩
set_option maxHeartbeats 1000000 in
theorem or_any (t : Int) (L : List Int) (v : Value) (w : World) (h : IntsAt w v L) (hl : L.length * 8 ≤ 140737488355328) (ht : t ≤ 9223372036854775807) :
    Calls Try.prog 14 #[.int .i64 t, v] w fun e w' => e = .returned (.int .i64 (orL t L)) ∧ Below w.heap.size w w' := by
  obtain ⟨p, c, rfl⟩ := h.form
  have HC := Lib.hid (Rx.row_cells h)
  have HS := Lib.hid hl
  have HML : Hid (L.length ≤ maxLen) := Lib.hid (by unfold maxLen; omega)
  obtain ⟨T, hT⟩ : ∃ T, max t 0 = T := ⟨_, rfl⟩
  have HT := Lib.hid (show 0 ≤ T ∧ T ≤ 9223372036854775807 by omega)
  unfold orL
  rw [hT]
  clear h hl ht
  go_enter Try.func14, Try.ntmps14
  go_wp2
  go_loopw [5, 7, 12] (fun o x i wr => ∃ k : Nat, k ≤ L.length ∧ i = .int .i64 k ∧ Own wr w.heap.size o (outs T (L.take k)) ∧ Below w.heap.size w wr) (fun _ _ i _ => L.length - (intOf i).toNat)
  case atStart => exact ⟨0, Nat.zero_le _, rfl, Rx.own_nil _ _, Below.refl _ _⟩
  case round =>
    obtain ⟨k, hk, rfl, ho, hb⟩ := hrel
    have HB := Lib.hid hb
    have HO := Lib.hid ho
    clear ho hb
    obtain ⟨wo, rfl⟩ : ∃ wo : World, wo = wr := ⟨_, rfl⟩
    by_cases hlt : k < L.length
    · obtain ⟨b, off, rfl, _, hc⟩ := HC.out k hlt
      have hcell := hc wo HB.out
      have hn := outs_next (t := T) hlt
      have hx := inn_bd (n := L[k]) HT.out.1
      have hlt' : (k : Int) < (L.length : Int) := by omega
      generalize L[k] = x at hcell hn hx
      have CW := Lib.hid (fun W => within_any x T W)
      have hw : wrap64 (T - inn x T) = T - inn x T := wrap64_in _ (by have := HT.out; omega)
      obtain ⟨v', w', hr, ho', hb'⟩ := Rx.append_one (T - inn x T) HO.out (by rw [outs_len, List.length_take]; have := HS.out; omega) HB.out.size
      rw [← hn] at ho'
      have HO' := Lib.hid ho'
      have HB' := Lib.hid hb'
      clear hc hn hx ho' hb'
      go_wp2_with (first
        | (go_at_call 24; refine (CW.out _).mono ?_; rintro e w2 ⟨rfl, rfl⟩)
        | (refine wpList_append_run rfl _ _ _ _ rfl _ _ _ _ rfl rfl hr ?_))
      go_roundw
      case rel => exact ⟨k + 1, by omega, congrArg _ (wrap_s HML.out hlt), HO'.out, HB.out.trans HB'.out⟩
      case measure =>
        rw [wrap_s HML.out hlt]
        exact int_less hlt
    · obtain rfl : k = L.length := by omega
      have ho := HO.out
      rw [List.take_length] at ho
      have CA := Lib.hid (and_any T (outs T L) _ wo ho.at (by rw [outs_len]; exact HML.out) HT.out.2)
      have hbd := andL_bd T (outs T L)
      have hw : wrap64 (T - andL T (outs T L)) = T - andL T (outs T L) := wrap64_in _ (by have := HT.out; omega)
      clear ho HO hbd
      go_wp2_with (go_at_call 13; refine CA.out.mono ?_; rintro e w2 ⟨rfl, rfl⟩)
      go_ret
      exact ⟨retI (by first | rfl | exact hw.symm), HB.out⟩

/-! ### the document's -/
/-- The document's product of two numbers that are not below nought. -/
theorem rmul_any (n x : Int) (w : World) (hn : 0 ≤ n) (hn' : n ≤ 9223372036854775807) (hx : 0 ≤ x) (hx' : x ≤ 9223372036854775807) :
    Calls Try.prog 25 #[.int .i64 n, .int .i64 x] w fun e w' => (e = .returned (.tuple #[.int .i64 (if n * x ≤ 9223372036854775807 then n * x else 0), .int .i64 (if n * x ≤ 9223372036854775807 then 0 else 10)])) ∧ w = w' := by
  have h1 : 0 ≤ n * x := Int.mul_nonneg hn hx
  have g1 : ¬ (negB n x = true ∨ negB x n = true) := by
    rintro (h | h)
    · have := negB_true h; omega
    · have := negB_true h; omega
  by_cases h0 : n = 0 ∨ x = 0
  · have e : n * x = 0 := by rcases h0 with rfl | rfl <;> simp
    rw [e, if_pos (by decide), if_pos (by decide)]
    exact mulRef_zero n x w h0
  · by_cases hf : n * x ≤ 9223372036854775807
    · rw [if_pos hf, if_pos hf]
      exact mulRef_fit n x w h0 (by omega) hn' (by omega) hf
    · rw [if_neg hf, if_neg hf]
      exact mulRef_over n x w g1 (by omega) hn' (by omega) hx' (by omega)
theorem inn_turned {x T : Int} (hT : 0 ≤ T) : max 0 (min x T) = inn x T := by unfold inn; omega
theorem scl_fit {n x t : Int} (h0 : ¬ t = 0) (hf : n * x ≤ 9223372036854775807) : scl n x t = n * x / t := by unfold scl; rw [if_neg h0, if_pos hf]
theorem scl_over {n x t : Int} (h0 : ¬ t = 0) (hf : ¬ n * x ≤ 9223372036854775807) : scl n x t = n / t * x := by unfold scl; rw [if_neg h0, if_neg hf]
theorem andF_zero : ∀ (L : List Int), andF 0 L 0 = 0
  | [] => rfl
  | y :: L => by show andF 0 L (scl 0 (inn y 0) 0) = 0; rw [scl_zero]; exact andF_zero L
set_option maxHeartbeats 1000000 in
theorem rand_any (t : Int) (L : List Int) (v : Value) (w : World) (h : IntsAt w v L) (hl : L.length ≤ maxLen) (ht : t ≤ 9223372036854775807) :
    Calls Try.prog 15 #[.int .i64 t, v] w fun e w' => e = .returned (.int .i64 (andL t L)) ∧ w = w' := by
  obtain ⟨p, c, rfl⟩ := h.form
  have HC := Lib.hid (Rx.row_cells h)
  have HML := Lib.hid hl
  obtain ⟨T, hT⟩ : ∃ T, max t 0 = T := ⟨_, rfl⟩
  have HT := Lib.hid (show 0 ≤ T ∧ T ≤ 9223372036854775807 by omega)
  unfold andL
  rw [hT]
  clear h hl ht
  go_enter Try.func15, Try.ntmps15
  go_wp2
  go_loop [5, 6, 7, 8, 9] (fun n i x p e => ∃ k : Nat, k ≤ L.length ∧ i = .int .i64 k ∧ n = .int .i64 (andF T (L.take k) T)) (fun _ i _ _ _ => L.length - (intOf i).toNat)
  case atStart => exact ⟨0, Nat.zero_le _, rfl, rfl⟩
  case round =>
    obtain ⟨k, hk, rfl, rfl⟩ := hrel
    by_cases hT0 : T = 0
    · have hz : ∀ j, andF T (L.take j) T = andF T L T := fun j => by rw [hT0, andF_zero, andF_zero]
      have HZ := Lib.hid (hz k)
      clear hz
      obtain ⟨A, hA⟩ : ∃ A, A = andF T (L.take k) T := ⟨_, rfl⟩
      rw [← hA] at HZ ⊢
      have hT1 : decide (0 < T) = false := by rw [hT0]; rfl
      clear hA hT
      by_cases hlt : k < L.length
      · go_wp2_with fail
        go_ret
        exact ⟨retI (by have h0 := HZ.out; rw [hT0] at h0; exact h0.symm), rfl⟩
      · go_wp2_with fail
        go_ret
        exact ⟨retI (by have h0 := HZ.out; rw [hT0] at h0; exact h0.symm), rfl⟩
    by_cases hlt : k < L.length
    · obtain ⟨b, off, rfl, _, hc⟩ := HC.out k hlt
      have hcell := hc w (Below.refl _ _)
      have hn := andF_next (t := T) (n := T) hlt
      have hb := (andF_bd HT.out.1 (L.take k) T HT.out.1 (Int.le_refl _))
      have hx := inn_bd (n := L[k]) HT.out.1
      have hxt := inn_turned (x := L[k]) HT.out.1
      have hlt' : (k : Int) < (L.length : Int) := by omega
      have hT1 : 0 < T := by have := HT.out; omega
      generalize L[k] = x at hcell hn hx hxt
      generalize hA : andF T (L.take k) T = A at *
      generalize inn x T = X at *
      have CM := Lib.hid (fun W => rmul_any A X W hb.1 (by have := HT.out; omega) hx.1 (by have := HT.out; omega))
      have hbd := scl_bd hb.1 hb.2.1 hx.1 hx.2
      have HX := Lib.hid hx
      have HBB := Lib.hid (show 0 ≤ A ∧ A ≤ T from ⟨hb.1, hb.2.1⟩)
      by_cases hf : A * X ≤ 9223372036854775807
      · rw [if_pos hf, if_pos hf] at CM
        rw [scl_fit hT0 hf] at hn hbd
        have q := quo_pos (b := T) (Int.mul_nonneg hb.1 hx.1)
        have HN := Lib.hid hn
        have HW := Lib.hid (show wrap64 ((A * X).tdiv T) = A * X / T by rw [q]; exact wrap64_in _ (by have := HT.out; omega))
        clear hc hn hx hb hbd q hA hf hT
        generalize A * X = P at *
        go_wp2_with (go_at_call 25; refine (CM.out _).mono ?_; rintro e w' ⟨rfl, rfl⟩)
        go_round
        case rel => exact ⟨k + 1, by omega, congrArg _ (wrap_s HML.out hlt), by rw [HN.out]; exact congrArg _ HW.out⟩
        case measure =>
          rw [wrap_s HML.out hlt]
          exact int_less hlt
      · rw [if_neg hf, if_neg hf] at CM
        rw [scl_over hT0 hf] at hn hbd
        have q := quo_pos (b := T) hb.1
        have qb := quo_bd (b := T) hb.1 (by have := HT.out; omega) hT1
        have HN := Lib.hid hn
        have HW := Lib.hid (show wrap64 (wrap64 (A.tdiv T) * X) = A / T * X by rw [q, wrap64_in (A / T) (by omega)]; exact wrap64_in _ (by have := HT.out; omega))
        clear hc hn hx hb hbd q qb hA hf hT
        go_wp2_with (go_at_call 25; refine (CM.out _).mono ?_; rintro e w' ⟨rfl, rfl⟩)
        go_round
        case rel => exact ⟨k + 1, by omega, congrArg _ (wrap_s HML.out hlt), by rw [HN.out]; exact congrArg _ HW.out⟩
        case measure =>
          rw [wrap_s HML.out hlt]
          exact int_less hlt
    · obtain rfl : k = L.length := by omega
      rw [andF_all]
      have hT1 : decide (0 < T) = true := by have := HT.out; simp; omega
      clear hT
      go_wp2_with fail
      go_ret
      exact ⟨rfl, rfl⟩
set_option maxHeartbeats 1000000 in
theorem ror_any (t : Int) (L : List Int) (v : Value) (w : World) (h : IntsAt w v L) (hl : L.length * 8 ≤ 140737488355328) (ht : t ≤ 9223372036854775807) :
    Calls Try.prog 16 #[.int .i64 t, v] w fun e w' => e = .returned (.int .i64 (orL t L)) ∧ Below w.heap.size w w' := by
  obtain ⟨p, c, rfl⟩ := h.form
  have HC := Lib.hid (Rx.row_cells h)
  have HS := Lib.hid hl
  have HML : Hid (L.length ≤ maxLen) := Lib.hid (by unfold maxLen; omega)
  obtain ⟨T, hT⟩ : ∃ T, max t 0 = T := ⟨_, rfl⟩
  have HT := Lib.hid (show 0 ≤ T ∧ T ≤ 9223372036854775807 by omega)
  unfold orL
  rw [hT]
  clear h hl ht
  go_enter Try.func16, Try.ntmps16
  go_wp2
  go_loopw [5, 6] (fun o i wr => ∃ k : Nat, k ≤ L.length ∧ i = .int .i64 k ∧ Own wr w.heap.size o (outs T (L.take k)) ∧ Below w.heap.size w wr) (fun _ i _ => L.length - (intOf i).toNat)
  case atStart => exact ⟨0, Nat.zero_le _, rfl, Rx.own_nil _ _, Below.refl _ _⟩
  case round =>
    obtain ⟨k, hk, rfl, ho, hb⟩ := hrel
    have HB := Lib.hid hb
    have HO := Lib.hid ho
    clear ho hb
    obtain ⟨wo, rfl⟩ : ∃ wo : World, wo = wr := ⟨_, rfl⟩
    by_cases hlt : k < L.length
    · obtain ⟨b, off, rfl, _, hc⟩ := HC.out k hlt
      have hcell := hc wo HB.out
      have hn := outs_next (t := T) hlt
      have hx := inn_bd (n := L[k]) HT.out.1
      have hxt := inn_turned (x := L[k]) HT.out.1
      have hlt' : (k : Int) < (L.length : Int) := by omega
      generalize L[k] = x at hcell hn hx hxt
      have hw : wrap64 (T - inn x T) = T - inn x T := wrap64_in _ (by have := HT.out; omega)
      obtain ⟨v', w', hr, ho', hb'⟩ := Rx.append_one (T - inn x T) HO.out (by rw [outs_len, List.length_take]; have := HS.out; omega) HB.out.size
      rw [← hn] at ho'
      have HO' := Lib.hid ho'
      have HB' := Lib.hid hb'
      clear hc hn hx ho' hb' hT
      go_wp2_with (refine wpList_append_run rfl _ _ _ _ rfl _ _ _ _ rfl rfl hr ?_)
      go_roundw
      case rel => exact ⟨k + 1, by omega, congrArg _ (wrap_s HML.out hlt), HO'.out, HB.out.trans HB'.out⟩
      case measure =>
        rw [wrap_s HML.out hlt]
        exact int_less hlt
    · obtain rfl : k = L.length := by omega
      have ho := HO.out
      rw [List.take_length] at ho
      have CA := Lib.hid (rand_any T (outs T L) _ wo ho.at (by rw [outs_len]; exact HML.out) HT.out.2)
      have hbd := andL_bd T (outs T L)
      have hw : wrap64 (T - andL T (outs T L)) = T - andL T (outs T L) := wrap64_in _ (by have := HT.out; omega)
      clear ho HO hbd hT
      go_wp2_with (go_at_call 15; refine CA.out.mono ?_; rintro e w2 ⟨rfl, rfl⟩)
      go_ret
      exact ⟨retI (by first | rfl | exact hw.symm), HB.out⟩
end Ss
end Go.Proofs.Ytmkilmglmeohmaa
