/- The document's own L2, Dot, Cos, Score of chapter 6 at any rows. Conditions: those that each theorem names. -/
import Derived.Test.YtfgmkdghpdpdkaaVcF
namespace Go.Proofs.Ytfgmkdghpdpdkaa
set_option linter.unusedVariables false
open Go Go.RowKit Vc
theorem kw_in (x : Int) (h : -9223372036854775808 ≤ x ∧ x ≤ 9223372036854775807) : IntKind.i64.wrap x = x := by
  unfold IntKind.wrap; simp [IntKind.bits, IntKind.signed]; omega
set_option maxHeartbeats 1000000 in
theorem dotRef_no (a b : List Int) (u v : Value) (w : World) (hu : IntsAt w u a) (hv : IntsAt w v b) (ha : a.length ≤ maxLen) (hb : b.length ≤ maxLen) (h : alikeB a b = false) :
    Calls Try.prog 35 #[u, v] w fun e w' => e = .returned (.int .i64 0) ∧ Below w.heap.size w w' := by
  have HB := Lib.hid (both_any a b u v w hu hv ha hb)
  rw [h] at HB
  obtain ⟨p1, c1, rfl⟩ := hu.form
  obtain ⟨p2, c2, rfl⟩ := hv.form
  clear hu hv ha hb h
  generalize b.length = m at *
  by_cases hn : a.length = 0
  · rw [hn] at *
    go_enter Try.func35, Try.ntmps35
    go_wp2
    go_loop [5, 6] (fun s i => s = .int .i64 0 ∧ i = .int .i64 0) (fun _ _ => 0)
    case atStart => exact ⟨rfl, rfl⟩
    case round =>
      obtain ⟨rfl, rfl⟩ := hrel
      go_wp2
      go_ret
      exact ⟨rfl, Below.refl _ _⟩
  · have hn' : (0 : Int) < a.length := by omega
    generalize a.length = n at *
    go_enter Try.func35, Try.ntmps35
    go_wp2
    go_loop [5, 6] (fun s i => s = .int .i64 0 ∧ i = .int .i64 0) (fun _ _ => 0)
    case atStart => exact ⟨rfl, rfl⟩
    case round =>
      obtain ⟨rfl, rfl⟩ := hrel
      go_wp2_with (go_at_call 48; refine HB.out.mono ?_; rintro e w' ⟨rfl, rfl⟩)
      go_ret
      exact ⟨rfl, Below.refl _ _⟩
set_option maxHeartbeats 1000000 in
theorem dotRef_yes (a b : List Int) (u v : Value) (w : World) (hu : IntsAt w u a) (hv : IntsAt w v b) (h : alikeB a b = true) :
    Calls Try.prog 35 #[u, v] w fun e w' => e = .returned (.int .i64 (dot a b)) ∧ Below w.heap.size w w' := by
  obtain ⟨hl, hva, hvb⟩ := alike_is h
  have HBOTH := Lib.hid (fun w2 (hq : Below w.heap.size w w2) => both_any a b u v w2 (hu.below hq) (hv.below hq) (vec_len hva) (vec_len hvb))
  rw [h] at HBOTH
  have HP := Lib.hid (small_vec hva hvb)
  have HL := Lib.hid hl
  obtain ⟨hn1, hn64, _⟩ := parts_of hva
  clear h hva hvb
  rcases hu with ⟨rfl, q, c, rfl⟩ | ⟨b1, o1, c1, rfl, hb1, hc1⟩
  · simp at hn1
  rcases hv with ⟨rfl, q, c, rfl⟩ | ⟨b2, o2, c2, rfl, hb2, hc2⟩
  · rw [hl] at hn1; simp at hn1
  have H1 := Lib.hid hc1
  have H2 := Lib.hid hc2
  clear hc1 hc2
  rw [← hl] at HBOTH ⊢
  clear hl
  go_enter Try.func35, Try.ntmps35
  go_wp2
  go_loopw [5, 6] (fun s i wr => ∃ k : Nat, k ≤ a.length ∧ i = .int .i64 k ∧ s = .int .i64 (dot (a.take k) (b.take k)) ∧ Qt w wr) (fun _ i _ => a.length - (intOf i).toNat)
  case atStart => exact ⟨0, Nat.zero_le _, rfl, rfl, Qt.refl _⟩
  case round =>
    obtain ⟨k, hk, rfl, rfl, hq⟩ := hrel
    have HQ := Lib.hid hq
    clear hq
    obtain ⟨wo, rfl⟩ : ∃ wo : World, wo = wr := ⟨_, rfl⟩
    by_cases hlt : k < a.length
    · have hlt2 : k < b.length := HL.out ▸ hlt
      have g1 := H1.out wo (HQ.out.block _) k hlt
      have g2 := H2.out wo (HQ.out.block _) k hlt2
      obtain ⟨x1, x2, x3, x4⟩ := HP.out k hlt hlt2
      have hd := dot_take a b k hlt hlt2
      generalize dot (a.take k) (b.take k) = S at *
      generalize a[k] = x at *
      generalize b[k] = y at *
      have e3 : IntKind.i64.wrap (x * y) = x * y := kw_in _ (by omega)
      have e4 : IntKind.i64.wrap (S + x * y) = S + x * y := kw_in _ (by omega)
      have E3 := Lib.hid e3
      have HD := Lib.hid hd
      have HB := Lib.hid (HBOTH.out wo HQ.out.2)
      have E4 := Lib.hid e4
      clear x1 x2 x3 x4 hd e3 e4
      go_wp2_with (go_at_call 48; refine HB.out.mono ?_; rintro e w' ⟨rfl, rfl⟩)
      go_quiet (fail)
      go_wp2
      go_roundw
      case rel => exact ⟨k + 1, by omega, by go_num, by rw [HD.out]; first | rfl | rw [E3.out, E4.out], HQ.out.drewN _⟩
      case measure => simp [intOf]; omega
    · obtain rfl : k = a.length := by omega
      have hd : dot (a.take a.length) (b.take a.length) = dot a b := by rw [List.take_length, HL.out, List.take_length]
      rw [hd]
      go_wp2
      go_ret
      exact ⟨rfl, HQ.out.2⟩
theorem dotRef_any (a b : List Int) (u v : Value) (w : World) (hu : IntsAt w u a) (hv : IntsAt w v b) (ha : a.length ≤ maxLen) (hb : b.length ≤ maxLen) :
    Calls Try.prog 35 #[u, v] w fun e w' => e = .returned (.int .i64 (if alikeB a b = true then dot a b else 0)) ∧ Below w.heap.size w w' := by
  cases h : alikeB a b with
  | true => simpa using dotRef_yes a b u v w hu hv h
  | false => simpa using dotRef_no a b u v w hu hv ha hb h
set_option maxHeartbeats 1000000 in
theorem l2Ref_no (a b : List Int) (u v : Value) (w : World) (hu : IntsAt w u a) (hv : IntsAt w v b) (ha : a.length ≤ maxLen) (hb : b.length ≤ maxLen) (h : alikeB a b = false) :
    Calls Try.prog 34 #[u, v] w fun e w' => e = .returned (.int .i64 0) ∧ Below w.heap.size w w' := by
  have HB := Lib.hid (both_any a b u v w hu hv ha hb)
  rw [h] at HB
  obtain ⟨p1, c1, rfl⟩ := hu.form
  obtain ⟨p2, c2, rfl⟩ := hv.form
  clear hu hv ha hb h
  generalize b.length = m at *
  by_cases hn : a.length = 0
  · rw [hn] at *
    go_enter Try.func34, Try.ntmps34
    go_wp2
    go_loop [5, 6] (fun s i => s = .int .i64 0 ∧ i = .int .i64 0) (fun _ _ => 0)
    case atStart => exact ⟨rfl, rfl⟩
    case round =>
      obtain ⟨rfl, rfl⟩ := hrel
      go_wp2
      go_ret
      exact ⟨rfl, Below.refl _ _⟩
  · have hn' : (0 : Int) < a.length := by omega
    generalize a.length = n at *
    go_enter Try.func34, Try.ntmps34
    go_wp2
    go_loop [5, 6] (fun s i => s = .int .i64 0 ∧ i = .int .i64 0) (fun _ _ => 0)
    case atStart => exact ⟨rfl, rfl⟩
    case round =>
      obtain ⟨rfl, rfl⟩ := hrel
      go_wp2_with (go_at_call 48; refine HB.out.mono ?_; rintro e w' ⟨rfl, rfl⟩)
      go_ret
      exact ⟨rfl, Below.refl _ _⟩
set_option maxHeartbeats 1000000 in
theorem l2Ref_yes (a b : List Int) (u v : Value) (w : World) (hu : IntsAt w u a) (hv : IntsAt w v b) (h : alikeB a b = true) :
    Calls Try.prog 34 #[u, v] w fun e w' => e = .returned (.int .i64 (sq a b)) ∧ Below w.heap.size w w' := by
  obtain ⟨hl, hva, hvb⟩ := alike_is h
  have HBOTH := Lib.hid (fun w2 (hq : Below w.heap.size w w2) => both_any a b u v w2 (hu.below hq) (hv.below hq) (vec_len hva) (vec_len hvb))
  rw [h] at HBOTH
  have HS := Lib.hid (small_sub hl hva hvb)
  have HBD := Lib.hid (sub_bd hl hva hvb)
  have HAT := Lib.hid (sub_at a b hl)
  have HSL := Lib.hid (sub_length a b hl)
  have HSQ : Hid (sq a b = dot (sub a b) (sub a b)) := Lib.hid rfl
  have HL := Lib.hid hl
  obtain ⟨hn1, hn64, _⟩ := parts_of hva
  clear h hva hvb
  rcases hu with ⟨rfl, q, c, rfl⟩ | ⟨b1, o1, c1, rfl, hb1, hc1⟩
  · simp at hn1
  rcases hv with ⟨rfl, q, c, rfl⟩ | ⟨b2, o2, c2, rfl, hb2, hc2⟩
  · rw [hl] at hn1; simp at hn1
  have H1 := Lib.hid hc1
  have H2 := Lib.hid hc2
  clear hc1 hc2
  rw [← hl] at HBOTH ⊢
  clear hl
  generalize sub a b = D at *
  go_enter Try.func34, Try.ntmps34
  go_wp2
  go_loopw [5, 6] (fun s i wr => ∃ k : Nat, k ≤ a.length ∧ i = .int .i64 k ∧ s = .int .i64 (dot (D.take k) (D.take k)) ∧ Qt w wr) (fun _ i _ => a.length - (intOf i).toNat)
  case atStart => exact ⟨0, Nat.zero_le _, rfl, by simp [dot], Qt.refl _⟩
  case round =>
    obtain ⟨k, hk, rfl, rfl, hq⟩ := hrel
    have HQ := Lib.hid hq
    clear hq
    obtain ⟨wo, rfl⟩ : ∃ wo : World, wo = wr := ⟨_, rfl⟩
    by_cases hlt : k < a.length
    · have hlt2 : k < b.length := HL.out ▸ hlt
      have hltd : k < D.length := by rw [HSL.out]; exact hlt
      have g1 := H1.out wo (HQ.out.block _) k hlt
      have g2 := H2.out wo (HQ.out.block _) k hlt2
      obtain ⟨x1, _, x3, x4⟩ := HS.out k hltd hltd
      have hat := HAT.out k hlt hlt2 hltd
      have hd := dot_take D D k hltd hltd
      rw [hat] at hd x1 x3
      clear hat
      generalize dot (D.take k) (D.take k) = S at *
      generalize a[k] = x at *
      generalize b[k] = y at *
      have e1 : IntKind.i64.wrap (x - y) = x - y := kw_in _ (by omega)
      have e3 : IntKind.i64.wrap ((x - y) * (x - y)) = (x - y) * (x - y) := kw_in _ (by omega)
      have e4 : IntKind.i64.wrap (S + (x - y) * (x - y)) = S + (x - y) * (x - y) := kw_in _ (by omega)
      have E3 := Lib.hid (And.intro e1 e3)
      have HD := Lib.hid hd
      have HB := Lib.hid (HBOTH.out wo HQ.out.2)
      have E4 := Lib.hid e4
      clear x1 x3 x4 hd e1 e3 e4
      go_wp2_with (go_at_call 48; refine HB.out.mono ?_; rintro e w' ⟨rfl, rfl⟩)
      go_quiet (fail)
      go_wp2
      go_roundw
      case rel => exact ⟨k + 1, by omega, by go_num, by rw [HD.out]; first | rfl | rw [E3.out.1, E3.out.2, E4.out], HQ.out.drewN _⟩
      case measure => simp [intOf]; omega
    · obtain rfl : k = a.length := by omega
      have hd : dot (D.take a.length) (D.take a.length) = sq a b := by rw [HSQ.out, ← HSL.out, List.take_length]
      rw [hd]
      go_wp2
      go_ret
      exact ⟨rfl, HQ.out.2⟩
theorem l2Ref_any (a b : List Int) (u v : Value) (w : World) (hu : IntsAt w u a) (hv : IntsAt w v b) (ha : a.length ≤ maxLen) (hb : b.length ≤ maxLen) :
    Calls Try.prog 34 #[u, v] w fun e w' => e = .returned (.int .i64 (if alikeB a b = true then sq a b else 0)) ∧ Below w.heap.size w w' := by
  cases h : alikeB a b with
  | true => simpa using l2Ref_yes a b u v w hu hv h
  | false => simpa using l2Ref_no a b u v w hu hv ha hb h
theorem self_part (a : List Int) : 0 ≤ (if alikeB a a = true then dot a a else 0) ∧ (if alikeB a a = true then dot a a else 0) ≤ 68719476736 := by
  split
  · rename_i h
    exact self_nonneg_le (alike_is h).2.1
  · omega
set_option maxHeartbeats 2000000 in
theorem cosRef_any (a b : List Int) (u v : Value) (w : World) (hu : IntsAt w u a) (hv : IntsAt w v b) (ha : a.length ≤ maxLen) (hb : b.length ≤ maxLen) :
    Calls Try.prog 36 #[u, v] w fun e w' => e = .returned (.int .i64 (if alikeB a b = true then cosN a b else 0)) ∧ Below w.heap.size w w' := by
  have C1 := Lib.hid (fun w2 (hq : Below w.heap.size w w2) => dotRef_any a a u u w2 (hu.below hq) (hu.below hq) ha ha)
  have C2 := Lib.hid (fun w2 (hq : Below w.heap.size w w2) => dotRef_any b b v v w2 (hv.below hq) (hv.below hq) hb hb)
  have C3 := Lib.hid (fun w2 (hq : Below w.heap.size w w2) => dotRef_any a b u v w2 (hu.below hq) (hv.below hq) ha hb)
  have CB := Lib.hid (fun w2 (hq : Below w.heap.size w w2) => both_any a b u v w2 (hu.below hq) (hv.below hq) ha hb)
  have hB := Below.refl w.heap.size w
  obtain ⟨x0, x1⟩ := self_part a
  obtain ⟨y0, y1⟩ := self_part b
  clear hu hv
  cases h : alikeB a b with
  | false =>
    rw [h] at CB
    generalize (if alikeB a a = true then dot a a else 0) = A at *
    generalize (if alikeB b b = true then dot b b else 0) = B at *
    obtain ⟨r0, r1⟩ := root_bd A x0 x1
    obtain ⟨s0, s1⟩ := root_bd B y0 y1
    have R1 := Lib.hid fun w => isqrtRefI_any A w x0 (by omega)
    have R2 := Lib.hid fun w => isqrtRefI_any B w y0 (by omega)
    have hp := mul_bd (P := 262144) (Q := 262144) (x := rootI A) (y := rootI B) (by omega) (by omega) (by omega) (by omega)
    generalize rootI A = r at *
    generalize rootI B = s at *
    have e1 : wrap64 (r * s) = r * s := wrap_in _ (by omega)
    clear ha hb h x0 x1 y0 y1 r0 r1 s0 s1 hp C3
    go_enter Try.func36, Try.ntmps36
    go_wp2_with (first
      | (go_at_call 35; (with_reducible refine (C1.out _ hB).mono ?_); rintro e w1 ⟨rfl, hb⟩; replace hB := hB.trans (hb.mono hB.size); clear hb)
      | (go_at_call 35; (with_reducible refine (C2.out _ hB).mono ?_); rintro e w1 ⟨rfl, hb⟩; replace hB := hB.trans (hb.mono hB.size); clear hb)
      | (go_at_call 49; (with_reducible refine (R1.out _).mono ?_); rintro e w1 ⟨rfl, rfl⟩)
      | (go_at_call 49; (with_reducible refine (R2.out _).mono ?_); rintro e w1 ⟨rfl, rfl⟩)
      | (go_at_call 48; (with_reducible refine (CB.out _ hB).mono ?_); rintro e w1 ⟨rfl, rfl⟩))
    go_ret
    exact ⟨rfl, hB⟩
  | true =>
    obtain ⟨hl, hva, hvb⟩ := alike_is h
    have haa : alikeB a a = true := by simp [alikeB, hva]
    have hbb : alikeB b b = true := by simp [alikeB, hvb]
    obtain ⟨z0, z1⟩ := dot_of hva hvb hl
    rw [h] at CB
    simp only [haa, hbb, h, if_true] at C1 C2 C3 x0 x1 y0 y1 ⊢
    unfold cosN
    generalize dot a a = A at *
    generalize dot b b = B at *
    generalize dot a b = D at *
    obtain ⟨r0, r1⟩ := root_bd A x0 x1
    obtain ⟨s0, s1⟩ := root_bd B y0 y1
    have R1 := Lib.hid fun w => isqrtRefI_any A w x0 (by omega)
    have R2 := Lib.hid fun w => isqrtRefI_any B w y0 (by omega)
    have hp := mul_bd (P := 262144) (Q := 262144) (x := rootI A) (y := rootI B) (by omega) (by omega) (by omega) (by omega)
    generalize rootI A = r at *
    generalize rootI B = s at *
    have e1 : wrap64 (r * s) = r * s := wrap_in _ (by omega)
    have e2 : wrap64 (D * 1048576) = 1048576 * D := by rw [Int.mul_comm]; exact wrap_in _ (by omega)
    generalize hm : r * s = m at *
    by_cases hz : m = 0
    · rw [if_pos hz]
      subst hz
      clear ha hb h hl hva hvb haa hbb x0 x1 y0 y1 z0 z1 r0 r1 s0 s1 hp C3
      go_enter Try.func36, Try.ntmps36
      go_wp2_with (first
        | (go_at_call 35; (with_reducible refine (C1.out _ hB).mono ?_); rintro e w1 ⟨rfl, hb⟩; replace hB := hB.trans (hb.mono hB.size); clear hb)
        | (go_at_call 35; (with_reducible refine (C2.out _ hB).mono ?_); rintro e w1 ⟨rfl, hb⟩; replace hB := hB.trans (hb.mono hB.size); clear hb)
        | (go_at_call 49; (with_reducible refine (R1.out _).mono ?_); rintro e w1 ⟨rfl, rfl⟩)
        | (go_at_call 49; (with_reducible refine (R2.out _).mono ?_); rintro e w1 ⟨rfl, rfl⟩)
        | (go_at_call 48; (with_reducible refine (CB.out _ hB).mono ?_); rintro e w1 ⟨rfl, rfl⟩))
      go_ret
      exact ⟨rfl, hB⟩
    · rw [if_neg hz]
      have D1 := Lib.hid fun w => divRef_any (1048576 * D) m w (by simp [hz]) (by simp [negB]; omega) (by omega) (by omega)
      generalize (1048576 * D).fdiv m = Q at *
      have hzb : (m == 0) = false := by simp [hz]
      clear ha hb h hl hva hvb haa hbb x0 x1 y0 y1 z0 z1 r0 r1 s0 s1 hp
      go_enter Try.func36, Try.ntmps36
      go_wp2_with (first
        | (go_at_call 35; (with_reducible refine (C1.out _ hB).mono ?_); rintro e w1 ⟨rfl, hb⟩; replace hB := hB.trans (hb.mono hB.size); clear hb)
        | (go_at_call 35; (with_reducible refine (C2.out _ hB).mono ?_); rintro e w1 ⟨rfl, hb⟩; replace hB := hB.trans (hb.mono hB.size); clear hb)
        | (go_at_call 35; (with_reducible refine (C3.out _ hB).mono ?_); rintro e w1 ⟨rfl, hb⟩; replace hB := hB.trans (hb.mono hB.size); clear hb)
        | (go_at_call 49; (with_reducible refine (R1.out _).mono ?_); rintro e w1 ⟨rfl, rfl⟩)
        | (go_at_call 49; (with_reducible refine (R2.out _).mono ?_); rintro e w1 ⟨rfl, rfl⟩)
        | (go_at_call 44; (with_reducible refine (D1.out _).mono ?_); rintro e w1 ⟨rfl, rfl⟩)
        | (go_at_call 48; (with_reducible refine (CB.out _ hB).mono ?_); rintro e w1 ⟨rfl, rfl⟩))
      go_ret
      exact ⟨rfl, hB⟩
end Go.Proofs.Ytfgmkdghpdpdkaa
