/- vector's L2, Dot, Cos, Score at any rows. Conditions: those that each theorem names. -/
import Derived.Test.YtfgmkdghpdpdkaaVcC
namespace Go.Proofs.Ytfgmkdghpdpdkaa
set_option linter.unusedVariables false
open Go Go.RowKit Vc
set_option maxHeartbeats 1000000 in
set_option maxRecDepth 100000 in
theorem l2_any (a b : List Int) (u v : Value) (w : World) (hu : IntsAt w u a) (hv : IntsAt w v b) (h : alikeB a b = true) :
    Calls Try.prog 59 #[u, v] w fun e w' => e = .returned (.int .i64 (sq a b)) ∧ Below w.heap.size w w' := by
  obtain ⟨hl, ha, hb⟩ := alike_is h
  obtain ⟨h1, h64, _⟩ := parts_of ha
  have hsl := sub_length a b hl
  have HS := Lib.hid (small_sub hl ha hb)
  have HBD := Lib.hid (sub_bd hl ha hb)
  have HAT := Lib.hid (sub_at a b hl)
  have HPA := Lib.hid (parts_of ha).2.2
  have HPB := Lib.hid (parts_of hb).2.2
  have HLB := Lib.hid hl
  have HSL := Lib.hid hsl
  have hsq : Hid (sq a b = dot (sub a b) (sub a b)) := Lib.hid rfl
  rcases hu with ⟨rfl, q, c, rfl⟩ | ⟨b1, o1, c1, rfl, hb1, hc1⟩
  · simp at h1
  rcases hv with ⟨rfl, q, c, rfl⟩ | ⟨b2, o2, c2, rfl, hb2, hc2⟩
  · simp at hl; simp [hl] at h1
  have H1 := Lib.hid hc1
  have H2 := Lib.hid hc2
  generalize hD : sub a b = D at *
  clear h hc1 hc2 ha hb hD hsl
  rw [← hl]
  clear hl
  have hn1 : (1 : Int) ≤ a.length := by omega
  have hn64 : (a.length : Int) ≤ 64 := by omega
  go_enter Try.func59, Try.ntmps59
  go_wp2_with fail
  go_loopw [14] (fun i wr => ∃ k : Nat, k ≤ a.length ∧ i = .int .i64 k ∧ wr.heap[w.heap.size]? = some (.cells (roomC D k) 101 (0, 0)) ∧ Below w.heap.size w wr) (fun i _ => a.length - (intOf i).toNat)
  case atStart => exact ⟨0, by omega, rfl, by rw [roomC_zero]; exact heap_alloc_new _ _, ((Below.refl _ _).alloc (Nat.le_refl _) _)⟩
  case round =>
    obtain ⟨k, hk, rfl, hrow, hbel⟩ := hrel
    by_cases hlt : k < a.length
    · have hltb : k < b.length := HLB.out ▸ hlt
      have hltd : k < D.length := by rw [HSL.out]; exact hlt
      have g1 := H1.out wr (hbel.block b1 hb1) k hlt
      have g2 := H2.out wr (hbel.block b2 hb2) k hltb
      have hbd := HBD.out k hltd
      have hat := HAT.out k hlt hltb hltd
      have pa := HPA.out k hlt
      have pb := HPB.out k hltb
      have hset := roomC_set D k (by omega) (D[k]) (by simp [List.getD, hltd])
      rw [hat] at hset hbd
      clear hat
      generalize a[k] = x at *
      generalize b[k] = y at *
      have e1 : wrap64 (x - y) = x - y := wrap_in _ (by omega)
      have e2 : IntKind.i32.wrap (x - y) = x - y := i32_in _ (by omega)
      have hcell : wr.cell? ⟨w.heap.size, k, none⟩ = some (.int .i32 (if k < k then D.getD k 0 else 0)) := by rw [cell_of_row _ _ _ _ _ _ hrow, roomC_get _ _ _ (by omega)]
      have hfz : wr.frozen? ⟨w.heap.size, k, none⟩ = false := frozen_of_row _ _ _ _ _ hrow
      have hk64 : (k : Int) < 64 := by omega
      have HR := Lib.hid hrow
      have HB := Lib.hid hbel
      have HSET := Lib.hid hset
      clear hrow hbel hset hbd pa pb
      obtain ⟨wo, rfl⟩ : ∃ wo : World, wo = wr := ⟨_, rfl⟩
      go_wp2_with fail
      go_roundw
      case rel => exact ⟨k + 1, by omega, by go_num, by rw [heap_setCell_same _ _ _ _ _ _ HR.out, HSET.out], HB.out.setCell (Nat.le_refl _) _⟩
      case measure => simp [intOf]; omega
    · obtain rfl : k = a.length := by omega
      have hrowat : KAt .i32 wr (.slice (some ⟨w.heap.size, 0, none⟩) a.length 64) D := by
        refine .inr ⟨w.heap.size, 0, 64, by rw [HSL.out], Nat.lt_of_lt_of_le (by rcases Nat.lt_or_ge w.heap.size wr.heap.size with c | c; exact c; rw [Array.getElem?_eq_none c] at hrow; cases hrow) (Nat.le_refl _), fun W hW j hj => ?_⟩
        have hj2 : j < a.length := by rw [← HSL.out]; exact hj
        rw [cell_of_row _ _ _ _ _ _ (hW.trans hrow), Nat.zero_add, roomC_get _ _ _ (by omega), if_pos hj2]
        simp [List.getD, hj]
      have HR := Lib.hid hrowat
      have HB := Lib.hid hbel
      clear hrow hbel hrowat
      obtain ⟨wo, rfl⟩ : ∃ wo : World, wo = wr := ⟨_, rfl⟩
      go_wp2_with (go_at_call 68; refine (sumProd32_any D D _ _ _ HR.out HR.out rfl HS.out (by rw [HSL.out]; omega)).mono ?_; rintro e w' ⟨rfl, rfl⟩)
      go_ret
      exact ⟨by rw [hsq.out]; rfl, HB.out⟩
theorem self_nonneg_le {a : List Int} (h : vecB a = true) : 0 ≤ dot a a ∧ dot a a ≤ 68719476736 := by
  have h1 := take_bd h h a.length
  rw [List.take_length] at h1
  exact ⟨dot_self_nonneg a, h1.2⟩
theorem root_bd (n : Int) (h : 0 ≤ n) (h' : n ≤ 68719476736) : 0 ≤ rootI n ∧ rootI n ≤ 262144 := by
  unfold rootI
  refine ⟨Int.natCast_nonneg _, ?_⟩
  have := rootN_lt n.toNat 262144 (by omega)
  omega
theorem dot_of {a b : List Int} (h1 : vecB a = true) (h2 : vecB b = true) (h : a.length = b.length) : -68719476736 ≤ dot a b ∧ dot a b ≤ 68719476736 := by
  have h1 := take_bd h1 h2 a.length
  rw [List.take_length, h, List.take_length] at h1
  exact h1
set_option maxHeartbeats 1000000 in
theorem cos_any (a b : List Int) (u v : Value) (w : World) (hu : IntsAt w u a) (hv : IntsAt w v b) (h : alikeB a b = true) :
    Calls Try.prog 61 #[u, v] w fun e w' => e = .returned (.int .i64 (cosN a b)) ∧ w' = w := by
  obtain ⟨hl, ha, hb⟩ := alike_is h
  have h64 := (parts_of ha).2.1
  have C1 := Lib.hid (sumProd_any a a u u w hu hu rfl (small_vec ha ha) h64)
  have C2 := Lib.hid (sumProd_any b b v v w hv hv rfl (small_vec hb hb) (by omega))
  have C3 := Lib.hid (sumProd_any a b u v w hu hv hl (small_vec ha hb) h64)
  obtain ⟨x0, x1⟩ := self_nonneg_le ha
  obtain ⟨y0, y1⟩ := self_nonneg_le hb
  obtain ⟨z0, z1⟩ := dot_of ha hb hl
  unfold cosN
  generalize dot a a = A at *
  generalize dot b b = B at *
  generalize dot a b = D at *
  obtain ⟨r0, r1⟩ := root_bd A x0 x1
  obtain ⟨s0, s1⟩ := root_bd B y0 y1
  have R1 := Lib.hid fun w => isqrtI_any A w x0 (by omega)
  have R2 := Lib.hid fun w => isqrtI_any B w y0 (by omega)
  have hp := mul_bd (P := 262144) (Q := 262144) (x := rootI A) (y := rootI B) (by omega) (by omega) (by omega) (by omega)
  generalize rootI A = r at *
  generalize rootI B = s at *
  have e1 : wrap64 (r * s) = r * s := wrap_in _ (by omega)
  have e2 : wrap64 (1048576 * D) = 1048576 * D := wrap_in _ (by omega)
  generalize hm : r * s = m at *
  by_cases hz : m = 0
  · rw [if_pos hz]
    subst hz
    have D1 := Lib.hid fun w => div_zero (1048576 * D) w
    clear hu hv h hl ha hb h64 x0 x1 y0 y1 z0 z1 r0 r1 s0 s1 hp
    go_enter Try.func61, Try.ntmps61
    go_wp2_with (first
      | (go_at_call 60; (with_reducible refine C1.out.mono ?_); rintro e w' ⟨rfl, rfl⟩)
      | (go_at_call 60; (with_reducible refine C2.out.mono ?_); rintro e w' ⟨rfl, rfl⟩)
      | (go_at_call 60; (with_reducible refine C3.out.mono ?_); rintro e w' ⟨rfl, rfl⟩)
      | (go_at_call 69; (with_reducible refine (R1.out _).mono ?_); rintro e w' ⟨rfl, rfl⟩)
      | (go_at_call 69; (with_reducible refine (R2.out _).mono ?_); rintro e w' ⟨rfl, rfl⟩)
      | (go_at_call 70; (with_reducible refine (D1.out _).mono ?_); rintro e w' ⟨rfl, rfl⟩))
    go_ret
    exact ⟨rfl, rfl⟩
  · rw [if_neg hz]
    have D1 := Lib.hid fun w => div_any (1048576 * D) m w (by simp [hz]) (by simp [negB]; omega) (by omega) (by omega)
    generalize (1048576 * D).fdiv m = Q at *
    clear hu hv h hl ha hb h64 x0 x1 y0 y1 z0 z1 r0 r1 s0 s1 hp
    go_enter Try.func61, Try.ntmps61
    go_wp2_with (first
      | (go_at_call 60; (with_reducible refine C1.out.mono ?_); rintro e w' ⟨rfl, rfl⟩)
      | (go_at_call 60; (with_reducible refine C2.out.mono ?_); rintro e w' ⟨rfl, rfl⟩)
      | (go_at_call 60; (with_reducible refine C3.out.mono ?_); rintro e w' ⟨rfl, rfl⟩)
      | (go_at_call 69; (with_reducible refine (R1.out _).mono ?_); rintro e w' ⟨rfl, rfl⟩)
      | (go_at_call 69; (with_reducible refine (R2.out _).mono ?_); rintro e w' ⟨rfl, rfl⟩)
      | (go_at_call 70; (with_reducible refine (D1.out _).mono ?_); rintro e w' ⟨rfl, rfl⟩))
    go_ret
    exact ⟨rfl, rfl⟩
end Go.Proofs.Ytfgmkdghpdpdkaa
