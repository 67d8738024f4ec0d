/- vector's Score, and the document's own answers of chapter 6, at any rows. Conditions: those that each theorem names. -/
import Derived.Test.YtfgmkdghpdpdkaaVcD
namespace Go.Proofs.Ytfgmkdghpdpdkaa
set_option linter.unusedVariables false
open Go Go.RowKit Vc
def scoreOk (a b : List Int) (m : Int) : Prop := chk a a.length m = 0 ∧ chk b a.length m = 0
def scoreV (a b : List Int) (m : Int) : Int := if m = 1 then sq a b else if m = 2 then dot a b else cosN a b
theorem chk_or (L : List Int) (d m : Int) : chk L d m = 0 ∨ chk L d m = 60 := by unfold chk; split <;> simp
theorem chk_zero {L : List Int} {d m : Int} (h : chk L d m = 0) : (L.length : Int) = d ∧ vecB L = true ∧ metB m = true := by
  by_cases c : (L.length : Int) = d ∧ vecB L = true ∧ metB m = true ∧ ¬ (m = 3 ∧ zeroL L = true)
  · exact ⟨c.1, c.2.1, c.2.2.1⟩
  · rw [chk_no c] at h; cases h
theorem score_alike {a b : List Int} {m : Int} (h : scoreOk a b m) : alikeB a b = true := by
  obtain ⟨_, h1, _⟩ := chk_zero h.1
  obtain ⟨h2, h3, _⟩ := chk_zero h.2
  have : a.length = b.length := by omega
  simp [alikeB, this, h1, h3]
set_option maxHeartbeats 1000000 in
theorem Score_no (a b : List Int) (u v : Value) (m : Int) (w : World) (hu : IntsAt w u a) (hv : IntsAt w v b) (ha : a.length ≤ maxLen) (hb : b.length ≤ maxLen) (h : ¬ scoreOk a b m) :
    Calls Try.prog 53 #[.int .i64 m, u, v] w fun e w' => e = .returned (.tuple #[.int .i64 0, .int .i64 60]) ∧ Below w.heap.size w w' := by
  have C1 := Lib.hid (check_any a u a.length m w hu ha)
  have C2 := Lib.hid (check_any b v a.length m w hv hb)
  have k1 := chk_or a a.length m
  have k2 := chk_or b a.length m
  unfold scoreOk at h
  obtain ⟨p1, c1, rfl⟩ := hu.form
  obtain ⟨p2, c2, rfl⟩ := hv.form
  clear hu hv ha hb
  generalize chk a a.length m = x at *
  generalize chk b a.length m = y at *
  generalize a.length = n at *
  rcases k1 with rfl | rfl
  · rcases k2 with rfl | rfl
    · exact absurd ⟨rfl, rfl⟩ h
    · go_enter Try.func53, Try.ntmps53
      go_wp2_with (first
        | (go_at_call 37; (with_reducible refine C1.out.mono ?_); rintro e w' ⟨rfl, rfl⟩)
        | (go_at_call 37; (with_reducible refine C2.out.mono ?_); rintro e w' ⟨rfl, rfl⟩))
      go_ret2
      exact ⟨rfl, Below.refl _ _⟩
  · go_enter Try.func53, Try.ntmps53
    go_wp2_with (first
      | (go_at_call 37; (with_reducible refine C1.out.mono ?_); rintro e w' ⟨rfl, rfl⟩))
    go_ret2
    exact ⟨rfl, Below.refl _ _⟩
set_option maxHeartbeats 2000000 in
theorem Score_yes (a b : List Int) (u v : Value) (m : Int) (w : World) (hu : IntsAt w u a) (hv : IntsAt w v b) (h : scoreOk a b m) :
    Calls Try.prog 53 #[.int .i64 m, u, v] w fun e w' => e = .returned (.tuple #[.int .i64 (scoreV a b m), .int .i64 0]) ∧ Below w.heap.size w w' := by
  have hal := score_alike h
  obtain ⟨hl, hva, hvb⟩ := alike_is hal
  have hm : m = 1 ∨ m = 2 ∨ m = 3 := by simpa [metB] using (chk_zero h.1).2.2
  obtain ⟨h1, h2⟩ := h
  have C1 := Lib.hid (check_any a u a.length m w hu (vec_len hva))
  have C2 := Lib.hid (check_any b v a.length m w hv (vec_len hvb))
  rw [h1] at C1
  rw [h2] at C2
  have L1 := Lib.hid (l2_any a b u v w hu hv hal)
  have L2 := Lib.hid (sumProd_any a b u v w hu hv hl (small_vec hva hvb) (parts_of hva).2.1)
  have L3 := Lib.hid (cos_any a b u v w hu hv hal)
  unfold scoreV
  obtain ⟨p1, c1, rfl⟩ := hu.form
  obtain ⟨p2, c2, rfl⟩ := hv.form
  clear hu hv h1 h2 hva hvb hal hl
  generalize sq a b = r at *
  generalize dot a b = d at *
  generalize cosN a b = q at *
  generalize a.length = n at *
  generalize b.length = n2 at *
  rcases hm with rfl | rfl | rfl
  · go_enter Try.func53, Try.ntmps53
    go_wp2_with (first
      | (go_at_call 37; (with_reducible refine C1.out.mono ?_); rintro e w' ⟨rfl, rfl⟩)
      | (go_at_call 37; (with_reducible refine C2.out.mono ?_); rintro e w' ⟨rfl, rfl⟩)
      | (go_at_call 59; refine L1.out.mono ?_; rintro e w' ⟨rfl, hb⟩))
    go_ret2
    exact ⟨rfl, hb⟩
  · go_enter Try.func53, Try.ntmps53
    go_wp2_with (first
      | (go_at_call 37; (with_reducible refine C1.out.mono ?_); rintro e w' ⟨rfl, rfl⟩)
      | (go_at_call 37; (with_reducible refine C2.out.mono ?_); rintro e w' ⟨rfl, rfl⟩)
      | (go_at_call 60; refine L2.out.mono ?_; rintro e w' ⟨rfl, rfl⟩))
    go_ret2
    exact ⟨rfl, Below.refl _ _⟩
  · go_enter Try.func53, Try.ntmps53
    go_wp2_with (first
      | (go_at_call 37; (with_reducible refine C1.out.mono ?_); rintro e w' ⟨rfl, rfl⟩)
      | (go_at_call 37; (with_reducible refine C2.out.mono ?_); rintro e w' ⟨rfl, rfl⟩)
      | (go_at_call 61; refine L3.out.mono ?_; rintro e w' ⟨rfl, rfl⟩))
    go_ret2
    exact ⟨rfl, Below.refl _ _⟩
/-! ### the document's own -/
set_option maxHeartbeats 1000000 in
theorem zeroRef_any (L : List Int) (v : Value) (w : World) (h : IntsAt w v L) (hl : L.length ≤ maxLen) :
    Calls Try.prog 47 #[v] w fun e w' => e = .returned (.bool (zeroL L)) ∧ w' = w := by
  unfold zeroL
  have HS := Lib.hid hl
  clear hl
  rcases h with ⟨rfl, q, c, rfl⟩ | ⟨b, off, c, rfl, hb, hc⟩
  · go_enter Try.func47, Try.ntmps47
    go_wp2
    go_loop [3] (fun i => i = .int .i64 0) (fun _ => 0)
    case atStart => rfl
    case round =>
      subst hrel
      go_wp2
      go_ret
      exact ⟨rfl, rfl⟩
  · go_enter Try.func47, Try.ntmps47
    have HC := Lib.hid hc
    clear hc
    go_wp2
    go_loop [3] (fun i => ∃ k : Nat, k ≤ L.length ∧ i = .int .i64 k ∧ Hid ((L.take k).all (fun n => n == 0) = true)) (fun i => L.length - (intOf i).toNat)
    case atStart => exact ⟨0, Nat.zero_le _, rfl, Lib.hid (by simp)⟩
    case round =>
      obtain ⟨k, hk, rfl, HA⟩ := hrel
      by_cases hlt : k < L.length
      · have hcell := HC.out w rfl k hlt
        have hx : L[k]? = some L[k] := List.getElem?_eq_getElem hlt
        generalize hcc : L[k] = n at hx hcell
        have HXX := Lib.hid hx
        by_cases hn : n = 0
        · have HN := Lib.hid (all_next' hx HA.out (p := fun n => n == 0) (by simp [hn]))
          clear hx HA hcc
          subst hn
          go_wp2_with fail
          go_round
          case rel => exact ⟨k + 1, by omega, congrArg _ (wrap_s HS.out hlt), HN⟩
          case measure =>
            rw [wrap_s HS.out hlt]
            exact int_less hlt
        · have HN : Hid (L.all (fun n => n == 0) = false) := Lib.hid (all_no' hx (by simp [hn]))
          clear hx HA hcc
          go_wp2_with fail
          go_ret
          rw [HN.out]
          exact ⟨rfl, rfl⟩
      · obtain rfl : k = L.length := by omega
        have hx : L.all (fun n => n == 0) = true := by have := HA.out; rwa [List.take_length] at this
        have HE := Lib.hid hx
        clear hx
        go_wp2_with fail
        go_ret
        rw [HE.out]
        exact ⟨rfl, rfl⟩
set_option maxHeartbeats 1000000 in
theorem may_any (L : List Int) (v : Value) (w : World) (h : IntsAt w v L) (hl : L.length ≤ maxLen) :
    Calls Try.prog 46 #[v] w fun e w' => e = .returned (.bool (vecB L)) ∧ w' = w := by
  unfold vecB
  have HS := Lib.hid hl
  clear hl
  rcases h with ⟨rfl, q, c, rfl⟩ | ⟨b, off, c, rfl, hb, hc⟩
  · go_enter Try.func46, Try.ntmps46
    go_wp2
    go_loop [3] (fun i => i = .int .i64 0) (fun _ => 0)
    case atStart => rfl
    case round =>
      subst hrel
      go_wp2
      go_ret
      exact ⟨rfl, rfl⟩
  · go_enter Try.func46, Try.ntmps46
    have HC := Lib.hid hc
    clear hc
    go_wp2
    go_loop [3] (fun i => ∃ k : Nat, k ≤ L.length ∧ i = .int .i64 k ∧ Hid ((L.take k).all partB = true)) (fun i => L.length - (intOf i).toNat)
    case atStart => exact ⟨0, Nat.zero_le _, rfl, Lib.hid (by simp)⟩
    case round =>
      obtain ⟨k, hk, rfl, HA⟩ := hrel
      by_cases hlt : k < L.length
      · have hcell := HC.out w rfl k hlt
        have hx : L[k]? = some L[k] := List.getElem?_eq_getElem hlt
        generalize hcc : L[k] = n at hx hcell
        have HXX := Lib.hid hx
        by_cases hn1 : n < -32768
        · have HN : Hid (L.all partB = false) := Lib.hid (all_no' hx (by simp [partB]; omega))
          clear hx HA hcc
          go_wp2_with fail
          go_ret
          rw [HN.out]
          exact ⟨by simp, rfl⟩
        · by_cases hn2 : 32767 < n
          · have HN : Hid (L.all partB = false) := Lib.hid (all_no' hx (by simp [partB]; omega))
            clear hx HA hcc
            go_wp2_with fail
            go_ret
            rw [HN.out]
            exact ⟨by simp, rfl⟩
          · have HN := Lib.hid (all_next' hx HA.out (p := partB) (by simp [partB]; omega))
            clear hx HA hcc
            go_wp2_with fail
            go_round
            case rel => exact ⟨k + 1, by omega, congrArg _ (wrap_s HS.out hlt), HN⟩
            case measure =>
              rw [wrap_s HS.out hlt]
              exact int_less hlt
      · obtain rfl : k = L.length := by omega
        have hx : L.all partB = true := by have := HA.out; rwa [List.take_length] at this
        have HE := Lib.hid hx
        clear hx
        have h2c : ((L.length : Int) ≤ 64) ↔ L.length ≤ 64 := by omega
        have h1c : ((1 : Int) ≤ L.length) ↔ 1 ≤ L.length := by omega
        have H2 := Lib.hid h2c
        have H1 := Lib.hid h1c
        clear h1c h2c
        by_cases h1 : (1 : Int) ≤ L.length
        · go_wp2_with fail
          go_ret
          exact ⟨congrArg (fun b => Ending.returned (Value.bool b)) (by simp [HE.out, H2.out, show 1 ≤ L.length by omega]), rfl⟩
        · go_wp2_with fail
          go_ret
          exact ⟨congrArg (fun b => Ending.returned (Value.bool b)) (by simp [show ¬ 1 ≤ L.length by omega]), rfl⟩
end Go.Proofs.Ytfgmkdghpdpdkaa
