/- The document's own answers of chapter 6 at any rows: Check, L2, Dot, Cos, Score, Same. Conditions: those that each theorem names. -/
import Derived.Test.YtfgmkdghpdpdkaaVcE
import Derived.Deep.QuietTactic
namespace Go.Proofs.Ytfgmkdghpdpdkaa
set_option linter.unusedVariables false
open Go Go.RowKit Vc
/-- Only the tape has turned. -/
def Qt (w w' : World) : Prop := w'.heap = w.heap ∧ Below w.heap.size w w'
theorem Qt.refl (w : World) : Qt w w := ⟨rfl, Below.refl _ _⟩
theorem Qt.drewN {w w' : World} (h : Qt w w') (n : Nat) : Qt w (w'.drewN n) := ⟨h.1, below_drewN h.2 n⟩
theorem Qt.block {w w' : World} (h : Qt w w') (g : Nat) : w'.heap[g]? = w.heap[g]? := by rw [h.1]
set_option maxHeartbeats 1000000 in
theorem same_any (a b : List Int) (u v : Value) (w : World) (hu : IntsAt w u a) (hv : IntsAt w v b) (ha : a.length ≤ maxLen) (hb : b.length ≤ maxLen) :
    Calls Try.prog 15 #[u, v] w fun e w' => e = .returned (.bool (decide (a = b))) ∧ Below w.heap.size w w' := by
  by_cases hl : a.length = b.length
  · rcases hu with ⟨rfl, q, c, rfl⟩ | ⟨b1, o1, c1, rfl, hb1, hc1⟩
    · obtain rfl : b = [] := by cases b with | nil => rfl | cons _ _ => simp at hl
      obtain ⟨p2, c2, rfl⟩ := hv.form
      clear hv
      go_enter Try.func15, Try.ntmps15
      go_wp2
      go_loop [5] (fun i => i = .int .i64 0) (fun _ => 0)
      case atStart => rfl
      case round =>
        subst hrel
        go_wp2
        go_ret
        exact ⟨rfl, Below.refl _ _⟩
    · rcases hv with ⟨rfl, q, c, rfl⟩ | ⟨b2, o2, c2, rfl, hb2, hc2⟩
      · obtain rfl : a = [] := by cases a with | nil => rfl | cons _ _ => simp at hl
        go_enter Try.func15, Try.ntmps15
        go_wp2
        go_loop [5] (fun i => i = .int .i64 0) (fun _ => 0)
        case atStart => rfl
        case round =>
          subst hrel
          go_wp2
          go_ret
          exact ⟨rfl, Below.refl _ _⟩
      · have H1 := Lib.hid hc1
        have H2 := Lib.hid hc2
        have HL := Lib.hid hl
        have HS := Lib.hid ha
        clear hc1 hc2 ha hb
        rw [← hl]
        clear hl
        go_enter Try.func15, Try.ntmps15
        go_wp2
        go_loopw [5] (fun i wr => ∃ k : Nat, k ≤ a.length ∧ i = .int .i64 k ∧ Hid (a.take k = b.take k) ∧ Qt w wr) (fun i _ => a.length - (intOf i).toNat)
        case atStart => exact ⟨0, Nat.zero_le _, rfl, Lib.hid rfl, Qt.refl _⟩
        case round =>
          obtain ⟨k, hk, rfl, HT, hq⟩ := hrel
          have HQ := Lib.hid hq
          clear hq
          obtain ⟨wo, rfl⟩ : ∃ wo : World, wo = wr := ⟨_, rfl⟩
          by_cases hlt : k < a.length
          · have hlt2 : k < b.length := HL.out ▸ hlt
            have g1 := H1.out wo (HQ.out.block _) k hlt
            have g2 := H2.out wo (HQ.out.block _) k hlt2
            have hta : a.take (k + 1) = a.take k ++ [a[k]] := by rw [List.take_add_one, List.getElem?_eq_getElem hlt]; rfl
            have htb : b.take (k + 1) = b.take k ++ [b[k]] := by rw [List.take_add_one, List.getElem?_eq_getElem hlt2]; rfl
            have hne : a[k] ≠ b[k] → a ≠ b := fun h e => by subst e; exact h rfl
            have HNE := Lib.hid hne
            have HTA := Lib.hid hta
            have HTB := Lib.hid htb
            clear hta htb hne
            generalize a[k] = x at *
            generalize b[k] = y at *
            by_cases hxy : x = y
            · subst hxy
              go_wp2
              go_quiet (fail)
              go_wp2
              go_roundw
              case rel => exact ⟨k + 1, by omega, congrArg _ (wrap_s HS.out hlt), Lib.hid (by rw [HTA.out, HTB.out, HT.out]), HQ.out.drewN _⟩
              case measure =>
                rw [wrap_s HS.out hlt]
                exact int_less hlt
            · have hf : decide (a = b) = false := by simp [HNE.out hxy]
              have HF := Lib.hid hf
              clear hf
              go_wp2
              go_quiet (fail)
              go_wp2
              go_ret
              exact ⟨by rw [HF.out]; rfl, (HQ.out.drewN _).2⟩
          · obtain rfl : k = a.length := by omega
            have hf : decide (a = b) = true := by
              have h := HT.out
              rw [List.take_length, HL.out, List.take_length] at h
              simp [h]
            have HF := Lib.hid hf
            clear hf
            go_wp2
            go_ret
            exact ⟨by rw [HF.out]; rfl, HQ.out.2⟩
  · obtain ⟨p1, c1, rfl⟩ := hu.form
    obtain ⟨p2, c2, rfl⟩ := hv.form
    have hf : decide (a = b) = false := by simp; rintro rfl; exact hl rfl
    rw [hf]
    have hl' : ((a.length : Int) == (b.length : Int)) = false := by simp; omega
    clear hu hv hf
    generalize a.length = n at *
    generalize b.length = m at *
    go_enter Try.func15, Try.ntmps15
    go_wp2_with fail
    go_ret
    exact ⟨rfl, Below.refl _ _⟩
set_option maxHeartbeats 1000000 in
theorem checkRef_any (L : List Int) (v : Value) (d m : Int) (w : World) (h : IntsAt w v L) (hl : L.length ≤ maxLen) :
    Calls Try.prog 33 #[v, .int .i64 d, .int .i64 m] w fun e w' => e = .returned (.int .i64 (chk L d m)) ∧ w' = w := by
  have HV := Lib.hid (may_any L v w h hl)
  have HZ := Lib.hid (zeroRef_any L v w h hl)
  have hmet : metB m = true ↔ 1 ≤ m ∧ m ≤ 3 := by simp [metB]; omega
  have hno := fun h => @chk_no L d m h
  have hyes := fun h => @chk_yes L d m h
  obtain ⟨p, c, rfl⟩ := h.form
  clear h hl
  rw [hmet] at hno hyes
  clear hmet
  generalize chk L d m = r at *
  generalize vecB L = x at *
  generalize zeroL L = z at *
  generalize L.length = n at *
  have HN := Lib.hid hno
  have HY := Lib.hid hyes
  clear hno hyes
  cases x with
  | false =>
    obtain rfl := HN.out (by simp)
    go_enter Try.func33, Try.ntmps33
    go_wp2_with (first | (go_at_call 46; refine HV.out.mono ?_; rintro e w' ⟨rfl, rfl⟩))
    go_ret
    exact ⟨rfl, rfl⟩
  | true =>
    by_cases h1 : (n : Int) = d
    · subst h1
      by_cases hm1 : m < 1
      · obtain rfl := HN.out (by omega)
        go_enter Try.func33, Try.ntmps33
        go_wp2_with (first | (go_at_call 46; refine HV.out.mono ?_; rintro e w' ⟨rfl, rfl⟩))
        go_ret
        exact ⟨rfl, rfl⟩
      · by_cases hm2 : 3 < m
        · obtain rfl := HN.out (by omega)
          go_enter Try.func33, Try.ntmps33
          go_wp2_with (first | (go_at_call 46; refine HV.out.mono ?_; rintro e w' ⟨rfl, rfl⟩))
          go_ret
          exact ⟨rfl, rfl⟩
        · by_cases h3 : m = 3
          · subst h3
            cases z with
            | false =>
              obtain rfl := HY.out (by simp)
              go_enter Try.func33, Try.ntmps33
              go_wp2_with (first
                | (go_at_call 46; refine HV.out.mono ?_; rintro e w' ⟨rfl, rfl⟩)
                | (go_at_call 47; refine HZ.out.mono ?_; rintro e w' ⟨rfl, rfl⟩))
              go_ret
              exact ⟨rfl, rfl⟩
            | true =>
              obtain rfl := HN.out (by simp)
              go_enter Try.func33, Try.ntmps33
              go_wp2_with (first
                | (go_at_call 46; refine HV.out.mono ?_; rintro e w' ⟨rfl, rfl⟩)
                | (go_at_call 47; refine HZ.out.mono ?_; rintro e w' ⟨rfl, rfl⟩))
              go_ret
              exact ⟨rfl, rfl⟩
          · obtain rfl := HY.out ⟨rfl, rfl, by omega, by simp [h3]⟩
            go_enter Try.func33, Try.ntmps33
            go_wp2_with (first
              | (go_at_call 46; refine HV.out.mono ?_; rintro e w' ⟨rfl, rfl⟩))
            go_ret
            exact ⟨rfl, rfl⟩
    · obtain rfl := HN.out (by simp [h1])
      go_enter Try.func33, Try.ntmps33
      go_wp2_with (first | (go_at_call 46; refine HV.out.mono ?_; rintro e w' ⟨rfl, rfl⟩))
      go_ret
      exact ⟨rfl, rfl⟩
set_option maxHeartbeats 1000000 in
theorem both_any (a b : List Int) (u v : Value) (w : World) (hu : IntsAt w u a) (hv : IntsAt w v b) (ha : a.length ≤ maxLen) (hb : b.length ≤ maxLen) :
    Calls Try.prog 48 #[u, v] w fun e w' => e = .returned (.bool (alikeB a b)) ∧ w' = w := by
  have HA := Lib.hid (may_any a u w hu ha)
  have HB := Lib.hid (may_any b v w hv hb)
  obtain ⟨p1, c1, rfl⟩ := hu.form
  obtain ⟨p2, c2, rfl⟩ := hv.form
  clear hu hv
  unfold alikeB
  generalize vecB a = x at *
  generalize vecB b = y at *
  generalize a.length = n at *
  generalize b.length = m at *
  cases x with
  | false =>
    go_enter Try.func48, Try.ntmps48
    go_wp2_with (first | (go_at_call 46; refine HA.out.mono ?_; rintro e w' ⟨rfl, rfl⟩))
    go_ret
    exact ⟨by simp, rfl⟩
  | true =>
    cases y with
    | false =>
      go_enter Try.func48, Try.ntmps48
      go_wp2_with (first
        | (go_at_call 46; (with_reducible refine HA.out.mono ?_); rintro e w' ⟨rfl, rfl⟩)
        | (go_at_call 46; (with_reducible refine HB.out.mono ?_); rintro e w' ⟨rfl, rfl⟩))
      go_ret
      exact ⟨by simp, rfl⟩
    | true =>
      by_cases hl : n = m
      · subst hl
        go_enter Try.func48, Try.ntmps48
        go_wp2_with (first
          | (go_at_call 46; (with_reducible refine HA.out.mono ?_); rintro e w' ⟨rfl, rfl⟩)
          | (go_at_call 46; (with_reducible refine HB.out.mono ?_); rintro e w' ⟨rfl, rfl⟩))
        go_ret
        exact ⟨by simp, rfl⟩
      · have hl' : ((n : Int) == (m : Int)) = false := by simp; omega
        have hl2 : decide (n = m) = false := by simp [hl]
        rw [hl2]
        go_enter Try.func48, Try.ntmps48
        go_wp2_with (first
          | (go_at_call 46; (with_reducible refine HA.out.mono ?_); rintro e w' ⟨rfl, rfl⟩)
          | (go_at_call 46; (with_reducible refine HB.out.mono ?_); rintro e w' ⟨rfl, rfl⟩))
        go_ret
        exact ⟨rfl, rfl⟩
end Go.Proofs.Ytfgmkdghpdpdkaa
