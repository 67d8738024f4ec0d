/- The document's own Check over rows. Conditions: those that each theorem names. -/
import Derived.Test.YtbfaoelgbfhjdaaIdD
import Derived.BigQuiet
namespace Go.Proofs.Ytbfaoelgbfhjdaa
set_option linter.unusedVariables false
open Go Go.RowKit Ids
set_option maxHeartbeats 4000000 in
set_option maxRecDepth 100000 in
theorem checkRef_any (L : List Int) (v : Value) (w : World) (h : IntsAt w v L) (hl : L.length ≤ maxLen) :
    Calls Try.prog 13 #[v] w fun e w' => e = .returned (.int .i64 (chkE L)) ∧ Below w.heap.size w w' := by
  have HS := Lib.hid hl
  clear hl
  rcases h with ⟨rfl, q, c, rfl⟩ | ⟨b, off, c, rfl, hb, hc⟩
  · go_enter Try.func13, Try.ntmps13
    go_wp2
    go_loop [3] (fun i => i = .int .i64 0) (fun _ => 0)
    case atStart => rfl
    case round =>
      subst hrel
      go_wp2
      go_ret
      exact ⟨retI (chkE_yes okB_nil), Below.refl _ _⟩
  · go_enter Try.func13, Try.ntmps13
    have HC := Lib.hid hc
    clear hc
    go_wp2
    go_loopw [3] (fun i wr => ∃ k : Nat, k ≤ L.length ∧ i = .int .i64 k ∧ Hid (okB (L.take k)) ∧ Qt w wr) (fun i _ => L.length - (intOf i).toNat)
    case atStart => exact ⟨0, Nat.zero_le _, rfl, Lib.hid okB_nil, Qt.refl _⟩
    case round =>
      obtain ⟨k, hk, rfl, HA, hq⟩ := hrel
      have HQ := Lib.hid hq
      clear hq
      obtain ⟨wo, rfl⟩ : ∃ wo : World, wo = wr := ⟨_, rfl⟩
      by_cases hlt : k < L.length
      · have hcell := HC.out wo (HQ.out.block _) k hlt
        have hx : L[k]? = some L[k] := List.getElem?_eq_getElem hlt
        have hlt' : (k : Int) < (L.length : Int) := by omega
        have hcell2 : Hid (∀ j, k = j + 1 → wo.cell? ⟨b, off + j, none⟩ = some (.int .i64 (lastL (L.take k)))) := Lib.hid (by
          rintro j rfl
          have hj : j < L.length := by omega
          rw [HC.out wo (HQ.out.block _) j hj, lastL_take (List.getElem?_eq_getElem hj)])
        generalize hcc : L[k] = n at hx hcell
        have HNX := Lib.hid (fun h1 h2 => okB_next hx HA.out h1 h2)
        have HNO := Lib.hid (fun h => okB_no hx h)
        have HE0 : Hid (k = 0 → lastL (L.take k) = 0) := Lib.hid (by rintro rfl; rfl)
        have HGE : Hid (0 ≤ lastL (L.take k)) := Lib.hid (by
          by_cases he : L.take k = []
          · rw [he]; decide
          · have := (HA.out.2 _ (lastL_mem he)).1; omega)
        clear hx hcc HA
        by_cases h1 : n < 1
        · have HN := Lib.hid (chkE_no (HNO.out fun c => by have := HGE.out; omega))
          have hd1 : decide (n < 1) = true := by simp [h1]
          clear HNX HNO HE0 HGE hcell2
          go_wp2_with fail
          go_quiet (fail)
          go_wp2
          go_ret
          exact ⟨retI HN.out, (HQ.out.drewN _).2⟩
        · by_cases h2 : 4503599627370496 < n
          · have HN := Lib.hid (chkE_no (HNO.out fun c => by omega))
            have hd1 : decide (n < 1) = false := by simp [h1]
            have hd2 : decide (4503599627370496 < n) = true := by simp [h2]
            clear HNX HNO HE0 HGE hcell2
            go_wp2_with fail
            go_quiet (fail)
            go_wp2
            go_ret
            exact ⟨retI HN.out, (HQ.out.drewN _).2⟩
          · have hd1 : decide (n < 1) = false := by simp [h1]
            have hd2 : decide (4503599627370496 < n) = false := by simp [h2]
            rcases k with _ | j
            · have hz := HE0.out rfl
              have HN := Lib.hid (HNX.out (by rw [hz]; omega) (by omega))
              have hc0 : wo.cell? ⟨b, off, none⟩ = some (.int .i64 n) := hcell
              have hl0 : (0 : Int) < (L.length : Int) := by omega
              clear HNX HNO HE0 HGE hcell2 hz hcell hlt'
              simp only [Int.ofNat_zero, Int.natCast_zero]
              go_wp2_with fail
              go_quiet (fail)
              go_wp2
              go_roundw
              case rel => exact ⟨1, by omega, rfl, HN, HQ.out.drewN _⟩
              case measure => simp [intOf]; omega
            · have hc2 := hcell2.out j rfl
              have hwj : IntKind.i64.wrap ((j : Int) + 1 - 1) = (j : Int) := by rw [IntKind.wrap_i64]; have := HS.out; unfold maxLen at this; omega
              have hwk : IntKind.i64.wrap (j : Int) = (j : Int) := by rw [IntKind.wrap_i64]; have := HS.out; unfold maxLen at this; omega
              have hjl : (j : Int) < (L.length : Int) := by omega
              have hjz : (0 : Int) ≤ (j : Int) := by omega
              have HWS : Hid (wrap64 ((j : Int) + 1 + 1) = ((j + 1 + 1 : Nat) : Int)) := Lib.hid (wrap_s HS.out hlt)
              have hd3 : (0 : Int) < ((j + 1 : Nat) : Int) := by omega
              generalize hy : lastL (L.take (j + 1)) = y at hc2 HNX HNO
              by_cases h3 : n ≤ y
              · have HN := Lib.hid (chkE_no (HNO.out fun c => by omega))
                clear HNX HNO HE0 HGE hcell2
                go_wp2_with fail
                go_quiet (fail)
                go_wp2
                go_ret
                exact ⟨retI HN.out, (HQ.out.drewN _).2⟩
              · have HN := Lib.hid (HNX.out (by omega) (by omega))
                have hd4 : decide (n ≤ y) = false := by simp [h3]
                clear HNX HNO HE0 HGE hcell2
                go_wp2_with fail
                go_quiet (fail)
                go_wp2
                go_roundw
                case rel => exact ⟨j + 1 + 1, by omega, congrArg _ HWS.out, HN, HQ.out.drewN _⟩
                case measure =>
                  rw [HWS.out]
                  exact int_less hlt
      · obtain rfl : k = L.length := by omega
        have hx := HA.out
        rw [List.take_length] at hx
        have HE := Lib.hid (chkE_yes hx)
        clear hx HA
        go_wp2_with fail
        go_ret
        exact ⟨retI HE.out, HQ.out.2⟩
end Go.Proofs.Ytbfaoelgbfhjdaa
