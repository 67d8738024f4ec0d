/- The walk of the law StatsJoins. Conditions: those that each theorem names. -/
import Derived.Test.YtmkilmglmeohmaaSsI
namespace Go.Proofs.Ytmkilmglmeohmaa
set_option linter.unusedVariables false
open Go Go.RowKit Go.Sort
namespace Ss
set_option maxHeartbeats 2000000 in
set_option maxRecDepth 100000 in
theorem joins_any (t : Int) (L : List Int) (v : Value) (w : World) (h : IntsAt w v L) (hl : L.length * 8 ≤ 140737488355328) (ht : t ≤ 9223372036854775807) :
    Calls Try.prog 6 #[.int .i64 t, v] w fun e w' => e = .returned (.bool true) ∧ Below w.heap.size w w' := by
  have hm : L.length ≤ maxLen := by unfold maxLen; omega
  have H1 := Lib.hid (fun W (hW : Below w.heap.size w W) => and_any t L v W (h.below hW) hm ht)
  have H2 := Lib.hid (fun W (hW : Below w.heap.size w W) => or_any t L v W (h.below hW) hl ht)
  have H3 := Lib.hid (fun W (hW : Below w.heap.size w W) => rand_any t L v W (h.below hW) hm ht)
  have H4 := Lib.hid (fun W (hW : Below w.heap.size w W) => ror_any t L v W (h.below hW) hl ht)
  obtain ⟨p, c, rfl⟩ := h.form
  have HC := Lib.hid (Rx.row_cells h)
  obtain ⟨a1, a2, a3⟩ := andL_bd t L
  obtain ⟨b1, b2, b3⟩ := orL_bd t L
  obtain ⟨T, hT⟩ : ∃ T, max t 0 = T := ⟨_, rfl⟩
  rw [hT] at a2 a3 b2 b3
  have hT0 : 0 ≤ T := by omega
  have A3 : Hid (∀ k (hk : k < L.length), ∃ X, max 0 (min L[k] T) = X ∧ andL t L ≤ X ∧ X ≤ orL t L) := Lib.hid (fun k hk => ⟨inn L[k] T, inn_turned hT0, a3 _ (List.getElem_mem hk), b3 _ (List.getElem_mem hk)⟩)
  have HML := Lib.hid hm
  have HB0 := Lib.hid (Below.refl w.heap.size w)
  generalize andL t L = A at *
  generalize orL t L = O at *
  have g1 : ¬ A < 0 := by omega
  have g2 : ¬ O < 0 := by omega
  have g3 : ¬ T < A := by omega
  have g4 : ¬ T < O := by omega
  have g5 : (A != A) = false := by simp
  have g6 : (O != O) = false := by simp
  clear h hl hm ht a1 a2 a3 b1 b2 b3 hT0
  go_enter Try.func6, Try.ntmps6
  go_wp2_with fail
  refine (H1.out _ HB0.out).mono ?_
  clear H1
  rintro e w1 ⟨rfl, rfl⟩
  go_wp2_with fail
  refine (H2.out _ HB0.out).mono ?_
  clear H2
  rintro e w2 ⟨rfl, hb2⟩
  have HB2 := Lib.hid hb2
  clear hb2
  go_wp2_with fail
  refine (H3.out _ HB2.out).mono ?_
  clear H3
  rintro e w3 ⟨rfl, rfl⟩
  go_wp2_with fail
  refine (H4.out _ HB2.out).mono ?_
  clear H4
  rintro e w4 ⟨rfl, hb4⟩
  have HB4 := Lib.hid (HB2.out.trans (hb4.mono HB2.out.size))
  clear hb4
  go_wp2_with fail
  go_loop [7, 8] (fun i x => ∃ k : Nat, k ≤ L.length ∧ i = .int .i64 k) (fun i _ => L.length - (intOf i).toNat)
  case atStart => exact ⟨0, Nat.zero_le _, rfl⟩
  case round =>
    obtain ⟨k, hk, rfl⟩ := hrel
    by_cases hlt : k < L.length
    · obtain ⟨g, off, rfl, _, hc⟩ := HC.out k hlt
      have hcell := hc w4 HB4.out
      obtain ⟨X, hX, x1, x2⟩ := A3.out k hlt
      have hlt' : (k : Int) < (L.length : Int) := by omega
      generalize L[k] = x at hcell hX
      have y1 : ¬ X < A := by omega
      have y2 : ¬ O < X := by omega
      clear hc x1 x2
      go_wp2_with fail
      go_round
      case rel => exact ⟨k + 1, by omega, congrArg _ (wrap_s HML.out hlt)⟩
      case measure =>
        rw [wrap_s HML.out hlt]
        exact int_less hlt
    · obtain rfl : k = L.length := by omega
      have HA := Lib.hid (awake_yes w4)
      go_wp2_with fail
      refine HA.out.mono ?_
      rintro e w5 ⟨rfl, hb5⟩
      go_wp2_with fail
      go_ret
      exact ⟨rfl, HB4.out.trans (hb5.mono HB4.out.size)⟩
end Ss
end Go.Proofs.Ytmkilmglmeohmaa
