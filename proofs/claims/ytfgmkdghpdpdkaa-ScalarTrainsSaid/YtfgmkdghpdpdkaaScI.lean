/- The document's Range, down, May. Conditions: those that each theorem names. -/
import Derived.Test.YtfgmkdghpdpdkaaScH
import Derived.BigQuiet
namespace Go.Proofs.Ytfgmkdghpdpdkaa
set_option linter.unusedVariables false
open Go Go.RowKit Vc Rk
namespace Sc
/-- A row of numbers, also none: its form, and its cells in every world that keeps it. -/
theorem ints_row {w : World} {v : Value} {L : List Int} (h : IntsAt w v L) : ∃ p c, v = .slice p L.length c ∧ ∀ (k : Nat) x, L[k]? = some x → ∃ b off, p = some ⟨b, off, none⟩ ∧ b < w.heap.size ∧ ∀ wr, Below w.heap.size w wr → wr.cell? ⟨b, off + k, none⟩ = some (.int .i64 x) := by
  rcases h with ⟨rfl, p, c, rfl⟩ | ⟨b, off, c, e, hb, hc⟩
  · exact ⟨p, c, rfl, fun k x hx => by simp at hx⟩
  · refine ⟨_, c, e, fun k x hx => ⟨b, off, rfl, hb, fun wr hw => ?_⟩⟩
    obtain ⟨hk, rfl⟩ := List.getElem?_eq_some_iff.1 hx
    exact hc wr (hw.block b hb) k hk
theorem part_ways (n : Int) : (partB n = true ∧ ¬ n < -32768 ∧ ¬ 32767 < n) ∨ (partB n = false ∧ (n < -32768 ∨ (¬ n < -32768 ∧ 32767 < n))) := by
  by_cases h : -32768 ≤ n ∧ n ≤ 32767
  · left; unfold partB; rw [decide_eq_true h.1, decide_eq_true h.2]; exact ⟨rfl, by omega, by omega⟩
  · right
    refine ⟨?_, by omega⟩
    unfold partB
    by_cases c : -32768 ≤ n
    · rw [decide_eq_false (show ¬ n ≤ 32767 from fun d => h ⟨c, d⟩), Bool.and_false]
    · rw [decide_eq_false c, Bool.false_and]
set_option maxHeartbeats 1000000 in
set_option maxRecDepth 100000 in
theorem range_any (L : List Int) (v : Value) (w : World) (h : IntsAt w v L) (hl : L.length ≤ maxLen) :
    Calls Try.prog 29 #[v] w fun e w' => e = .returned (.bool (L.all partB)) ∧ w = w' := by
  obtain ⟨R, hR⟩ : ∃ R, R = L.all partB := ⟨_, rfl⟩
  rw [← hR]
  have HR := Lib.hid hR
  obtain ⟨p, c, rfl, hc⟩ := ints_row h
  have HC := Lib.hid hc
  obtain ⟨n, hn⟩ : ∃ n, n = L.length := ⟨_, rfl⟩
  rw [← hn] at hl ⊢
  have HL := Lib.hid hl
  have HN := Lib.hid hn
  clear h hR hl hn hc
  go_enter Try.func29, Try.ntmps29
  go_wp2_with fail
  go_loop [3] (fun i => ∃ k : Nat, k ≤ n ∧ i = .int .i64 k ∧ Hid ((L.take k).all partB = true)) (fun i => n - (intOf i).toNat)
  case atStart => exact ⟨0, Nat.zero_le _, rfl, Lib.hid (by simp)⟩
  case round =>
    obtain ⟨k, hk, rfl, HA⟩ := hrel
    by_cases hlt : k < n
    · have hlk : k < L.length := by rw [← HN.out]; exact hlt
      have hx : L[k]? = some L[k] := List.getElem?_eq_getElem hlk
      generalize L[k] = x at hx
      obtain ⟨g, off, rfl, _, hcc⟩ := HC.out k x hx
      have ca := hcc w (Below.refl _ _)
      have VX := Lib.hid hx
      clear hcc hlk hx
      rcases part_ways x with ⟨hp, h1, h2⟩ | ⟨hp, h⟩
      · have HX := Lib.hid (all_next' VX.out HA.out hp)
        clear hp HA VX
        go_wp2_with fail
        go_round
        case rel => exact ⟨k + 1, by omega, congrArg _ (wrap_s HL.out hlt), HX⟩
        case measure => rw [wrap_s HL.out hlt]; exact int_less hlt
      · have HX : Hid (R = false) := Lib.hid (by rw [HR.out]; exact all_no' VX.out hp)
        clear hp HA VX
        rcases h with h1 | ⟨h1, h2⟩
        all_goals
          go_wp2_with fail
          go_ret
          rw [HX.out]
          exact ⟨rfl, rfl⟩
    · obtain rfl : k = n := by omega
      have HX : Hid (R = true) := Lib.hid (by rw [HR.out]; have := HA.out; rwa [HN.out, List.take_length] at this)
      go_wp2_with fail
      go_ret
      rw [HX.out]
      exact ⟨rfl, rfl⟩
theorem down_any (a b : Int) (w : World) (h0 : 0 ≤ a) (h1 : a ≤ 1099511627776) (hb : 0 < b) :
    Calls Try.prog 30 #[.int .i64 a, .int .i64 b] w fun e w' => e = .returned (.int .i64 (a / b)) ∧ w = w' := by
  have e : a.fdiv b = a / b := by
    rw [Int.fdiv_eq_ediv_of_nonneg a (by omega)]
  have C := Lib.hid (divRef_any a b w (by simp; omega) (by unfold negB; exact decide_eq_false (by omega)) (by omega) (by omega))
  rw [e] at C
  clear e
  generalize a / b = q at *
  go_enter Try.func30, Try.ntmps30
  go_wp2_with (refine C.out.mono ?_; rintro _ _ ⟨rfl, rfl⟩)
  go_ret
  exact ⟨rfl, rfl⟩
theorem vecB_is (L : List Int) : vecB L = (decide (1 ≤ L.length) && decide (L.length ≤ 64) && L.all partB) := rfl
set_option maxHeartbeats 4000000 in
set_option maxRecDepth 100000 in
theorem may_any (lo hi : List Int) (u v : Value) (w : World) (hu : IntsAt w u lo) (hv : IntsAt w v hi) (hl : lo.length ≤ maxLen) (hh : hi.length ≤ maxLen) :
    Calls Try.prog 28 #[.agg #[u, v]] w fun e w' => e = .returned (.bool (mayB lo hi)) ∧ Below w.heap.size w w' := by
  obtain ⟨W0, hW0⟩ : ∃ W0, W0 = w.alloc (.cells #[u, v] 25) := ⟨_, rfl⟩
  have hb0 : Below w.heap.size w W0 := by rw [hW0]; exact fresh_alloc _ _
  have hz : W0.heap[w.heap.size]? = some (.cells #[u, v] 25) := by rw [hW0]; exact heap_last _ _
  have d0 : W0.cell? ⟨w.heap.size, 0, none⟩ = some u := by rw [Lib.cell_of_heap hz]; rfl
  have d1 : W0.cell? ⟨w.heap.size, 1, none⟩ = some v := by rw [Lib.cell_of_heap hz]; rfl
  have hs0 : w.heap.size < W0.heap.size := by rw [hW0]; simp
  have C1 := Lib.hid (range_any lo u W0 (hu.below hb0) hl)
  have C2 := Lib.hid (range_any hi v W0 (hv.below hb0) hh)
  have HB0 := Lib.hid hb0
  obtain ⟨p1, c1, rfl, hc1⟩ := ints_row (hu.below hb0)
  obtain ⟨p2, c2, rfl, hc2⟩ := ints_row (hv.below hb0)
  obtain ⟨B, hB⟩ : ∃ B, B = mayB lo hi := ⟨_, rfl⟩
  rw [← hB]
  have hno : ¬ (lo.length = hi.length ∧ 1 ≤ lo.length ∧ lo.length ≤ 64 ∧ lo.all partB = true ∧ hi.all partB = true) → B = false := fun h => by
    rw [hB, ← Bool.not_eq_true]
    intro h'
    obtain ⟨a, b, c, d⟩ := may_of h'
    simp only [vecB, Bool.and_eq_true, decide_eq_true_eq] at a b
    exact h ⟨c, a.1.1, a.1.2, a.2, b.2⟩
  have hyes : lo.length = hi.length → 1 ≤ lo.length → lo.length ≤ 64 → lo.all partB = true → hi.all partB = true → B = (spansL lo hi).all lowB := fun a b c d e => by
    rw [hB]
    have x : vecB lo = true := by simp [vecB, b, c]; simpa using d
    have y : vecB hi = true := by simp [vecB, ← a, b, c]; simpa using e
    simp [mayB, x, y, a]
  have HC1 := Lib.hid hc1
  have HC2 := Lib.hid hc2
  have HY := Lib.hid hyes
  have HNO := Lib.hid hno
  have HZ : Hid (∀ wr, Below W0.heap.size W0 wr → wr.cell? ⟨w.heap.size, 0, none⟩ = some (.slice p1 lo.length c1) ∧ wr.cell? ⟨w.heap.size, 1, none⟩ = some (.slice p2 hi.length c2)) := Lib.hid (fun wr hw => by
    have h := (hw.block _ hs0).trans hz
    exact ⟨by rw [Lib.cell_of_heap h]; rfl, by rw [Lib.cell_of_heap h]; rfl⟩)
  have HS0 : Hid (w.heap.size ≤ W0.heap.size) := Lib.hid (Nat.le_of_lt hs0)
  have HSP : Hid (lo.length = hi.length → (spansL lo hi).length = lo.length) := Lib.hid (fun h => spans_len h)
  have HSA : Hid (∀ k a b, lo[k]? = some a → hi[k]? = some b → (spansL lo hi)[k]? = some (a, b)) := Lib.hid (fun k a b ha hb => by
    unfold spansL
    rw [List.getElem?_zip_eq_some]
    exact ⟨ha, hb⟩)
  have HLM : Hid (lo.length ≤ maxLen) := Lib.hid hl
  clear hz hu hv hl hh hb0 hB hno hyes hc1 hc2 hs0
  obtain ⟨n1, hn1⟩ : ∃ n, n = lo.length := ⟨_, rfl⟩
  obtain ⟨n2, hn2⟩ : ∃ n, n = hi.length := ⟨_, rfl⟩
  rw [← hn1] at C1 d0 HZ HNO HY HSP HLM ⊢
  rw [← hn2] at C2 d1 HZ HNO HY HSP ⊢
  rw [← hn1, ← hn2] at hW0
  have HN1 := Lib.hid hn1
  have HN2 := Lib.hid hn2
  clear hn1 hn2
  generalize lo.all partB = b1 at *
  generalize hi.all partB = b2 at *
  have ways : ¬ n1 = n2 ∨ (n1 = n2 ∧ (n1 < 1 ∨ (¬ n1 < 1 ∧ (64 < n1 ∨ (¬ 64 < n1 ∧ (b1 = false ∨ (b1 = true ∧ (b2 = false ∨ b2 = true)))))))) := by
    cases b1 <;> cases b2 <;> simp <;> omega
  have enter : ∀ (p : Prop), p → p := fun _ h => h
  rcases ways with hne | ⟨rfl, h1 | ⟨h1, h64 | ⟨h64, rfl | ⟨rfl, rfl | rfl⟩⟩⟩⟩
  · have hB := HNO.out (fun h => hne h.1)
    subst hB
    have hi1 : ¬ (n1 : Int) = (n2 : Int) := by omega
    have hi2 : ((n1 : Int) == (n2 : Int)) = false := beq_eq_false_iff_ne.2 hi1
    go_enter Try.func28, Try.ntmps28
    go_upto_region 1 with fail
    rw [← hW0]
    clear hW0
    go_wp2_with fail
    go_ret
    exact ⟨rfl, HB0.out⟩
  · have hB := HNO.out (fun h => by omega)
    subst hB
    have hi1 : (n1 : Int) < 1 := by omega
    go_enter Try.func28, Try.ntmps28
    go_upto_region 1 with fail
    rw [← hW0]
    clear hW0
    go_wp2_with fail
    go_ret
    exact ⟨rfl, HB0.out⟩
  · have hB := HNO.out (fun h => by omega)
    subst hB
    have hi1 : ¬ (n1 : Int) < 1 := by omega
    have hi2 : (64 : Int) < n1 := by omega
    go_enter Try.func28, Try.ntmps28
    go_upto_region 1 with fail
    rw [← hW0]
    clear hW0
    go_wp2_with fail
    go_ret
    exact ⟨rfl, HB0.out⟩
  · have hB := HNO.out (fun h => by cases h.2.2.2.1)
    subst hB
    have hi1 : ¬ (n1 : Int) < 1 := by omega
    have hi2 : ¬ (64 : Int) < n1 := by omega
    go_enter Try.func28, Try.ntmps28
    go_upto_region 1 with fail
    rw [← hW0]
    clear hW0
    go_wp2_with (refine C1.out.mono ?_; rintro _ _ ⟨rfl, rfl⟩)
    go_ret
    exact ⟨rfl, HB0.out⟩
  · have hB := HNO.out (fun h => by cases h.2.2.2.2)
    subst hB
    have hi1 : ¬ (n1 : Int) < 1 := by omega
    have hi2 : ¬ (64 : Int) < n1 := by omega
    go_enter Try.func28, Try.ntmps28
    go_upto_region 1 with fail
    rw [← hW0]
    clear hW0
    go_wp2_with (first | (with_reducible refine C1.out.mono ?_; rintro _ _ ⟨rfl, rfl⟩) | (with_reducible refine C2.out.mono ?_; rintro _ _ ⟨rfl, rfl⟩))
    go_ret
    exact ⟨rfl, HB0.out⟩
  · have hB := HY.out rfl (by omega) (by omega) rfl rfl
    have HBE := Lib.hid hB
    have hi1 : ¬ (n1 : Int) < 1 := by omega
    have hi2 : ¬ (64 : Int) < n1 := by omega
    have HSL := Lib.hid (HSP.out rfl)
    clear hB HY HNO HSP
    go_enter Try.func28, Try.ntmps28
    go_upto_region 1 with fail
    rw [← hW0]
    clear hW0
    go_upto_region 3 with (first | (with_reducible refine C1.out.mono ?_; rintro _ _ ⟨rfl, rfl⟩) | (with_reducible refine C2.out.mono ?_; rintro _ _ ⟨rfl, rfl⟩))
    go_wp2_with fail
    clear C1 C2
    go_loopw [3] (fun i wr => ∃ k : Nat, k ≤ n1 ∧ i = .int .i64 k ∧ Below W0.heap.size W0 wr ∧ ((spansL lo hi).take k).all lowB = true) (fun i _ => n1 - (intOf i).toNat)
    case atStart => exact ⟨0, Nat.zero_le _, rfl, Below.refl _ _, by simp⟩
    case round =>
      obtain ⟨k, hk, rfl, hbw, hal⟩ := hrel
      obtain ⟨wo, rfl⟩ : ∃ wo : World, wo = wr := ⟨_, rfl⟩
      obtain ⟨x0, x1⟩ := HZ.out wo hbw
      have HBW := Lib.hid hbw
      have HAL := Lib.hid hal
      by_cases hlt : k < n1
      · obtain ⟨a, ha⟩ : ∃ a, lo[k]? = some a := ⟨_, List.getElem?_eq_getElem (by have := HN1.out; omega)⟩
        obtain ⟨b, hb⟩ : ∃ b, hi[k]? = some b := ⟨_, List.getElem?_eq_getElem (by have := HN2.out; omega)⟩
        obtain ⟨g1, o1, rfl, _, hy1⟩ := HC1.out k a ha
        obtain ⟨g2, o2, rfl, _, hy2⟩ := HC2.out k b hb
        have y1 := hy1 wo hbw
        have y2 := hy2 wo hbw
        have hs := HSA.out k a b ha hb
        have hkn : (k : Int) < (n1 : Int) := by omega
        have HLT := Lib.hid hlt
        have mixed : Try.prog.follows .mixedOrders = true := by kernel_rfl
        by_cases hab : b < a
        · have hf : lowB (a, b) = false := by simp [lowB]; omega
          have hB := HBE.out.trans (all_no' hs hf)
          subst hB
          clear hy1 hy2 ha hb hs hf hbw hal
          go_wp2_with fail
          go_quiet (fail)
          go_wp2_with fail
          go_ret
          exact ⟨rfl, HB0.out.trans (below_drewN (HBW.out.mono HS0.out) _)⟩
        · have hf : lowB (a, b) = true := by simp [lowB]; omega
          have HN := Lib.hid (all_next' hs hal hf)
          clear hy1 hy2 ha hb hs hf hbw hal
          go_wp2_with fail
          go_quiet (fail)
          go_wp2_with fail
          go_roundw
          case rel => exact ⟨k + 1, HLT.out, by first | rfl | go_num, below_drewN HBW.out _, HN.out⟩
          case measure => have := HLT.out; simp only [intOf]; omega
      · obtain rfl : k = n1 := by omega
        have hB : B = true := by rw [HBE.out, ← hal, ← HSL.out, List.take_length]
        subst hB
        have HF := Lib.hid (HB0.out.trans (hbw.mono HS0.out))
        clear hbw hal
        go_wp2_with fail
        go_ret
        exact ⟨rfl, HF.out⟩
end Sc
end Go.Proofs.Ytfgmkdghpdpdkaa
