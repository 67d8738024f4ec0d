/- The walk of RangesAdds. Conditions: those that each theorem names. -/
import Derived.Test.YtioidkbpjkcjeaaRnArgs
namespace Go.Proofs.Ytioidkbpjkcjeaa
set_option linter.unusedVariables false
open Go Go.RowKit Go.Shelf Go.Sort Ids
namespace Rn
theorem seg_split {low mid : Int} (h1 : low ≤ mid) (h2 : mid < 9223372036854775807) : ∀ (L : List En), (∀ e ∈ L, okE e) → (seg low mid L).length + (seg (mid + 1) 9223372036854775807 L).length = (seg low 9223372036854775807 L).length
  | [], _ => rfl
  | e :: L, h => by
    have ih := seg_split h1 h2 L (fun x hx => h x (List.mem_cons_of_mem _ hx))
    have he := h e (List.mem_cons_self ..)
    unfold okE at he
    unfold seg at ih ⊢
    simp only [List.filter_cons]
    have a1 : inB low mid e = true ↔ low ≤ e.1 ∧ e.1 ≤ mid := by simp [inB]
    have a2 : inB (mid + 1) 9223372036854775807 e = true ↔ mid + 1 ≤ e.1 ∧ e.1 ≤ 9223372036854775807 := by simp [inB]
    have a3 : inB low 9223372036854775807 e = true ↔ low ≤ e.1 ∧ e.1 ≤ 9223372036854775807 := by simp [inB]
    by_cases c1 : low ≤ e.1
    · by_cases c2 : e.1 ≤ mid
      · rw [if_pos (a1.2 ⟨c1, c2⟩), if_neg (fun x => by have := a2.1 x; omega), if_pos (a3.2 ⟨c1, he.1.2⟩)]
        simp only [List.length_cons]; omega
      · rw [if_neg (fun x => by have := a1.1 x; omega), if_pos (a2.2 ⟨by omega, he.1.2⟩), if_pos (a3.2 ⟨c1, he.1.2⟩)]
        simp only [List.length_cons]; omega
    · rw [if_neg (fun x => by have := a1.1 x; omega), if_neg (fun x => by have := a2.1 x; omega), if_neg (fun x => by have := a3.1 x; omega)]
      exact ih
theorem seg_all {L : List En} (h : ∀ e ∈ L, okE e) : seg (-9223372036854775808) 9223372036854775807 L = L := by
  unfold seg
  rw [List.filter_eq_self]
  intro e he
  have := h e he
  unfold okE at this
  simp [inB, this.1.1, this.1.2]
theorem ids_len (R : List En) : (idsE R).length ≤ R.length := by
  have := uniL_length (R.map (fun x => x.2)) []
  unfold idsE
  simpa using this
theorem wr_sum {c1 c2 c3 : Nat} (h : c1 + c2 = c3) (hb : c3 ≤ 1125899906842624) : wrap64 ((c1 : Int) + (c2 : Int)) = (c3 : Int) ∧ IntKind.i64.wrap ((c1 : Int) + (c2 : Int)) = (c3 : Int) :=
  ⟨by unfold wrap64; omega, by rw [IntKind.wrap_i64]; omega⟩
theorem wr_mid {m : Int} (h : -9223372036854775808 ≤ m ∧ m < 9223372036854775807) : wrap64 (m + 1) = m + 1 := by unfold wrap64; omega
set_option maxHeartbeats 4000000 in
set_option maxRecDepth 100000 in
theorem adds_walk (v0 : Value) (l0 : List En) (low mid : Int) (w : World) (wf0 : HsAt w v0 l0) (s0 : l0.length * 16 ≤ 140737488351232) (ok0 : ∀ y ∈ l0, OkH y) (hl : -9223372036854775808 ≤ low ∧ low ≤ 9223372036854775807) (hm : -9223372036854775808 ≤ mid ∧ mid ≤ 9223372036854775807) :
    Calls Try.prog 5 #[v0, .int .i64 low, .int .i64 mid] w fun e w' => e = .returned (.bool true) ∧ Below w.heap.size w w' := by
  have HB := Lib.hid (build_any l0 v0 w wf0 (by omega))
  have G : Good (can l0) := can_good (fun e he => (ok0 e he).ok) (by omega)
  obtain ⟨L, hL⟩ : ∃ L, L = can l0 := ⟨_, rfl⟩
  rw [← hL] at G HB
  obtain ⟨p, c, rfl⟩ := wf0.form
  clear hL wf0 s0 ok0
  have HC := Lib.hid (fun (lo hi : Int) (B K : Nat) (W : World) (h : IxO W B K L) => count_any lo hi W h G)
  have HLN := Lib.hid (fun (B K : Nat) (W : World) (h : IxO W B K L) => len_any W h)
  have HBT := Lib.hid (fun (lo hi : Int) (B K : Nat) (W : World) (h : IxO W B K L) => between_any lo hi W h G)
  have HLEN : Hid (L.length ≤ 8796093022208) := Lib.hid (by have := G.len; omega)
  generalize l0.length = n0 at *
  by_cases hx : mid < low ∨ mid = 9223372036854775807
  · go_enter Try.func5, Try.ntmps5
    go_wp2_with fail
    refine HB.out.mono ?_
    rintro e w1 ⟨K, rfl, hx1, hb⟩
    have HX1 := Lib.hid hx1
    have HB1 := Lib.hid hb
    clear hx1 hb HB
    go_wp2_with fail
    refine (awake_yes _).mono ?_
    rintro e w2 ⟨rfl, hb⟩
    have HX2 := Lib.hid (HX1.out.below hb)
    have HB2 := Lib.hid (HB1.out.trans (hb.mono HB1.out.size))
    clear hb
    have HC2 := Lib.hid (HC.out mid low _ _ _ HX2.out)
    obtain ⟨n, hn⟩ : ∃ n, n = (seg mid low L).length := ⟨_, rfl⟩
    rw [← hn] at HC2
    have hn0 : (0 : Int) ≤ (n : Int) := by omega
    clear hn
    by_cases hx1 : mid < low
    · have h1 : decide (low > mid) = true := decide_eq_true hx1
      go_wp2_with fail
      refine HC2.out.mono ?_
      rintro e w3 ⟨rfl, hg⟩
      have HB3 := Lib.hid (HB2.out.trans (hg.below.mono HB2.out.size))
      clear hg
      go_wp2_with fail
      go_ret
      exact ⟨by first | rfl | simp [hn0], HB3.out⟩
    · have h1 : decide (low > mid) = false := decide_eq_false (by omega)
      obtain rfl : mid = 9223372036854775807 := by omega
      go_wp2_with fail
      refine HC2.out.mono ?_
      rintro e w3 ⟨rfl, hg⟩
      have HB3 := Lib.hid (HB2.out.trans (hg.below.mono HB2.out.size))
      clear hg
      go_wp2_with fail
      go_ret
      exact ⟨by first | rfl | simp [hn0], HB3.out⟩
  · have h1 : decide (low > mid) = false := decide_eq_false (by omega)
    have h1' : ¬ low > mid := by omega
    have h2 : (mid == 9223372036854775807) = false := by simp; omega
    obtain ⟨c1, hc1⟩ : ∃ c1, c1 = (seg low mid L).length := ⟨_, rfl⟩
    obtain ⟨c2, hc2⟩ : ∃ c2, c2 = (seg (mid + 1) 9223372036854775807 L).length := ⟨_, rfl⟩
    obtain ⟨c3, hc3⟩ : ∃ c3, c3 = (seg low 9223372036854775807 L).length := ⟨_, rfl⟩
    have hs := seg_split (low := low) (mid := mid) (by omega) (by omega) L G.ok
    have hl1 := seg_len low mid L
    have hl2 := seg_len (mid + 1) 9223372036854775807 L
    have hb3 := HLEN.out
    have HC1 := Lib.hid (fun (B K : Nat) (W : World) (h : IxO W B K L) => HC.out low mid B K W h)
    have HC2 := Lib.hid (fun (B K : Nat) (W : World) (h : IxO W B K L) => HC.out (mid + 1) 9223372036854775807 B K W h)
    have HC3 := Lib.hid (fun (B K : Nat) (W : World) (h : IxO W B K L) => HC.out low 9223372036854775807 B K W h)
    have HC4 := Lib.hid (fun (B K : Nat) (W : World) (h : IxO W B K L) => HC.out (-9223372036854775808) 9223372036854775807 B K W h)
    have HBM := Lib.hid (fun (B K : Nat) (W : World) (h : IxO W B K L) => HBT.out low mid B K W h)
    have hil := ids_len (seg low mid L)
    rw [seg_all G.ok] at HC4
    rw [← hc1] at HC1 hs hl1 hil
    rw [← hc2] at HC2 hs hl2
    rw [← hc3] at HC3 hs
    generalize idsE (seg low mid L) = I at *
    obtain ⟨m, hmm⟩ : ∃ m, m = I.length := ⟨_, rfl⟩
    have HMI := Lib.hid hmm
    rw [← hmm] at hil
    have hmx : -9223372036854775808 ≤ mid ∧ mid < 9223372036854775807 := by omega
    have hle : (m : Int) ≤ (c1 : Int) := by omega
    have hc3b : c3 ≤ 1125899906842624 := by omega
    obtain ⟨hadd, hadd'⟩ := wr_sum hs hc3b
    have hmid := wr_mid hmx
    clear hc3b hmx
    have he3 : ((c3 : Int) == (c3 : Int)) = true := by simp
    generalize L.length = n at *
    have he4 : ((n : Int) == (n : Int)) = true := by simp
    clear hc1 hc2 hc3 hs hl1 hl2 hb3 hil hmm HC HBT hx hl hm
    go_enter Try.func5, Try.ntmps5
    go_wp2_with fail
    refine HB.out.mono ?_
    rintro e w1 ⟨K, rfl, hx1, hb⟩
    have HX1 := Lib.hid hx1
    have HB1 := Lib.hid hb
    clear hx1 hb HB
    go_wp2_with fail
    refine (awake_yes _).mono ?_
    rintro e w2 ⟨rfl, hb⟩
    have HX2 := Lib.hid (HX1.out.below hb)
    have HB2 := Lib.hid (HB1.out.trans (hb.mono HB1.out.size))
    clear hb HX1 HB1
    go_wp2_with fail
    refine (HC1.out _ _ _ HX2.out).mono ?_
    rintro e w3 ⟨rfl, hg⟩
    have HX3 := Lib.hid (HX2.out.below hg.below)
    have HB3 := Lib.hid (HB2.out.trans (hg.below.mono HB2.out.size))
    clear hg HX2 HB2
    go_wp2_with fail
    refine (HC2.out _ _ _ HX3.out).mono ?_
    rintro e w4 ⟨rfl, hg⟩
    have HX4 := Lib.hid (HX3.out.below hg.below)
    have HB4 := Lib.hid (HB3.out.trans (hg.below.mono HB3.out.size))
    clear hg HX3 HB3
    go_wp2_with fail
    refine (HC3.out _ _ _ HX4.out).mono ?_
    rintro e w5 ⟨rfl, hg⟩
    have HX5 := Lib.hid (HX4.out.below hg.below)
    have HB5 := Lib.hid (HB4.out.trans (hg.below.mono HB4.out.size))
    clear hg HX4 HB4
    go_wp2_with fail
    refine (HC4.out _ _ _ HX5.out).mono ?_
    rintro e w6 ⟨rfl, hg⟩
    have HX6 := Lib.hid (HX5.out.below hg.below)
    have HB6 := Lib.hid (HB5.out.trans (hg.below.mono HB5.out.size))
    clear hg HX5 HB5
    go_wp2_with fail
    refine (HLN.out _ _ _ HX6.out).mono ?_
    rintro e w7 ⟨rfl, hg⟩
    have HX7 := Lib.hid (HX6.out.below hg.below)
    have HB7 := Lib.hid (HB6.out.trans (hg.below.mono HB6.out.size))
    clear hg HX6 HB6
    go_wp2_with fail
    refine (HBM.out _ _ _ HX7.out).mono ?_
    rintro e w8 ⟨u, rfl, ho, hb⟩
    have HX8 := Lib.hid (HX7.out.below hb)
    have HB8 := Lib.hid (HB7.out.trans (hb.mono HB7.out.size))
    obtain ⟨q, d, rfl⟩ := (Own.at ho).form
    rw [← HMI.out]
    clear ho hb HX7 HB7
    go_wp2_with fail
    refine (HC1.out _ _ _ HX8.out).mono ?_
    rintro e w9 ⟨rfl, hg⟩
    have HB9 := Lib.hid (HB8.out.trans (hg.below.mono HB8.out.size))
    clear hg HX8 HB8
    go_wp2_with fail
    go_ret
    exact ⟨by first | rfl | simp [hle], HB9.out⟩
end Rn
end Go.Proofs.Ytioidkbpjkcjeaa
