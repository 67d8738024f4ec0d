/- The library's Grow, Concat, Sort and Compact over rows of texts. Conditions: those that each theorem names. -/
import Derived.Test.YtkbdokakoapooaaGreatDoorMfC
import Derived.Lib.AppendZeros
import Derived.Sort.Grow
namespace Go.Proofs.YtkbdokakoapooaaGreatDoor
set_option linter.unusedVariables false
open Go Go.RowKit Go.Shelf Go.Sort
namespace Mf
/-- slices.Grow of none: an empty row of one's own with room. -/
theorem grow_any (n : Nat) (w : World) (h0 : 0 < n) (hn : n ≤ 2097152) :
    Calls Tryz.prog 130 #[.slice none 0 0, .int .i64 n] w fun e w' => ∃ u, e = .returned u ∧ OwnT w' w.heap.size u [] ∧ Below w.heap.size w w' := by
  obtain ⟨i0, hi, hz0, hz1, hz2⟩ := info_parts infoTx
  have hcap := nextslicecap_zero h0
  have hrun := fun ty => Lib.run_append_nil_zeros (P := Tryz.prog) w 59 3 ty 9 i0 (.string ⟨#[]⟩) .i64 .i64 Tryz.underlying59 Tryz.underlying3 hi hz0 n h0 (by omega) (by omega) (by rw [hz2]; omega)
  have hge := grownCap_ge w n 0 9
  have hcm : grownCap w n 0 9 ≤ maxLen := grownCap_le_maxLen w n 0 9 (by unfold maxLen; omega)
  have hcs : (Builtin.zeroCells (Value.string ⟨#[]⟩).cells n ++ Builtin.zeroCells (Value.string ⟨#[]⟩).cells (grownCap w n 0 9 - n)).size = grownCap w n 0 9 := by
    rw [Array.size_append, size_zeroCells, size_zeroCells]
    have : (Value.string ⟨#[]⟩).cells.size = 1 := rfl
    rw [this]; omega
  generalize Builtin.zeroCells (Value.string ⟨#[]⟩).cells n ++ Builtin.zeroCells (Value.string ⟨#[]⟩).cells (grownCap w n 0 9 - n) = CS at hrun hcs
  generalize grownCap w n 0 9 = C at hrun hge hcm hcs
  have HR := Lib.hid hrun
  have hown : OwnT (w.drew.alloc (.cells CS 9)) w.heap.size (.slice (some ⟨w.heap.size, 0, none⟩) 0 C) [] :=
    ⟨rfl, .inr ⟨w.heap.size, C, CS, rfl, Nat.le_refl _, heap_new w.drew _, Nat.zero_le _, hcm, by rw [hcs]; omega, by simp [txs]⟩⟩
  have HO := Lib.hid hown
  have hB : Below w.heap.size w (w.drew.alloc (.cells CS 9)) := below_then (below_drewN w 1) (below_new w.drew _)
  have HB := Lib.hid hB
  have hCi : (C : Int) ≤ 9223372036854775807 := by unfold maxLen at hcm; omega
  clear hrun hown hB hi hz0 hz1 hz2 hcap hcs hcm
  have hs1 : ¬ (n : Int) < 0 := by omega
  have hs2 : (0 : Int) < n := by omega
  have hsub : wrap64 ((n : Int) - 0) = n := by unfold wrap64; omega
  have hnle : (n : Int) ≤ 9223372036854775807 := by omega
  go_enter Tryz.func130, Tryz.ntmps130
  have hr := HR.out
  go_wp2_with (at_builtin; refine wpList_append_run rfl _ _ _ _ rfl _ _ _ _ rfl rfl hr ?_)
  go_ret
  exact ⟨_, rfl, HO.out, HB.out⟩
def catN (L : Nat → List ByteArray) : Nat → List ByteArray
  | 0 => []
  | k + 1 => catN L k ++ L k
theorem catN_mono (L : Nat → List ByteArray) {j k : Nat} (h : j ≤ k) : (catN L j).length ≤ (catN L k).length := by
  induction k with
  | zero => have : j = 0 := by omega
            subst this; exact Nat.le_refl _
  | succ k ih =>
    rcases Nat.lt_or_ge j (k + 1) with c | c
    · have := ih (by omega)
      show _ ≤ (catN L k ++ L k).length
      rw [List.length_append]; omega
    · have : j = k + 1 := by omega
      subst this; exact Nat.le_refl _
theorem own_grown {w w' : World} {base : Nat} {v : Value} {A : List ByteArray} (h : OwnT w base v A) (h3 : w.grownBy w' v.ownBlock) (hbase : base ≤ w.heap.size) : Below base w w' :=
  (Below.refl base w).grown h3 hbase (fun g hg' => by
    rcases h.2 with ⟨rfl, _⟩ | ⟨g2, cap, cur, rfl, hb2, _⟩
    · cases hg'
    · simp [Value.ownBlock] at hg'; omega)
set_option maxHeartbeats 2000000 in
set_option maxRecDepth 100000 in
theorem concat_any (g N c0 : Nat) (S : Nat → Value) (L : Nat → List ByteArray) (w : World) (hN : N ≤ 1000) (hg : g < w.heap.size) (hc : ∀ W : World, W.heap[g]? = w.heap[g]? → ∀ k, k < N → W.cell? ⟨g, k, none⟩ = some (S k)) (ht : ∀ k, k < N → TxsAt w (S k) (L k))
    (h0 : 0 < (catN L N).length) (hm : (catN L N).length ≤ 2097152) :
    Calls Tryz.prog 101 #[.slice (some ⟨g, 0, none⟩) N c0] w fun e w' => ∃ u, e = .returned u ∧ OwnT w' w.heap.size u (catN L N) ∧ Below w.heap.size w w' := by
  have HC := Lib.hid hc
  have HT := Lib.hid ht
  have HN := Lib.hid hN
  have HM := Lib.hid hm
  have HG := Lib.hid (fun n (W : World) h0 hn => grow_any n W h0 hn)
  have H0 := Lib.hid h0
  have HGL := Lib.hid hg
  clear hc ht hm h0
  have hNi : (N : Int) ≤ 9223372036854775807 := by omega
  clear hN
  go_enter Tryz.func101, Tryz.ntmps101
  go_wp2_with fail
  go_loop [3, 11] (fun z i => ∃ k : Nat, k ≤ N ∧ i = .int .i64 k ∧ z = .int .i64 ((catN L k).length : Nat)) (fun z i => N - (intOf i).toNat)
  case atStart => exact ⟨0, Nat.zero_le _, rfl, rfl⟩
  case round =>
    obtain ⟨k, hk, rfl, rfl⟩ := hrel
    by_cases hlt : k < N
    · have hcell := HC.out w rfl k hlt
      obtain ⟨p, c, hS⟩ := (HT.out k hlt).form
      rw [hS] at hcell
      have hl1 : (catN L (k + 1)).length = (catN L k).length + (L k).length := by show (catN L k ++ L k).length = _; simp
      have hle := catN_mono L (show k + 1 ≤ N by omega)
      have hw : wrap64 (((catN L k).length : Int) + ((L k).length : Int)) = ((catN L (k + 1)).length : Int) := by
        have := HM.out
        unfold wrap64; omega
      have hnn : ¬ ((catN L (k + 1)).length : Int) < 0 := by omega
      have hll : ((L k).length : Int) ≤ 9223372036854775807 := by have := HM.out; omega
      have HL1 := Lib.hid hl1
      clear hl1 hle
      obtain ⟨m1, hm1⟩ : ∃ m, m = (catN L (k + 1)).length := ⟨_, rfl⟩
      rw [← hm1] at hw hnn HL1
      have HM1 := Lib.hid hm1
      clear hm1
      go_wp2_with fail
      go_round
      case rel => exact ⟨k + 1, by omega, congrArg _ (show (k : Int) + 1 = ((k + 1 : Nat) : Int) by omega), congrArg _ (hw.trans (by rw [HM1.out]))⟩
      case measure =>
        simp only [intOf]; omega
    · obtain rfl : k = N := by omega
      have h0i : (0 : Int) < ((catN L k).length : Int) := by have := H0.out; omega
      go_wp2_with fail
      refine (HG.out _ w H0.out HM.out).mono ?_
      clear HG
      rintro e w1 ⟨u, rfl, ho, hb⟩
      have HO := Lib.hid ho
      have HB := Lib.hid hb
      clear ho hb
      go_wp2_with fail
      go_loopw [6, 27] (fun v i wr => ∃ j : Nat, j ≤ k ∧ i = .int .i64 j ∧ OwnT wr w.heap.size v (catN L j) ∧ Below w.heap.size w wr) (fun _ i _ => k - (intOf i).toNat)
      case atStart => exact ⟨0, Nat.zero_le _, rfl, HO.out, HB.out⟩
      case round =>
        obtain ⟨j, hj, rfl, ho2, hb2⟩ := hrel
        have HB2 := Lib.hid hb2
        have HO2 := Lib.hid ho2
        clear ho2 hb2
        obtain ⟨wo, rfl⟩ : ∃ wo : World, wo = wr := ⟨_, rfl⟩
        by_cases hlt2 : j < k
        · have hcell := HC.out wo (HB2.out.block g HGL.out) j hlt2
          obtain ⟨p, c, hS⟩ := (HT.out j hlt2).form
          have hta := (HT.out j hlt2).below HB2.out
          rw [hS] at hcell hta
          have hle := catN_mono L (show j + 1 ≤ k by omega)
          have hl1 : (catN L (j + 1)).length = (catN L j).length + (L j).length := by show (catN L j ++ L j).length = _; simp
          obtain ⟨v3, w3, hr3, ho3, hg3, _⟩ := append_row HO2.out hta (by have := HM.out; omega) HB2.out.size
          have HO3 := Lib.hid ho3
          have HB3 := Lib.hid (HB2.out.trans (own_grown HO2.out hg3 HB2.out.size))
          clear hta hle hl1 ho3 hg3
          go_wp2_with (at_builtin; refine wpList_append_run rfl _ _ _ _ rfl _ _ _ _ rfl rfl hr3 ?_)
          go_roundw
          case rel => exact ⟨j + 1, by omega, congrArg _ (show (j : Int) + 1 = ((j + 1 : Nat) : Int) by omega), HO3.out, HB3.out⟩
          case measure =>
            simp only [intOf]; omega
        · obtain rfl : j = k := by omega
          go_wp2_with fail
          go_ret
          exact ⟨_, rfl, HO2.out, HB2.out⟩
theorem enc_inj {a b : Bs} (h : encStr a = encStr b) : a = b := by
  have : (⟨a.toArray⟩ : ByteArray) = ⟨b.toArray⟩ := by injection h
  have h2 := congrArg (fun s : ByteArray => s.data.toList) this
  simpa using h2
/-- A row of texts of one's own, in the words of bytes. -/
abbrev OwnB (w : World) (base : Nat) (v : Value) (L : List Bs) : Prop := w.ownsRow base 9 1 v L.length (L.map encStr)
theorem OwnT.bytes {w : World} {base : Nat} {v : Value} {L : List ByteArray} (h : OwnT w base v L) : OwnB w base v (L.map bl) := by
  have h2 : w.ownsRow base 9 1 v L.length (txs L) := h
  rw [txs_enc] at h2
  show w.ownsRow base 9 1 v (L.map bl).length ((L.map bl).map encStr)
  rw [List.length_map]
  exact h2
theorem below_gr {w : World} {os : Array Obj} (B : Nat) (hB : B ≤ w.heap.size) : Below B w (grow w os) :=
  ⟨rfl, rfl, rfl, by simp, fun k hk => heap_grow_old _ _ (by omega)⟩
theorem ownB_below {w w' : World} {base : Nat} {v : Value} {L : List Bs} (h : OwnB w base v L) (hb : Below w.heap.size w w') : OwnB w' base v L := by
  refine ⟨h.1, ?_⟩
  rcases h.2 with h0 | ⟨g, cap, cur, rfl, h1, hg, h2⟩
  · exact .inl h0
  · have hlt : g < w.heap.size := by
      rcases Nat.lt_or_ge g w.heap.size with c | c
      · exact c
      · rw [Array.getElem?_eq_none c] at hg; cases hg
    exact .inr ⟨g, cap, cur, rfl, h1, (hb.block g hlt).trans hg, h2⟩
theorem sort_own (L : List Bs) (u : Value) (base : Nat) (w : World) (h : OwnB w base u L) (hb : base ≤ w.heap.size) (hl : L.length < 4611686018427387904) :
    Calls Tryz.prog 103 #[u] w fun e w' => e = .returned (.tuple #[]) ∧ OwnB w' base u (srtB L) ∧ Below base w w' := by
  by_cases hu : u = .slice none 0 0
  · subst hu
    refine (Tryz.slices_Sort_string_none none 0 w).mono ?_
    rintro e w' ⟨rfl, rfl⟩
    have hL : L = [] := by
      rcases h.2 with ⟨_, h0⟩ | ⟨g, cap, cur, h0, _⟩
      · exact List.length_eq_zero_iff.mp h0
      · cases h0
    subst hL
    have e : srtB [] = [] := by simp [srtB]
    exact ⟨rfl, by rw [e]; exact h, Below.refl _ _⟩
  · obtain ⟨g, cap, rfl, hbg, hgl, hncap, hcm, hlen, hH⟩ := Lib.holds_of_ownsRow (zs := L) h hu
    refine (Tryz.slices_Sort_string g 0 cap L w hH hgl hl).mono ?_
    rintro e w' ⟨rfl, n, os, rfl⟩
    have h2 := Lib.ownsRow_putRow (q := n) (k := L.length) (ys := srtB L) h (srtB_len L) (Nat.le_refl _)
    rw [List.take_of_length_le (by rw [srtB_len]; exact Nat.le_refl _)] at h2
    have hs : (putRow encStr (Sort.ahead w n) g 0 (srtB L).toArray).heap.size = w.heap.size := by simp [putRow, mapBlock, Sort.ahead]
    have hB1 := Lib.below_putRow (q := n) (d := (srtB L).toArray) (enc := encStr) (Below.refl base w) hbg
    have hB2 := below_gr (w := putRow encStr (Sort.ahead w n) g 0 (srtB L).toArray) (os := os) _ (Nat.le_refl _)
    have h3 : OwnB (putRow encStr (Sort.ahead w n) g 0 (srtB L).toArray) base (.slice (some ⟨g, 0, none⟩) L.length cap) (srtB L) := by unfold OwnB; rw [srtB_len]; exact h2
    exact ⟨rfl, ownB_below h3 hB2, hB1.trans (hB2.mono (by rw [hs]; exact hb))⟩
theorem compact_own (L : List Bs) (u : Value) (base : Nat) (w : World) (h : OwnB w base u L) (hb : base ≤ w.heap.size) (hl : L.length < 4611686018427387904) :
    Calls Tryz.prog 104 #[u] w fun e w' => ∃ p c, e = .returned (.slice p (Lib.compact L).length c) ∧ Below base w w' := by
  by_cases hu : u = .slice none 0 0
  · subst hu
    refine (Tryz.slices_Compact_string_empty none 0 w).mono ?_
    rintro e w' ⟨rfl, rfl⟩
    have hL : L = [] := by
      rcases h.2 with ⟨_, h0⟩ | ⟨g, cap, cur, h0, _⟩
      · exact List.length_eq_zero_iff.mp h0
      · cases h0
    subst hL
    exact ⟨none, 0, rfl, Below.refl _ _⟩
  · obtain ⟨g, cap, rfl, hbg, hgl, hncap, hcm, hlen, hH⟩ := Lib.holds_of_ownsRow (zs := L) h hu
    refine (Tryz.slices_Compact_string g 0 cap L w hH (by omega) hncap).mono ?_
    rintro e w' ⟨rfl, q, rfl⟩
    exact ⟨_, _, rfl, Lib.below_putRow (Below.refl base w) hbg⟩
end Mf
end Go.Proofs.YtkbdokakoapooaaGreatDoor
