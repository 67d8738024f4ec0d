/- The law's own joining of records. Conditions: those that each theorem names. -/
import Derived.Test.YtmfoihalganggaaWlJ
namespace Go.Proofs.Ytmfoihalganggaa
set_option linter.unusedVariables false
open Go Go.RowKit Wl
def bls (L : List ByteArray) : List (List UInt8) := L.map fun s => s.data.toList
theorem bls_len (L : List ByteArray) : (bls L).length = L.length := by simp [bls]
theorem bls_at (L : List ByteArray) (k : Nat) (h : k < L.length) : (bls L)[k]'(by rw [bls_len]; exact h) = (L[k]).data.toList := by simp [bls]
theorem lens_le : ∀ L : List ByteArray, lens (bls L) ≤ 20 * (L.map fun s => s.size + 1).sum
  | [] => by simp [bls, lens]
  | s :: r => by
    have := lens_le r
    simp only [bls, List.map_cons, lens, List.sum_cons] at this ⊢
    rw [ln]; omega
theorem len_le_sum : ∀ L : List ByteArray, L.length ≤ (L.map fun s => s.size + 1).sum
  | [] => by simp
  | s :: r => by
    have := len_le_sum r
    simp only [List.length_cons, List.map_cons, List.sum_cons]; omega
theorem JR.start (w : World) : JR w (.slice none 0 0) (.slice (some ⟨w.heap.size, 0, none⟩) 1 1) [] [0] (w.alloc (.cells #[.int .i64 0] 3)) := by
  refine ⟨World.ownsRow_nil _ _ _ _, ⟨by simp [ints], .inr ⟨w.heap.size, 1, _, rfl, Nat.le_refl _, heap_alloc_new w _, Nat.le_refl _, by unfold maxLen; omega, rfl, by simp [ints]⟩⟩, fun g hg => ?_, below_new _ _⟩
  simp [Value.ownBlock] at hg
theorem JR.conv {w0 wr : World} {o e : Value} {F : List UInt8} {E : List Int} (h : JR w0 o e F E wr) (h0 : 1 ≤ F.length) : (convert 42 9 o).run Try.prog wr = .ok (.string (tx F)) wr := by
  obtain ⟨g, cap, rfl, _, hr⟩ := conv_own h.1 h0
  exact hr
/-- What the joining tells. -/
def JoinP (q : Nat) (L : List ByteArray) (w : World) (e : Ending) (w' : World) : Prop :=
  ∃ v, e = .returned (.tuple #[.string (tx (frames q (bls L))), v, .bool true]) ∧ Own w' w.heap.size v (endsL (bls L) L.length) ∧ Below w.heap.size w w'
set_option maxHeartbeats 4000000 in
set_option maxRecDepth 100000 in
theorem joined_any (v : Value) (L : List ByteArray) (q : Nat) (w : World) (hL : StrsAt w v L) (h0 : 1 ≤ L.length) (hb : ∀ s ∈ L, s.size ≤ 65536) (ht : (L.map fun s => s.size + 1).sum ≤ 1048576) (hq : 1 ≤ q) (hq' : q ≤ 1125899906842624) :
    Calls Try.prog 12 #[v, .int .i64 (q : Int)] w (JoinP q L w) := by
  have hn := len_le_sum L
  have HN : Hid (L.length ≤ 1048576) := Lib.hid (by omega)
  have HLE : Hid (lens (bls L) ≤ 20971520) := Lib.hid (by have := lens_le L; omega)
  have HB := Lib.hid hb
  have HQ := Lib.hid (And.intro hq hq')
  have HH := Lib.hid hL
  rcases hL with ⟨rfl, _⟩ | ⟨g, off, c, rfl, hg, hc⟩
  · simp at h0
  have HC := Lib.hid hc
  have HG := Lib.hid hg
  clear hc hg hb ht hn hq hq'
  go_enter Try.func12, Try.ntmps12
  go_wp2_with fail
  go_loopw [7, 8, 9] (fun o e i wr => ∃ k : Nat, i = .int .i64 (k : Int) ∧ k ≤ L.length ∧ JR w o e (frames q ((bls L).take k)) (endsL (bls L) k) wr) (fun _ _ i _ => L.length - (intOf i).toNat)
  case atStart => exact ⟨0, rfl, Nat.zero_le _, JR.start w⟩
  case round =>
    obtain ⟨k, rfl, hk, hj⟩ := hrel
    obtain ⟨⟨po, co, rfl⟩, ⟨pe, ce, rfl⟩⟩ := hj.form
    have HJ := Lib.hid hj
    have HK := Lib.hid hk
    clear hj
    obtain ⟨wo, rfl⟩ : ∃ wo : World, wo = wr := ⟨_, rfl⟩
    by_cases hlt : k < L.length
    · have c0 := HC.out wo (HJ.out.2.2.2.block g HG.out) k hlt
      have hsz := HB.out _ (List.getElem_mem hlt)
      obtain ⟨b, hbk⟩ : ∃ b, L[k] = b := ⟨_, rfl⟩
      rw [hbk] at c0 hsz
      have q1 : ((q : Int) + (k : Int)) = ((q + k : Nat) : Int) ∧ -9223372036854775808 ≤ ((q + k : Nat) : Int) ∧ ((q + k : Nat) : Int) ≤ 9223372036854775807 := by have := HQ.out; have := HN.out; omega
      have CF := Lib.hid (fun W => frame_yes (q + k) b W (by have := HQ.out; omega) (by have := HQ.out; have := HN.out; omega) (by omega))
      have q2 : ((k : Int) + 1) = ((k + 1 : Nat) : Int) ∧ -9223372036854775808 ≤ ((k + 1 : Nat) : Int) ∧ ((k + 1 : Nat) : Int) ≤ 9223372036854775807 := by have := HN.out; omega
      obtain ⟨Q, hQ⟩ : ∃ Q : Nat, Q = q + k := ⟨_, rfl⟩
      obtain ⟨X, hX⟩ : ∃ X, X = frB (q + k) b := ⟨_, rfl⟩
      rw [← hX, ← hQ] at CF
      rw [← hQ] at q1
      have wq := wrI q1.1 q1.2
      have wk := wrI q2.1 q2.2
      have hXl : X.data.toList = frameL (q + k) ((bls L)[k]'(by rw [bls_len]; exact hlt)) := by rw [hX, bls_at L k hlt, hbk]; unfold frB; rw [tx_list]
      have hkb : k < (bls L).length := by rw [bls_len]; exact hlt
      have hF := frames_next q (bls L) k hkb
      rw [← hXl] at hF
      have hFl : (frames q ((bls L).take (k + 1))).length ≤ 20971520 := by rw [frames_len]; exact Nat.le_trans (lens_take_le _ _) HLE.out
      have hXne : X.toList.isEmpty = false := by
        have h1 : X.size = 20 + b.size := by rw [hX, frB_size]
        rw [Go.ByteArray.toList_eq]
        cases h2 : X.data.toList with
        | nil => have := ln X; rw [h2] at this; simp at this; omega
        | cons _ _ => rfl
      have hE := endsL_next (bls L) k
      have hNL : ((frames q ((bls L).take (k + 1))).length : Int) = (lens ((bls L).take (k + 1)) : Int) := by rw [frames_len]
      have HF := Lib.hid hF
      have HE := Lib.hid hE
      have HNL := Lib.hid hNL
      have HFL := Lib.hid hFl
      have HZ : Hid ((frames q ((bls L).take k)).length + X.size ≤ 200000000000000) := Lib.hid (by rw [hF, List.length_append, ln] at hFl; omega)
      have HEN := Lib.hid (endsL_len (bls L) k)
      have HLT := Lib.hid hlt
      clear hX hQ q1 q2 hbk hXl hkb hF hFl hE hNL hsz hlt hk
      have hlt1 : (k : Int) < (L.length : Int) := by have := HLT.out; omega
      have hk0 : (0 : Int) ≤ (k : Int) := by omega
      generalize (endsL (bls L) k) = E0 at *
      go_wp2_with fail
      refine (CF.out _).mono ?_
      rintro e w1 ⟨rfl, hb1⟩
      have J1 := Lib.hid (HJ.out.below hb1)
      obtain ⟨o2, w2, hr2, hj2⟩ := J1.out.text X HZ.out
      rw [← HF.out] at hj2
      obtain ⟨⟨po2, co2, rfl⟩, _⟩ := hj2.form
      have HR2 := Lib.hid hr2
      obtain ⟨e3, w3, hr3, hj3⟩ := hj2.num (lens ((bls L).take (k + 1)) : Int) (by have := HEN.out; have := HN.out; omega)
      rw [← HE.out] at hj3
      have HR3 := Lib.hid hr3
      have HJ3 := Lib.hid hj3
      rw [← HNL.out] at HR3
      generalize (frames q ((bls L).take (k + 1))).length = NF at *
      clear hb1 hr2 hj2 hr3 hj3
      go_wp2_with (at_builtin; first | (refine wpList_append_run rfl _ _ _ _ rfl _ _ _ w2 rfl rfl (fun ty => HR2.out ty) ?_; clear HR2) | (refine wpList_append_run rfl _ _ _ _ rfl _ _ e3 w3 rfl rfl (fun ty => HR3.out ty) ?_; clear HR3))
      go_roundw
      case rel => exact ⟨k + 1, congrArg _ wk, HLT.out, HJ3.out⟩
      case measure => rw [wk]; have := HLT.out; clear wk wq; simp [intOf]; omega
    · obtain rfl : k = L.length := by omega
      have h1 : 1 ≤ (frames q ((bls L).take L.length)).length := by
        rw [frames_len, List.take_of_length_le (by rw [bls_len]; exact Nat.le_refl _)]
        have hl := bls_len L
        cases hb : bls L with
        | nil => rw [hb] at hl; simp at hl; omega
        | cons b r => simp [lens]; omega
      have HCV := Lib.hid (HJ.out.conv h1)
      have HT : Hid ((bls L).take L.length = bls L) := Lib.hid (List.take_of_length_le (by rw [bls_len]; exact Nat.le_refl _))
      have HLL := Lib.hid hlt
      have hlt' : ¬ (L.length : Int) < (L.length : Int) := by omega
      have hcv := HCV.out
      clear hlt h1 hk
      go_wp2_with fail
      go_ret3
      exact ⟨_, by rw [HT.out]; rfl, HJ.out.2.1, HJ.out.2.2.2⟩
end Go.Proofs.Ytmfoihalganggaa
