/- The walk of the law WalSpoilt. Conditions: those that each theorem names. -/
import Derived.Test.YtmfoihalganggaaWlT
namespace Go.Proofs.Ytmfoihalganggaa
set_option linter.unusedVariables false
open Go Go.RowKit Wl
theorem at_in (S : Nat) (at0 : Int) (h0 : 1 ≤ S) (hS : S ≤ 20971520) : ∃ (d d2 : Int) (c : Nat), at0.tmod (S : Int) = d ∧ wrap64 (d + (S : Int)) = d2 ∧ d2.tmod (S : Int) = (c : Int) ∧ c < S := by
  have hp : (0 : Int) < (S : Int) := by omega
  have h1 : -((S : Int)) < at0.tmod (S : Int) ∧ at0.tmod (S : Int) < (S : Int) := by
    rcases Int.le_total 0 at0 with h | h
    · have a := Int.tmod_nonneg (S : Int) h
      have b := Int.tmod_lt_of_pos at0 hp
      omega
    · have a := Int.tmod_nonneg (S : Int) (a := -at0) (by omega)
      have b := Int.tmod_lt_of_pos (-at0) hp
      rw [Int.neg_tmod] at a b
      omega
  generalize at0.tmod (S : Int) = d at h1
  have a := Int.tmod_nonneg (S : Int) (a := d + S) (by omega)
  have b := Int.tmod_lt_of_pos (d + S) hp
  obtain ⟨c, hc⟩ : ∃ c : Nat, (d + S).tmod (S : Int) = (c : Int) := ⟨((d + S).tmod (S : Int)).toNat, by omega⟩
  exact ⟨d, d + S, c, rfl, wrI rfl (by omega), hc, by omega⟩
/-- The text with one byte turned. -/
def turnB (s : ByteArray) (j : Nat) (x : UInt8) : ByteArray := tx (s.data.toList.set j x)
theorem turnB_size (s : ByteArray) (j : Nat) (x : UInt8) : (turnB s j x).size = s.size := by unfold turnB; rw [tx_size, List.length_set, ln]
/-- What stands behind a conversion of a text into bytes, one of which is written, and back. -/
theorem bytes_turn (w : World) (s : ByteArray) (j : Nat) (x y : UInt8) (hs : s.size ≤ 1099511627776) (hj : s.data.toList[j]? = some y) :
    ∃ cap W, (convert 9 42 (.string s)).run Try.prog w = .ok (.slice (some ⟨w.heap.size, 0, none⟩) s.size cap) W ∧
      W.cell? ⟨w.heap.size, j, none⟩ = some (.int .u8 (y.toNat : Int)) ∧ W.frozen? ⟨w.heap.size, j, none⟩ = false ∧
      Below w.heap.size w (W.setCell ⟨w.heap.size, j, none⟩ (.int .u8 (x.toNat : Int))) ∧
      (convert 42 9 (.slice (some ⟨w.heap.size, 0, none⟩) s.size cap)).run Try.prog (W.setCell ⟨w.heap.size, j, none⟩ (.int .u8 (x.toNat : Int))) = .ok (.string (turnB s j x)) (W.setCell ⟨w.heap.size, j, none⟩ (.int .u8 (x.toNat : Int))) := by
  have hrow := Lib.bytesWorld_at_new w 5 s
  have hjl : j < s.size := by rw [← ln]; exact (List.getElem?_eq_some_iff.1 hj).1
  have hget : ∀ i (h : i < s.data.toList.length), (Lib.bytesCells w 5 s)[i]? = some (.int .u8 ((s.data.toList[i]).toNat : Int)) := by
    intro i hi
    have h1 := Lib.bytesWorld_cell w 5 s i (by rw [← ln]; exact hi)
    rw [cell_of_row _ _ _ _ _ _ hrow] at h1
    rw [h1]
    rw [List.getD_eq_getElem?_getD, List.getElem?_eq_getElem hi]
    rfl
  have hsz : s.size ≤ (Lib.bytesCells w 5 s).size := by simp [Lib.bytesCells]
  refine ⟨_, _, Lib.run_convert_string_bytes (P := Try.prog) w 9 42 5 s Try.underlying9 Try.underlying42 Try.underlying5, ?_, ?_, ?_, ?_⟩
  · rw [cell_of_row _ _ _ _ _ _ hrow, hget j (by rw [ln]; exact hjl)]
    have := (List.getElem?_eq_some_iff.1 hj).2
    rw [this]
  · simp [World.frozen?, hrow]; omega
  · refine Below.setCell ⟨?_, ?_, ?_, ?_, fun k hk => Lib.bytesWorld_at_old w 5 s k hk⟩ (Nat.le_refl _) _
    · rfl
    · rfl
    · rfl
    · rw [Lib.bytesWorld_size]; omega
  · have hl : (s.data.toList.set j x).length = s.size := by rw [List.length_set, ln]
    have := run_convert_bytes_back (P := Try.prog) ((Lib.bytesWorld w 5 s).setCell ⟨w.heap.size, j, none⟩ (.int .u8 (x.toNat : Int))) 42 9 5 ⟨w.heap.size, 0, none⟩ (grownCap w s.size 0 5) (s.data.toList.set j x) Try.underlying42 Try.underlying5 Try.underlying9
      (fun i hi => by
        have ha : (⟨w.heap.size, 0, none⟩ : Addr).add i = ⟨w.heap.size, i, none⟩ := by unfold Addr.add; split <;> simp_all
        rw [ha, cell_of_row _ _ _ _ _ _ (setCell_at hrow (.int .u8 (x.toNat : Int))), Array.getElem?_setIfInBounds]
        by_cases e : j = i
        · subst e
          rw [if_pos rfl, if_pos (by omega)]
          simp
        · rw [if_neg e, hget i (by rw [ln]; rw [hl] at hi; exact hi), List.getElem_set_ne e])
    rw [hl] at this
    exact this
def JoinN (w : World) (e : Ending) (w' : World) : Prop := ∃ v, e = .returned (.tuple #[.string ⟨#[]⟩, v, .bool true]) ∧ Below w.heap.size w w'
set_option maxHeartbeats 2000000 in
set_option maxRecDepth 100000 in
theorem joined_nil (p : Option Addr) (c : Nat) (q : Int) (w : World) :
    Calls Try.prog 12 #[.slice p 0 c, .int .i64 q] w (JoinN w) := by
  have HB := Lib.hid (below_new w (.cells #[.int .i64 0] 3))
  have hcv : ∀ W : World, (convert 42 9 (.slice none 0 0)).run Try.prog W = .ok (.string ⟨#[]⟩) W := fun W => by kernel_rfl
  go_enter Try.func12, Try.ntmps12
  go_wp2_with fail
  go_loop [7, 8, 9] (fun o e i => o = .slice none 0 0 ∧ e = .slice (some ⟨w.heap.size, 0, none⟩) 1 1 ∧ i = .int .i64 0) (fun _ _ _ => 0)
  case atStart => exact ⟨rfl, rfl, rfl⟩
  case round =>
    obtain ⟨rfl, rfl, rfl⟩ := hrel
    go_wp2_with fail
    go_ret3
    exact ⟨_, rfl, HB.out⟩
theorem byte_of (c : Int) (h : 0 ≤ c ∧ c ≤ 255) : ∃ z : UInt8, c = (z.toNat : Int) := by
  have e8 : (2 : Nat) ^ 8 = 256 := by decide
  exact ⟨UInt8.ofNat c.toNat, by rw [UInt8.toNat_ofNat']; omega⟩
theorem xor_other {y z : UInt8} (h : z ≠ 0) : y ^^^ z ≠ y := by
  intro e
  apply h
  have := congrArg (fun t => y ^^^ t) e
  simpa [← UInt8.xor_assoc] using this
set_option maxHeartbeats 8000000 in
set_option maxRecDepth 100000 in
theorem spoilt_any (v : Value) (L : List ByteArray) (at0 change : Int) (w : World) (hL : StrsAt w v L) (ht : (L.map fun s => s.size + 1).sum ≤ 1048576) (hch : 0 ≤ change ∧ change ≤ 255) :
    Calls Try.prog 5 #[v, .int .i64 at0, .int .u8 change] w fun e w' => e = .returned (.bool true) ∧ Below w.heap.size w w' := by
  have HCH := Lib.hid hch
  clear hch
  have hn := len_le_sum L
  have HN : Hid (L.length ≤ 1048576) := Lib.hid (by omega)
  have HT := Lib.hid ht
  have HH := Lib.hid hL
  obtain ⟨pv, cv, rfl⟩ := hL.form
  have HCELL : Hid (∀ k (h : k < L.length), ∃ g off, pv = some ⟨g, off, none⟩ ∧ g < w.heap.size ∧ w.cell? ⟨g, off + k, none⟩ = some (.string L[k])) := Lib.hid (fun k h => by
    rcases hL with ⟨rfl, _⟩ | ⟨g, off, c, e, hg, hc⟩
    · simp at h
    · injection e with e1 e2 e3
      exact ⟨g, off, e1, hg, hc w rfl k h⟩)
  clear ht hn hL
  go_enter Try.func5, Try.ntmps5
  go_wp2_with fail
  go_loop [7] (fun i => ∃ k : Nat, i = .int .i64 (k : Int) ∧ k ≤ L.length ∧ Hid (∀ s ∈ L.take k, s.size ≤ 65536)) (fun i => L.length - (intOf i).toNat)
  case atStart => exact ⟨0, rfl, Nat.zero_le _, Lib.hid (by simp)⟩
  case round =>
    obtain ⟨k, rfl, hk, HA⟩ := hrel
    by_cases hlt : k < L.length
    · obtain ⟨g, off, rfl, _, c0⟩ := HCELL.out k hlt
      have hx : L[k]? = some L[k] := List.getElem?_eq_getElem hlt
      generalize L[k] = b at c0 hx
      have HX := Lib.hid hx
      have HLT := Lib.hid hlt
      have q2 : ((k : Int) + 1) = ((k + 1 : Nat) : Int) ∧ -9223372036854775808 ≤ ((k + 1 : Nat) : Int) ∧ ((k + 1 : Nat) : Int) ≤ 9223372036854775807 := by have := HN.out; omega
      have wk := wrI q2.1 q2.2
      have hlt1 : (k : Int) < (L.length : Int) := by omega
      have hk0 : (0 : Int) ≤ (k : Int) := by omega
      clear q2 hx hlt hk
      by_cases hb : 65536 < b.size
      · have hb1 : (65536 : Int) < (b.size : Int) := by clear wk; omega
        go_wp2_with fail
        refine (awake_yes _).mono ?_
        rintro e w2 ⟨rfl, hb2⟩
        go_wp2_with fail
        go_ret
        exact ⟨rfl, hb2⟩
      · have hb1 : ¬ (65536 : Int) < (b.size : Int) := by clear wk; omega
        go_wp2_with fail
        go_round
        case rel => exact ⟨k + 1, congrArg _ wk, HLT.out, Lib.hid (fun s hs => by
          rw [List.take_add_one, HX.out] at hs
          simp only [Option.toList_some, List.mem_append, List.mem_singleton] at hs
          rcases hs with h | rfl
          · exact HA.out s h
          · omega)⟩
        case measure => rw [wk]; have := HLT.out; clear wk; simp [intOf]; omega
    · obtain rfl : k = L.length := by omega
      have HS : Hid (∀ s ∈ L, s.size ≤ 65536) := Lib.hid (by have := HA.out; rwa [List.take_length] at this)
      clear HA hlt hk
      have hlt' : ¬ (L.length : Int) < (L.length : Int) := by omega
      by_cases hg3 : L.length = 0
      · obtain rfl := List.length_eq_zero_iff.1 hg3
        have CJ := Lib.hid (joined_nil pv cv 1 w)
        simp only [List.length_nil] at *
        go_wp2_with fail
        refine CJ.out.mono ?_
        rintro e w1 ⟨ve, rfl, hb1⟩
        have HB1 := Lib.hid hb1
        clear hb1 CJ
        go_wp2_with fail
        refine (awake_yes _).mono ?_
        rintro e w2 ⟨rfl, hb2⟩
        have HB2 := Lib.hid (HB1.out.trans (hb2.mono HB1.out.size))
        clear hb2
        go_wp2_with fail
        go_ret
        exact ⟨rfl, HB2.out⟩
      · have hg4 : ((L.length : Int) == 0) = false := by simpa using hg3
        have CJ := Lib.hid (joined_any _ L 1 w HH.out (by omega) HS.out HT.out (by omega) (by omega))
        have HG3 := Lib.hid hg3
        clear hg3
        by_cases hc0 : change = 0
        · subst hc0
          go_wp2_with fail
          refine CJ.out.mono ?_
          rintro e w1 ⟨ve, rfl, ho1, hb1⟩
          have HB1 := Lib.hid hb1
          obtain ⟨pe, ce, rfl⟩ := ho1.at.form
          clear hb1 CJ ho1
          go_wp2_with fail
          refine (awake_yes _).mono ?_
          rintro e w2 ⟨rfl, hb2⟩
          have HB2 := Lib.hid (HB1.out.trans (hb2.mono HB1.out.size))
          clear hb2
          go_wp2_with fail
          go_ret
          exact ⟨rfl, HB2.out⟩
        · have hc1 : (change == 0) = false := by simpa using hc0
          have HC0 := Lib.hid hc0
          clear hc0
          go_wp2_with fail
          refine CJ.out.mono ?_
          rintro e w1 ⟨ve, rfl, ho1, hb1⟩
          have HB1 := Lib.hid hb1
          obtain ⟨S, hS⟩ : ∃ S, S = tx (frames 1 (bls L)) := ⟨_, rfl⟩
          have hSl : S.data.toList = frames 1 (bls L) := by rw [hS, tx_list]
          have hSz : S.size = lens (bls L) := by rw [← ln, hSl, frames_len]
          have hS2 : S.size ≤ 20971520 := by rw [hSz]; have := lens_le L; have := HT.out; omega
          have hS3 : 1 ≤ S.size := by
            rw [hSz]
            have hl := bls_len L
            have := HG3.out
            cases hb : bls L with
            | nil => rw [hb] at hl; simp at hl; omega
            | cons b r => simp [lens]; omega
          have hSe : S.toList.isEmpty = false := by
            rw [Go.ByteArray.toList_eq]
            cases h2 : S.data.toList with
            | nil => have := ln S; rw [h2] at this; simp at this; omega
            | cons _ _ => rfl
          rw [← hS]
          obtain ⟨d, d2, c, e1, e2, e3, hc⟩ := at_in S.size at0 hS3 hS2
          have hS1n : ¬ S.size = 0 := by clear e2; omega
          have hS1m : ¬ (S.size : Int) = 0 := by clear e2; omega
          have hS10 : ((S.size : Int) == 0) = false := by rw [beq_eq_false_iff_ne]; exact hS1m
          obtain ⟨y, hy⟩ : ∃ y, S.data.toList[c]? = some y := ⟨_, List.getElem?_eq_getElem (by rw [ln]; exact hc)⟩
          obtain ⟨z, hz⟩ := byte_of change HCH.out
          have hz0 : z ≠ 0 := by rintro rfl; exact HC0.out (by simpa using hz)
          obtain ⟨x, hx⟩ : ∃ x, x = y ^^^ z := ⟨_, rfl⟩
          have hxv : bits .xor .u8 (y.toNat : Int) change = (x.toNat : Int) := by
            rw [hx, hz, u8_xor_nat _ _ y.toNat_lt z.toNat_lt, UInt8.toNat_xor]
          obtain ⟨cap, W, hr1, hr2, hr3, hr4, hr5⟩ := bytes_turn w1 S c x y (by omega) hy
          obtain ⟨K, hK1, hK2, hK3, hscan⟩ := scan_turned (bls L) 1 c x (fun b hb => by
            simp only [bls, List.mem_map] at hb
            obtain ⟨s, hs, rfl⟩ := hb
            have := HS.out s hs
            rw [ln]; clear e2; omega) (by decide) (by have := HN.out; rw [bls_len]; clear e2; omega) (by rw [← hSz]; exact hc) (by rw [← hSl, hy]; intro h; exact xor_other hz0 (hx ▸ (Option.some.inj h).symm))
          rw [bls_len] at hK1
          have hTl : (turnB S c x).data.toList = (frames 1 (bls L)).set c x := by unfold turnB; rw [tx_list, hSl]
          have CS := Lib.hid (fun W => scan_any (turnB S c x) W (by rw [turnB_size]; clear e2; omega))
          have HR1 := Lib.hid hr1
          have HR5 := Lib.hid hr5
          have HW := Lib.hid (HB1.out.trans (hr4.mono HB1.out.size))
          have HK1 := Lib.hid hK1
          have HK2 := Lib.hid hK2
          have HK3 := Lib.hid hK3
          have HSC := Lib.hid hscan
          have HTL := Lib.hid hTl
          obtain ⟨gE, cE, rfl, hgE, hcE⟩ := own_cells ho1 (by rw [endsL_len]; omega)
          have HGE := Lib.hid hgE
          have HEL : Hid ((endsL (bls L) L.length).length = L.length + 1) := Lib.hid (endsL_len _ _)
          have HCE : Hid (∀ j (hj : j < L.length + 1), (W.setCell ⟨w1.heap.size, c, none⟩ (.int .u8 (x.toNat : Int))).cell? ⟨gE, j, none⟩ = some (.int .i64 (lens ((bls L).take j) : Int))) := Lib.hid (fun j hj => by
            have := hcE _ (hr4.block _ hgE) j (by rw [HEL.out]; exact hj)
            rwa [endsL_at] at this)
          have HCE2 : Hid (gE < (W.setCell ⟨w1.heap.size, c, none⟩ (.int .u8 (x.toNat : Int))).heap.size) := Lib.hid (Nat.lt_of_lt_of_le hgE hr4.size)
          rw [HEL.out]
          have hc0 : (0 : Int) ≤ (c : Int) := by clear e2; omega
          have hcs : (c : Int) < (S.size : Int) := by clear e2; omega
          have hr5' := HR5.out
          clear hS hSl hSz hS2 hS3 hy hz hz0 hx hr4 hr5 hK1 hK2 hK3 hscan hTl ho1 hgE hcE hb1 hc
          go_wp2_with fail
          clear hr1 hr2 hr3 hr5' hxv e1 e2 e3
          refine (CS.out _).mono ?_
          rintro e w3 ⟨vr, rfl, ho3, hb3⟩
          rw [HTL.out, HSC.out] at ho3 ⊢
          obtain ⟨pr, cr, rfl⟩ := (own_rcs ho3).form
          have HB3 := Lib.hid (HW.out.trans (hb3.mono HW.out.size))
          have HCE3 : Hid (∀ j (hj : j < L.length + 1), w3.cell? ⟨gE, j, none⟩ = some (.int .i64 (lens ((bls L).take j) : Int))) := Lib.hid (fun j hj => (World.cell?_of_block (a := ⟨gE, j, none⟩) (hb3.block gE HCE2.out)).trans (HCE.out j hj))
          have HNK : Hid ((numbered 1 ((bls L).take K)).length = K) := Lib.hid (by rw [numbered_len, List.length_take, bls_len]; have := HK1.out; omega)
          rw [HNK.out]
          clear ho3 hb3 HCE HTL HSC CS
          obtain ⟨Z, hZ⟩ : ∃ Z : Nat, Z = lens ((bls L).take K) := ⟨_, rfl⟩
          rw [← hZ]
          have HZ := Lib.hid hZ
          clear hZ
          go_wp2_with fail
          go_loop [15] (fun i => ∃ j : Nat, i = .int .i64 (j : Int) ∧ j ≤ K) (fun i => K - (intOf i).toNat)
          case atStart => exact ⟨0, rfl, Nat.zero_le _⟩
          case round =>
            obtain ⟨j, rfl, hjK⟩ := hrel
            have HJK := Lib.hid hjK
            have q2 : ((j : Int) + 1) = ((j + 1 : Nat) : Int) ∧ -9223372036854775808 ≤ ((j + 1 : Nat) : Int) ∧ ((j + 1 : Nat) : Int) ≤ 9223372036854775807 := by have := HN.out; have := HK1.out; omega
            obtain ⟨J1, hJ1⟩ : ∃ J : Nat, J = j + 1 := ⟨_, rfl⟩
            rw [← hJ1] at q2
            have wj := wrI q2.1 q2.2
            have HJ1 := Lib.hid hJ1
            clear q2 hJ1 hjK
            obtain ⟨y1, hy1⟩ : ∃ y : Nat, y = lens ((bls L).take J1) := ⟨_, rfl⟩
            have c1 := HCE3.out J1 (by have := HJ1.out; have := HK1.out; have := HJK.out; clear wj; omega)
            rw [← hy1] at c1
            have hb2 : (J1 : Int) < ((L.length : Int) + 1) := by have := HJ1.out; have := HK1.out; have := HJK.out; clear wj; omega
            have hb0 : (0 : Int) ≤ (J1 : Int) := by clear wj; omega
            by_cases hlt : j < K
            · have hyc : (y1 : Int) ≤ (c : Int) := by
                have h1 := lens_mono (bls L) (j := J1) (k := K) (by have := HJ1.out; clear wj; omega)
                have h2 := HK2.out
                clear wj; omega
              have HLT := Lib.hid hlt
              clear hlt hy1
              go_wp2_with fail
              go_round
              case rel => exact ⟨J1, congrArg _ wj, by have := HJ1.out; have := HLT.out; clear wj; omega⟩
              case measure => rw [wj]; have := HJ1.out; have := HLT.out; clear wj; simp [intOf]; omega
            · obtain rfl : j = K := by have := HJK.out; clear wj; omega
              have hyc : ¬ (y1 : Int) ≤ (c : Int) := by
                have := HK3.out
                rw [← HJ1.out, ← hy1] at this
                clear wj; omega
              have c2 := HCE3.out j (by have := HK1.out; clear wj; omega)
              rw [← HZ.out] at c2
              have hj1 : (j : Int) < ((L.length : Int) + 1) := by have := HK1.out; clear wj; omega
              have hj0 : (0 : Int) ≤ (j : Int) := by clear wj; omega
              clear hlt hy1
              go_wp2_with fail
              refine (awake_yes _).mono ?_
              rintro e w9 ⟨rfl, hb9⟩
              have HB9 := Lib.hid (HB3.out.trans (hb9.mono HB3.out.size))
              clear hb9
              go_wp2_with fail
              go_ret
              exact ⟨rfl, HB9.out⟩
end Go.Proofs.Ytmfoihalganggaa
