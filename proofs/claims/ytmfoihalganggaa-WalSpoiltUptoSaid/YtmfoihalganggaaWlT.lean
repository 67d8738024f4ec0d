/- The walk of the law WalTorn. Conditions: those that each theorem names. -/
import Derived.Test.YtmfoihalganggaaWlK
namespace Go.Proofs.Ytmfoihalganggaa
set_option linter.unusedVariables false
open Go Go.RowKit Wl
theorem cut_in (S : Nat) (cut : Int) (hS : S ≤ 20971520) : ∃ (d d2 d3 : Int) (c : Nat), cut.tmod ((S + 1 : Nat) : Int) = d ∧ wrap64 (d + (S : Int)) = d2 ∧ wrap64 (d2 + 1) = d3 ∧ d3.tmod ((S + 1 : Nat) : Int) = (c : Int) ∧ c ≤ S := by
  have h1 : -((S : Int)) ≤ cut.tmod ((S + 1 : Nat) : Int) ∧ cut.tmod ((S + 1 : Nat) : Int) ≤ (S : Int) := by
    have hp : (0 : Int) < ((S + 1 : Nat) : Int) := by omega
    rcases Int.le_total 0 cut with h | h
    · have a := Int.tmod_nonneg ((S + 1 : Nat) : Int) h
      have b := Int.tmod_lt_of_pos cut hp
      omega
    · have a := Int.tmod_nonneg ((S + 1 : Nat) : Int) (a := -cut) (by omega)
      have b := Int.tmod_lt_of_pos (-cut) hp
      rw [Int.neg_tmod] at a b
      omega
  generalize cut.tmod ((S + 1 : Nat) : Int) = d at h1
  have hp : (0 : Int) < ((S + 1 : Nat) : Int) := by omega
  have a := Int.tmod_nonneg ((S + 1 : Nat) : Int) (a := d + S + 1) (by omega)
  have b := Int.tmod_lt_of_pos (d + S + 1) hp
  obtain ⟨c, hc⟩ : ∃ c : Nat, (d + S + 1).tmod ((S + 1 : Nat) : Int) = (c : Int) := ⟨((d + S + 1).tmod ((S + 1 : Nat) : Int)).toNat, by omega⟩
  exact ⟨d, d + S, d + S + 1, c, rfl, wrI rfl (by omega), wrI rfl (by omega), hc, by omega⟩
theorem own_cells {w : World} {base : Nat} {v : Value} {L : List Int} (h : Own w base v L) (h0 : 1 ≤ L.length) : ∃ g cap, v = .slice (some ⟨g, 0, none⟩) L.length cap ∧ g < w.heap.size ∧ ∀ W : World, W.heap[g]? = w.heap[g]? → ∀ j (hj : j < L.length), W.cell? ⟨g, j, none⟩ = some (.int .i64 L[j]) := by
  rcases h.at with ⟨rfl, _⟩ | ⟨g, off, c, e, hg, hc⟩
  · simp at h0
  · obtain ⟨g2, cap, e2, _, _⟩ := own_form h h0
    have e3 := e.symm.trans e2
    injection e3 with e4 e5 e6
    injection e4 with e4
    injection e4 with e7 e8
    subst e7 e8
    exact ⟨g, cap, e2, hg, fun W hW j hj => by have := hc W hW j hj; rwa [Nat.zero_add] at this⟩
set_option maxHeartbeats 8000000 in
set_option maxRecDepth 100000 in
theorem torn_any (v : Value) (L : List ByteArray) (first cut : Int) (w : World) (hL : StrsAt w v L) (ht : (L.map fun s => s.size + 1).sum ≤ 1048576) :
    Calls Try.prog 4 #[v, .int .i64 first, .int .i64 cut] w fun e w' => e = .returned (.bool true) ∧ Below w.heap.size w w' := by
  have hn := len_le_sum L
  have HN : Hid (L.length ≤ 1048576) := Lib.hid (by omega)
  have HT := Lib.hid ht
  have HH := Lib.hid hL
  obtain ⟨pv, cv, rfl⟩ := hL.form
  have HCELL : Hid (∀ k (h : k < L.length), ∃ g off, pv = some ⟨g, off, none⟩ ∧ g < w.heap.size ∧ w.cell? ⟨g, off + k, none⟩ = some (.string L[k])) := Lib.hid (fun k h => by
    rcases hL with ⟨rfl, _⟩ | ⟨g, off, c, e, hg, hc⟩
    · simp at h
    · injection e with e1 e2 e3
      exact ⟨g, off, e1, hg, hc w rfl k h⟩)
  clear ht hn hL
  go_enter Try.func4, Try.ntmps4
  go_wp2_with fail
  go_loop [7] (fun i => ∃ k : Nat, i = .int .i64 (k : Int) ∧ k ≤ L.length ∧ Hid (∀ s ∈ L.take k, s.size ≤ 65536)) (fun i => L.length - (intOf i).toNat)
  case atStart => exact ⟨0, rfl, Nat.zero_le _, Lib.hid (by simp)⟩
  case round =>
    obtain ⟨k, rfl, hk, HA⟩ := hrel
    by_cases hlt : k < L.length
    · obtain ⟨g, off, rfl, _, c0⟩ := HCELL.out k hlt
      have hx : L[k]? = some L[k] := List.getElem?_eq_getElem hlt
      generalize L[k] = b at c0 hx
      have HX := Lib.hid hx
      have HLT := Lib.hid hlt
      have q2 : ((k : Int) + 1) = ((k + 1 : Nat) : Int) ∧ -9223372036854775808 ≤ ((k + 1 : Nat) : Int) ∧ ((k + 1 : Nat) : Int) ≤ 9223372036854775807 := by have := HN.out; omega
      have wk := wrI q2.1 q2.2
      have hlt1 : (k : Int) < (L.length : Int) := by omega
      have hk0 : (0 : Int) ≤ (k : Int) := by omega
      clear q2 hx hlt hk
      by_cases hb : 65536 < b.size
      · have hb1 : (65536 : Int) < (b.size : Int) := by clear wk; omega
        go_wp2_with fail
        refine (awake_yes _).mono ?_
        rintro e w2 ⟨rfl, hb2⟩
        go_wp2_with fail
        go_ret
        exact ⟨rfl, hb2⟩
      · have hb1 : ¬ (65536 : Int) < (b.size : Int) := by clear wk; omega
        go_wp2_with fail
        go_round
        case rel => exact ⟨k + 1, congrArg _ wk, HLT.out, Lib.hid (fun s hs => by
          rw [List.take_add_one, HX.out] at hs
          simp only [Option.toList_some, List.mem_append, List.mem_singleton] at hs
          rcases hs with h | rfl
          · exact HA.out s h
          · omega)⟩
        case measure => rw [wk]; have := HLT.out; clear wk; simp [intOf]; omega
    · obtain rfl : k = L.length := by omega
      have HS : Hid (∀ s ∈ L, s.size ≤ 65536) := Lib.hid (by have := HA.out; rwa [List.take_length] at this)
      clear HA hlt hk
      have hlt' : ¬ (L.length : Int) < (L.length : Int) := by omega
      by_cases hg1 : first < 1
      · go_wp2_with fail
        refine (awake_yes _).mono ?_
        rintro e w2 ⟨rfl, hb2⟩
        go_wp2_with fail
        go_ret
        exact ⟨rfl, hb2⟩
      · by_cases hg2 : 1125899906842624 < first
        · go_wp2_with fail
          refine (awake_yes _).mono ?_
          rintro e w2 ⟨rfl, hb2⟩
          go_wp2_with fail
          go_ret
          exact ⟨rfl, hb2⟩
        · by_cases hg3 : L.length = 0
          · have hg4 : ((L.length : Int) == 0) = true := by simp [hg3]
            go_wp2_with fail
            refine (awake_yes _).mono ?_
            rintro e w2 ⟨rfl, hb2⟩
            go_wp2_with fail
            go_ret
            exact ⟨rfl, hb2⟩
          · have hg4 : ((L.length : Int) == 0) = false := by simpa using hg3
            obtain ⟨q, rfl⟩ : ∃ q : Nat, first = q := ⟨first.toNat, by omega⟩
            have CJ := Lib.hid (joined_any _ L q w HH.out (by omega) HS.out HT.out (by omega) (by omega))
            have HG3 := Lib.hid hg3
            have HQ : Hid (1 ≤ q ∧ q ≤ 1125899906842624) := Lib.hid (by omega)
            clear hg3
            go_wp2_with fail
            refine CJ.out.mono ?_
            rintro e w1 ⟨ve, rfl, ho1, hb1⟩
            have HB1 := Lib.hid hb1
            obtain ⟨S, hS⟩ : ∃ S, S = tx (frames q (bls L)) := ⟨_, rfl⟩
            have hSl : S.data.toList = frames q (bls L) := by rw [hS, tx_list]
            have hSz : S.size = lens (bls L) := by rw [← ln, hSl, frames_len]
            have hS2 : S.size ≤ 20971520 := by rw [hSz]; have := lens_le L; have := HT.out; omega
            rw [← hS]
            obtain ⟨d, d2, d3, c, e1, e2, e3, e4, hc⟩ := cut_in S.size cut hS2
            have q1 : ((S.size : Int) + 1) = ((S.size + 1 : Nat) : Int) ∧ -9223372036854775808 ≤ ((S.size + 1 : Nat) : Int) ∧ ((S.size + 1 : Nat) : Int) ≤ 9223372036854775807 := by omega
            have wS := wrI q1.1 q1.2
            obtain ⟨S1, hS1⟩ : ∃ S1 : Nat, S1 = S.size + 1 := ⟨_, rfl⟩
            rw [← hS1] at wS e1 e4
            have hS10 : ((S1 : Int) == 0) = false := by clear wS e1 e4; simp; omega
            have hS1n : ¬ S1 = 0 := by clear wS e1 e4; omega
            have hS1m : ¬ (S1 : Int) = 0 := by clear wS e1 e4; omega
            have hc1 : (c : Int) ≤ (S.size : Int) := by clear wS e1 e4; omega
            have hc0 : (0 : Int) ≤ (c : Int) := by clear wS e1 e4; omega
            have hXl : (S.extract 0 c).data.toList = (frames q (bls L)).take c := by rw [ext_any, hSl]; simp
            have CS := Lib.hid (scan_any (S.extract 0 c) w1 (by rw [ByteArray.size_extract]; clear wS e1 e4; omega))
            obtain ⟨K, hK1, hK2, hK3, hscan⟩ := scan_part (bls L) q c (fun b hb => by
              simp only [bls, List.mem_map] at hb
              obtain ⟨s, hs, rfl⟩ := hb
              have := HS.out s hs
              rw [ln]; clear wS e1 e4; omega) HQ.out.1 (by have := HQ.out.2; have := HN.out; rw [bls_len]; clear wS e1 e4; omega) (by rw [← hSz]; exact hc)
            rw [bls_len] at hK1 hK3
            have HK1 := Lib.hid hK1
            have HK2 := Lib.hid hK2
            have HK3 := Lib.hid hK3
            have HSC := Lib.hid hscan
            have HXL := Lib.hid hXl
            have HO1 := Lib.hid ho1
            obtain ⟨gE, cE, rfl, hgE, hcE⟩ := own_cells ho1 (by rw [endsL_len]; omega)
            have HGE := Lib.hid hgE
            have HCE := Lib.hid hcE
            clear hb1 hS hSl hSz hS2 q1 hS1 hc hXl hK1 hK2 hK3 hscan ho1 hgE hcE
            have HEL : Hid ((endsL (bls L) L.length).length = L.length + 1) := Lib.hid (endsL_len _ _)
            rw [HEL.out]
            go_wp2_with fail
            refine CS.out.mono ?_
            rintro e w3 ⟨vr, rfl, ho3, hb3⟩
            rw [HXL.out, HSC.out] at ho3 ⊢
            have HO3 := Lib.hid (own_rcs ho3)
            obtain ⟨pr, cr, rfl⟩ := (own_rcs ho3).form
            have HB3 := Lib.hid (HB1.out.trans (hb3.mono HB1.out.size))
            have HCE3 : Hid (∀ j (hj : j < L.length + 1), w3.cell? ⟨gE, j, none⟩ = some (.int .i64 (lens ((bls L).take j) : Int))) := Lib.hid (fun j hj => by
              have := HCE.out w3 (hb3.block _ HGE.out) j (by rw [HEL.out]; exact hj)
              rwa [endsL_at] at this)
            have HNK : Hid ((numbered q ((bls L).take K)).length = K) := Lib.hid (by rw [numbered_len, List.length_take, bls_len]; have := HK1.out; omega)
            rw [HNK.out]
            have HREC : Hid (∀ t (ht : t < K) (hl : t < L.length), ∃ g2 off2, pr = some ⟨g2, off2, none⟩ ∧ g2 < w3.heap.size ∧ ∀ W : World, W.heap[g2]? = w3.heap[g2]? → W.cell? ⟨g2, off2 + t * 2, none⟩ = some (.int .i64 ((q + t : Nat) : Int)) ∧ W.cell? ⟨g2, off2 + t * 2 + 1, none⟩ = some (.string L[t])) := Lib.hid (fun t ht hl => by
              rcases HO3.out with ⟨e, _⟩ | ⟨g2, off2, c2, e, hg2, hc2⟩
              · have := HNK.out; simp only at e; rw [e] at this; simp at this; omega
              · injection e with e1 e2 e3
                refine ⟨g2, off2, e1, hg2, fun W hW => ?_⟩
                have htn : t < (numbered q ((bls L).take K)).length := by rw [HNK.out]; exact ht
                have hx := hc2 W hW t htn
                have hn := numbered_get q ((bls L).take K) t (by rw [List.length_take, bls_len]; omega)
                rw [List.getElem?_eq_getElem htn] at hn
                have hn2 := Option.some.inj hn
                simp only at hx
                rw [hn2] at hx
                have hb : tx (((bls L).take K)[t]'(by rw [List.length_take, bls_len]; omega)) = L[t] := by
                  rw [List.getElem_take, bls_at L t hl, tx_of]
                exact ⟨hx.1, by rw [hx.2, hb]⟩)
            clear ho3 hb3 HCE HXL HSC CS e1 e2 e3 e4 wS
            obtain ⟨Z, hZ⟩ : ∃ Z : Nat, Z = lens ((bls L).take K) := ⟨_, rfl⟩
            rw [← hZ]
            obtain ⟨er, her⟩ : ∃ er : Nat, er = if c = Z then 0 else 91 := ⟨_, rfl⟩
            rw [← her]
            have HZ := Lib.hid hZ
            have HER := Lib.hid her
            clear hZ her
            go_wp2_with fail
            go_loop [14] (fun i => ∃ j : Nat, i = .int .i64 (j : Int) ∧ j ≤ K) (fun i => K - (intOf i).toNat)
            case atStart => exact ⟨0, rfl, Nat.zero_le _⟩
            case round =>
              obtain ⟨j, rfl, hjK⟩ := hrel
              have HJK := Lib.hid hjK
              have q2 : ((j : Int) + 1) = ((j + 1 : Nat) : Int) ∧ -9223372036854775808 ≤ ((j + 1 : Nat) : Int) ∧ ((j + 1 : Nat) : Int) ≤ 9223372036854775807 := by have := HN.out; have := HK1.out; omega
              obtain ⟨J1, hJ1⟩ : ∃ J : Nat, J = j + 1 := ⟨_, rfl⟩
              rw [← hJ1] at q2
              have wj := wrI q2.1 q2.2
              have HJ1 := Lib.hid hJ1
              clear q2 hJ1 hjK
              by_cases hlt : j < K
              · obtain ⟨y, hy⟩ : ∃ y : Nat, y = lens ((bls L).take J1) := ⟨_, rfl⟩
                have c1 := HCE3.out J1 (by have := HJ1.out; have := HK1.out; clear wj; omega)
                rw [← hy] at c1
                have hyc : (y : Int) ≤ (c : Int) := by
                  have h1 := lens_mono (bls L) (j := J1) (k := K) (by have := HJ1.out; clear wj; omega)
                  have h2 := HK2.out
                  clear wj; omega
                have hb1 : decide ((J1 : Int) < ((L.length + 1 : Nat) : Int)) = true := decide_eq_true (by have := HJ1.out; have := HK1.out; clear wj; omega)
                have hb2 : (J1 : Int) < ((L.length : Int) + 1) := by have := HJ1.out; have := HK1.out; clear wj; omega
                have hb0 : (0 : Int) ≤ (J1 : Int) := by clear wj; omega
                have HLT := Lib.hid hlt
                clear hlt hy
                go_wp2_with fail
                go_round
                case rel => exact ⟨J1, congrArg _ wj, by have := HJ1.out; have := HLT.out; clear wj; omega⟩
                case measure => rw [wj]; have := HJ1.out; have := HLT.out; clear wj; simp [intOf]; omega
              · obtain rfl : j = K := by have := HJK.out; clear wj; omega
                have c2 := HCE3.out j (by have := HK1.out; clear wj; omega)
                rw [← HZ.out] at c2
                have hj1 : (j : Int) < ((L.length : Int) + 1) := by have := HK1.out; clear wj; omega
                have hj0 : (0 : Int) ≤ (j : Int) := by clear wj; omega
                have hcase : (∃ y : Nat, j < L.length ∧ y = lens ((bls L).take J1) ∧ ¬ (y : Int) ≤ (c : Int)) ∨ j = L.length := by
                  by_cases h : j < L.length
                  · refine .inl ⟨_, h, rfl, ?_⟩
                    have := HK3.out h
                    rw [HJ1.out]; clear wj; omega
                  · exact .inr (by have := HK1.out; clear wj; omega)
                clear hlt
                have hzc : (c = Z ∧ er = 0) ∨ (c ≠ Z ∧ er = 91) := by
                  by_cases h : c = Z
                  · exact .inl ⟨h, by rw [HER.out, if_pos h]⟩
                  · exact .inr ⟨h, by rw [HER.out, if_neg h]⟩
                clear HER
                have HCASE := Lib.hid hcase
                clear hcase
                rcases HCASE.out with ⟨y, hy1, hy2, hy3⟩ | hy1
                have c1 := HCE3.out J1 (by have := HJ1.out; clear wj; omega)
                rw [← hy2] at c1
                have hb2 : (J1 : Int) < ((L.length : Int) + 1) := by have := HJ1.out; clear wj; omega
                have hb0 : (0 : Int) ≤ (J1 : Int) := by clear wj; omega
                clear hy1 hy2
                rotate_left
                have hb2 : ¬ (J1 : Int) < ((L.length : Int) + 1) := by have := HJ1.out; clear wj; omega
                clear hy1
                rotate_left
                all_goals rcases hzc with ⟨hz, rfl⟩ | ⟨hz, rfl⟩
                rotate_left
                have hz2 : (Z == c) = false := by simp; intro h; exact hz h.symm
                have hz3 : ((Z : Int) == (c : Int)) = false := by clear wj; simp; omega
                clear hz
                rotate_left
                have hz2 : (Z == c) = true := by simp [hz]
                have hz3 : ((Z : Int) == (c : Int)) = true := by simp [hz]
                clear hz
                rotate_left
                have hz2 : (Z == c) = false := by simp; intro h; exact hz h.symm
                have hz3 : ((Z : Int) == (c : Int)) = false := by clear wj; simp; omega
                clear hz
                rotate_left
                have hz2 : (Z == c) = true := by simp [hz]
                have hz3 : ((Z : Int) == (c : Int)) = true := by simp [hz]
                clear hz
                all_goals go_wp2_with fail
                all_goals clear hz2 hz3 c2 hb2
                all_goals
                  go_loopw [15] (fun i wr => ∃ t : Nat, i = .int .i64 (t : Int) ∧ t ≤ j ∧ Below w3.heap.size w3 wr) (fun i _ => j - (intOf i).toNat)
                  case atStart => exact ⟨0, rfl, Nat.zero_le _, Below.refl _ _⟩
                  case round =>
                    obtain ⟨t, rfl, htj, hbw⟩ := hrel
                    have HBW := Lib.hid hbw
                    have HTJ := Lib.hid htj
                    clear hbw
                    obtain ⟨wo, rfl⟩ : ∃ wo : World, wo = wr := ⟨_, rfl⟩
                    by_cases htl : t < j
                    · have htL : t < L.length := by have := HK1.out; clear wj; omega
                      obtain ⟨g2, off2, rfl, hg2, hrec⟩ := HREC.out t htl htL
                      obtain ⟨g1, off1, rfl, hg1, hcl⟩ := HCELL.out t htL
                      obtain ⟨a0, a1⟩ := hrec wo (HBW.out.block g2 hg2)
                      have a2 : wo.cell? ⟨g1, off1 + t, none⟩ = some (.string L[t]) := (World.cell?_of_block (a := ⟨g1, off1 + t, none⟩) ((HB3.out.trans (HBW.out.mono HB3.out.size)).block g1 hg1)).trans hcl
                      generalize L[t] = b at a1 a2
                      have q2 : ((t : Int) + 1) = ((t + 1 : Nat) : Int) ∧ -9223372036854775808 ≤ ((t + 1 : Nat) : Int) ∧ ((t + 1 : Nat) : Int) ≤ 9223372036854775807 := by have := HN.out; clear wj; omega
                      have q3 : ((q : Int) + (t : Int)) = ((q + t : Nat) : Int) ∧ -9223372036854775808 ≤ ((q + t : Nat) : Int) ∧ ((q + t : Nat) : Int) ≤ 9223372036854775807 := by have := HN.out; have := HQ.out; clear wj; omega
                      obtain ⟨Q, hQ⟩ : ∃ Q : Nat, Q = q + t := ⟨_, rfl⟩
                      obtain ⟨t1, ht1⟩ : ∃ t1 : Nat, t1 = t + 1 := ⟨_, rfl⟩
                      rw [← hQ] at q3 a0
                      rw [← ht1] at q2
                      have HT1 := Lib.hid ht1
                      have HTL := Lib.hid htl
                      have wt := wrI q2.1 q2.2
                      have wq := wrI q3.1 q3.2
                      have hi1 : (t : Int) < (j : Int) := by clear wj wt wq; omega
                      have hi2 : (t : Int) < (L.length : Int) := by clear wj wt wq; omega
                      have hi0 : (0 : Int) ≤ (t : Int) := by clear wj wt wq; omega
                      have hbb : (b.toList == b.toList) = true := st_eq.2 rfl
                      clear q2 q3 hQ ht1 htl htj hrec hcl wj
                      go_wp2_with fail
                      go_quiet (fail)
                      go_wp2_with fail
                      go_roundw
                      case rel => exact ⟨t1, congrArg _ wt, by have := HT1.out; have := HTL.out; clear wt wq; omega, below_drewN HBW.out _⟩
                      case measure => rw [wt]; have := HT1.out; have := HTL.out; clear wt wq; simp [intOf]; omega
                    · obtain rfl : t = j := by clear wj; omega
                      clear htl htj wj
                      have hi1 : ¬ (t : Int) < (t : Int) := by omega
                      go_wp2_with fail
                      refine (awake_yes _).mono ?_
                      rintro e w9 ⟨rfl, hb9⟩
                      have HB9 := Lib.hid (HB3.out.trans ((HBW.out.trans (hb9.mono HBW.out.size)).mono HB3.out.size))
                      clear hb9
                      go_wp2_with fail
                      go_ret
                      exact ⟨rfl, HB9.out⟩
end Go.Proofs.Ytmfoihalganggaa
