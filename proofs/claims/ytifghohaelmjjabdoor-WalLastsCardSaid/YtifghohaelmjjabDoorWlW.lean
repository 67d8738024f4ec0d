/- The walk of the law WalLasts. Conditions: those that each theorem names. -/
import Derived.Test.YtifghohaelmjjabDoorWlLp
import Derived.Test.YtifghohaelmjjabDoorWlArgs
import Derived.Test.YtifghohaelmjjabDoorCrArgs
namespace Go.Proofs.YtifghohaelmjjabDoor
set_option linter.unusedVariables false
open Go Go.RowKit Wl Dk
/-- The log behind k records. -/
def LogR (w : World) (A B : Nat) (L : List ByteArray) (synced : Int) (k : Nat) (wr : World) : Prop :=
  ∃ kk : Int, 0 ≤ kk ∧ kk ≤ 4 + 2 * k ∧ wr.heap[B]? = some (logO A (lens ((bls L).take k) : Int) (k : Int) false) ∧ AtB w A (st (frames 1 ((bls L).take k)) (syN (bls L) synced k) kk) (fun y => False ∨ y = B) wr
set_option maxHeartbeats 8000000 in
set_option maxRecDepth 100000 in
theorem lasts_any (v u : Value) (L : List ByteArray) (bs : List Int) (synced n : Int) (w : World) (hL : StrsAt w v L) (hn : L.length ≤ maxLen) (hC : CrashIn w n u bs) (hsy : -9223372036854775808 ≤ synced ∧ synced ≤ 9223372036854775807) :
    Calls Tryd.prog 3 #[v, .int .i64 synced, .agg #[.int .i64 n, u]] w fun e w' => e = .returned (.bool true) ∧ Below w.heap.size w w' := by
  have HN : Hid (L.length ≤ 9223372036854775807) := Lib.hid (by unfold maxLen at hn; omega)
  have HC := Lib.hid hC
  have HSY := Lib.hid hsy
  obtain ⟨pv, cv, rfl⟩ := hL.form
  obtain ⟨pu, nu, cu, rfl⟩ : ∃ p n c, u = .slice p n c := by
    rcases hC.row with ⟨_, p, c, rfl⟩ | ⟨g, off, c, rfl, _⟩ <;> exact ⟨_, _, _, rfl⟩
  have HCELL : Hid (∀ k (h : k < L.length), ∃ g off, pv = some ⟨g, off, none⟩ ∧ g < w.heap.size ∧ w.cell? ⟨g, off + k, none⟩ = some (.string L[k])) := Lib.hid (fun k h => by
    rcases hL with ⟨rfl, _⟩ | ⟨g, off, c, e, hg, hc⟩
    · simp at h
    · injection e with e1 e2 e3
      exact ⟨g, off, e1, hg, hc w rfl k h⟩)
  clear hn hL hC hsy
  go_enter Tryd.func3, Tryd.ntmps3
  go_wp2_with fail
  have HB0 := Lib.hid (below_new w (.cells #[.int .i64 n, .slice pu nu cu] 25))
  have hW := heap_alloc_new w (.cells #[.int .i64 n, .slice pu nu cu] 25)
  have hWs : w.heap.size < (w.alloc (.cells #[.int .i64 n, .slice pu nu cu] 25)).heap.size := by simp
  generalize w.alloc (.cells #[.int .i64 n, .slice pu nu cu] 25) = W0 at *
  have HCB : Hid (∀ x : World, Below W0.heap.size W0 x → x.cell? ⟨w.heap.size, 0, none⟩ = some (.int .i64 n) ∧ x.cell? ⟨w.heap.size, 1, none⟩ = some (.slice pu nu cu)) := Lib.hid (fun x hx => by
    have h := (hx.block w.heap.size hWs).trans hW
    exact ⟨by rw [cell_of_row _ _ _ _ _ _ h]; rfl, by rw [cell_of_row _ _ _ _ _ _ h]; rfl⟩)
  have HCX : Hid (∀ k (h : k < L.length), ∃ g off, pv = some ⟨g, off, none⟩ ∧ ∀ x : World, Below W0.heap.size W0 x → x.cell? ⟨g, off + k, none⟩ = some (.string L[k])) := Lib.hid (fun k h => by
    obtain ⟨g, off, e, hg, hc⟩ := HCELL.out k h
    exact ⟨g, off, e, fun x hx => (World.cell?_of_block (a := ⟨g, off + k, none⟩) ((hx.block g (Nat.lt_trans hg hWs)).trans (HB0.out.block g hg))).trans hc⟩)
  have HI : Hid (∀ x : World, Below W0.heap.size W0 x → IntsAt x (.slice pu nu cu) bs ∧ (bs = [] ∨ ∀ g, (Value.slice pu nu cu).ownBlock = some g → g < W0.heap.size)) := Lib.hid (fun x hx => by
    have h := HC.out.own
    have h2 : bs = [] ∨ ∀ g, (Value.slice pu nu cu).ownBlock = some g → g < W0.heap.size := h.imp id (fun h g hg => Nat.lt_trans (h g hg) hWs)
    refine ⟨?_, h2⟩
    rcases HC.out.row with r | ⟨g, off, c, e, hg, hc⟩
    · exact .inl r
    · exact .inr ⟨g, off, c, e, Nat.lt_of_lt_of_le hg (Nat.le_trans (Nat.le_of_lt hWs) hx.size), fun W hW' => hc W (hW'.trans ((hx.block g (Nat.lt_trans hg hWs)).trans (HB0.out.block g hg)))⟩)
  clear HCELL hW hWs
  refine (at_new W0).mono ?_
  rintro e w1 ⟨rfl, h1⟩
  have H1 := Lib.hid (AtB.of h1)
  have C1 := Lib.hid (open_new H1.out)
  clear h1
  go_wp2_with fail
  refine C1.out.mono ?_
  rintro e w2 ⟨B, v0, kk, rfl, hB, hv0, h2, hs2, hB0, hk1, hk2⟩
  obtain ⟨p0, c0, rfl⟩ : ∃ p c, v0 = .slice p 0 c := hv0.form
  have H2 : Hid (AtB W0 W0.heap.size (st [] 0 kk) (fun y => False ∨ y = B) w2) := Lib.hid (h2.add (Below.refl _ _) (fun b hb => .inl (hb.imp id .inl)))
  have HBB := Lib.hid hB
  have HKK := Lib.hid (And.intro hk1 hk2)
  have HBlt := Lib.hid hB0
  have hlen0 : ((([] : List Rc).length : Nat) : Int) = 0 := rfl
  clear h2 hs2 hB hk1 hk2 hB0 C1 H1 hv0 hlen0
  go_wp2_with fail
  refine (awake_yes _).mono ?_
  rintro e w3 ⟨rfl, hb3⟩
  have H3 := Lib.hid (H2.out.others hb3)
  have HB3 := Lib.hid ((hb3.block B (H2.out.lt (.inr rfl))).trans HBB.out)
  clear hb3
  go_wp2_with fail
  go_loopw [11] (fun i wr => ∃ k : Nat, i = .int .i64 (k : Int) ∧ k ≤ L.length ∧ k ≤ 50 ∧ Hid (∀ s ∈ L.take k, s.size ≤ 65536) ∧ Hid (LogR W0 W0.heap.size B L synced k wr)) (fun i _ => L.length - (intOf i).toNat)
  case atStart => exact ⟨0, rfl, Nat.zero_le _, Nat.zero_le _, Lib.hid (by simp), Lib.hid ⟨kk, by have := HKK.out; omega, by have := HKK.out; omega, by rw [List.take_zero]; exact HB3.out, by rw [List.take_zero, syN_zero]; exact H3.out⟩⟩
  case round =>
    obtain ⟨k, rfl, hk, hk50, HA, HLR⟩ := hrel
    obtain ⟨wo, rfl⟩ : ∃ wo : World, wo = wr := ⟨_, rfl⟩
    by_cases hlt : k < L.length ∧ k < 50
    · obtain ⟨hlt, hlt5⟩ := hlt
      obtain ⟨g, off, rfl, hcell⟩ := HCX.out k hlt
      obtain ⟨kr, hr1, hr2, hr3, hr4⟩ := HLR.out
      have c0 := hcell wo hr4.below
      have hx : L[k]? = some L[k] := List.getElem?_eq_getElem hlt
      have hfn := frames_next 1 (bls L) k (by rw [bls_len]; exact hlt)
      have hln := lens_next (bls L) k (by rw [bls_len]; exact hlt)
      rw [bls_at L k hlt] at hfn hln
      rw [ln] at hln
      generalize L[k] = b at c0 hx hfn hln
      have HX := Lib.hid hx
      have HLT := Lib.hid (And.intro hlt hlt5)
      have q2 : ((k : Int) + 1) = ((k + 1 : Nat) : Int) ∧ -9223372036854775808 ≤ ((k + 1 : Nat) : Int) ∧ ((k + 1 : Nat) : Int) ≤ 9223372036854775807 := by omega
      obtain ⟨k1, hk1⟩ : ∃ k1 : Nat, k1 = k + 1 := ⟨_, rfl⟩
      rw [← hk1] at q2 hfn hln
      rw [show 1 + k = k1 by omega] at hfn
      have HFN := Lib.hid hfn
      have HLN := Lib.hid hln
      have HR3 := Lib.hid hr3
      have HKR := Lib.hid (And.intro hr1 hr2)
      have wk := wrI q2.1 q2.2
      have hlt1 : (k : Int) < (L.length : Int) := by omega
      have hlt2 : (k : Int) < 50 := by omega
      have hk0 : (0 : Int) ≤ (k : Int) := by omega
      have HK1 := Lib.hid hk1
      have HR4 := Lib.hid hr4
      clear q2 hx hlt hlt5 hk hk50 hk1 hcell hfn hln hr3 hr1 hr2
      by_cases hb : 65536 < b.size
      · have hb1 : (65536 : Int) < (b.size : Int) := by clear wk; omega
        have HBE := Lib.hid hr4.below
        clear hr4
        go_wp2_with fail
        go_ret
        exact ⟨rfl, HB0.out.trans (HBE.out.mono HB0.out.size)⟩
      · have hb1 : ¬ (65536 : Int) < (b.size : Int) := by clear wk; omega
        have HLS : Hid (lens ((bls L).take k) ≤ 65556 * 50) := Lib.hid (by
          have h := lens_small ((bls L).take k) (fun x hx => by
            rw [← bls_take] at hx
            simp only [bls, List.mem_map] at hx
            obtain ⟨s, hs, rfl⟩ := hx
            rw [ln]; exact HA.out s hs)
          rw [List.length_take] at h
          have := HLT.out
          clear wk; omega)
        have CA := Lib.hid (append_ok (q := k1) (Z := lens ((bls L).take k1)) b HR4.out (fun h => h) HBlt.out HR3.out (by have := HKR.out; have := HLT.out; clear wk; omega) (by have := HK1.out; have := HLT.out; clear wk; omega) (by clear wk; omega) (.inr HK1.out)
          (by rw [frames_len]; have := HLS.out; clear wk; omega) (by have := HLS.out; clear wk; omega) HLN.out)
        rw [show ((k1 : Nat) : Int) = (k : Int) + 1 by have := HK1.out; clear wk; omega] at CA
        clear hr4
        go_wp2_with fail
        refine CA.out.mono ?_
        rintro e w4 ⟨rfl, h41, h42, h43⟩
        rw [← HFN.out] at h42
        have H41 := Lib.hid h41
        have H42 := Lib.hid h42
        clear h41 h42 h43 CA c0
        have HA1 : Hid (∀ s ∈ L.take k1, s.size ≤ 65536) := Lib.hid (fun s hs => by
          rw [HK1.out, List.take_add_one, HX.out] at hs
          simp only [Option.toList_some, List.mem_append, List.mem_singleton] at hs
          rcases hs with h | rfl
          · exact HA.out s h
          · omega)
        by_cases hs : synced = (k : Int) + 1
        · have HSN := Lib.hid hs
          have CS := Lib.hid (lsync_ok H42.out H41.out (by have := HKR.out; have := HLT.out; clear wk; omega))
          have hs1 : ((k : Int) + 1 == synced) = true := by simpa using hs.symm
          have hs2 : (k : Int) + 1 = synced := hs.symm
          clear hs
          go_wp2_with fail
          refine CS.out.mono ?_
          rintro e w5 ⟨rfl, h51, h52⟩
          have HL5 : Hid (LogR W0 W0.heap.size B L synced k1 w5) := Lib.hid ⟨kr + 1 + 1, by have := HKR.out; clear wk; omega, by have := HKR.out; have := HK1.out; clear wk; omega, (h52.2 B (.inr rfl)).trans H41.out, by
            have e1 : (frames 1 ((bls L).take k1)).length = syN (bls L) synced k1 := by
              rw [frames_len, HSN.out, HK1.out, show (k : Int) + 1 = ((k + 1 : Nat) : Int) by omega, syN_at]
            rw [e1] at h51; exact h51⟩
          clear h51 h52 CS
          go_wp2_with fail
          go_roundw
          case rel => exact ⟨k1, congrArg (Value.int IntKind.i64) (show synced = (k1 : Int) by have := HSN.out; have := HK1.out; clear wk; omega), by have := HK1.out; have := HLT.out; clear wk; omega, by have := HK1.out; have := HLT.out; clear wk; omega, HA1, HL5⟩
          case measure => have := HLT.out; clear wk; simp [intOf]; omega
        · have HSN := Lib.hid hs
          have hs1 : ((k : Int) + 1 == synced) = false := by simpa using fun e => hs e.symm
          have hs2 : ¬ (k : Int) + 1 = synced := fun e => hs e.symm
          clear hs
          have HL5 : Hid (LogR W0 W0.heap.size B L synced k1 w4) := Lib.hid ⟨kr + 1, by have := HKR.out; clear wk; omega, by have := HKR.out; have := HK1.out; clear wk; omega, H41.out, by
            have e1 : syN (bls L) synced k = syN (bls L) synced k1 := by
              rw [HK1.out]; exact (syN_other _ _ _ (by have := HSN.out; clear wk; omega)).symm
            have h := H42.out
            rw [e1] at h; exact h⟩
          go_wp2_with fail
          go_roundw
          case rel => exact ⟨k1, by first | exact congrArg _ wk | (rw [show ((k1 : Nat) : Int) = (k : Int) + 1 by have := HK1.out; clear wk; omega]), by have := HK1.out; have := HLT.out; clear wk; omega, by have := HK1.out; have := HLT.out; clear wk; omega, HA1, HL5⟩
          case measure => have := HLT.out; clear wk; simp [intOf]; omega
    · have hmin : min (L.length : Int) 50 = (k : Int) := by omega
      have hside : (¬ (k : Int) < (L.length : Int)) ∨ ((k : Int) < (L.length : Int) ∧ ¬ (k : Int) < 50) := by omega
      obtain ⟨kr, hr1, hr2, hr3, hr4⟩ := HLR.out
      obtain ⟨cb0, cb1⟩ := HCB.out wo hr4.below
      obtain ⟨hi1, hi2⟩ := HI.out wo hr4.below
      have hbk : ∀ b ∈ (bls L).take k, b.length ≤ 65536 := fun x hx => by
        rw [← bls_take] at hx
        simp only [bls, List.mem_map] at hx
        obtain ⟨s, hs, rfl⟩ := hx
        rw [ln]; exact HA.out s hs
      have hlk : ((bls L).take k).length = k := by rw [List.length_take, bls_len]; omega
      obtain ⟨Lk, hLk⟩ : ∃ Lk, Lk = (bls L).take k := ⟨_, rfl⟩
      obtain ⟨s, hs⟩ : ∃ s, s = syN (bls L) synced k := ⟨_, rfl⟩
      have hs2 : s = syN Lk synced Lk.length := by rw [hs, hLk]; exact syN_part _ _ _ (by rw [bls_len]; exact hk)
      have hs3 : s ≤ (frames 1 Lk).length := by rw [frames_len, hs, hLk]; exact syN_le _ _ _
      rw [← hLk] at hbk hlk hr4
      rw [← hs] at hr4
      have hsm := lens_small Lk hbk
      obtain ⟨m, m1, m2, m3⟩ := st_crash (frames 1 Lk) s kr n.toNat bs hs3
      rw [frames_len] at m2
      obtain ⟨K, er, f1, f2, f3, f4, f5, f6⟩ := found Lk s m synced hbk (by omega) hs2 m1 m2
      rw [hlk] at f1 f6
      have CCR := Lib.hid (hr4.crash (by show 1 + 0 ≤ 1099511627776; omega) (by show 0 ≤ 1099511627776; omega) n n.toNat (by omega) (.slice pu nu cu) bs hi1 HC.out.len HC.out.fits hi2)
      rw [m3] at CCR
      have C1 := Lib.hid (fun (W : World) (h : AtB W0 W0.heap.size (st ((frames 1 Lk).take m) m kr) (fun y => False ∨ y = B) W) => by
        have := open_old h (by omega) (by rw [List.length_take, frames_len]; omega) _ _ er f2 f3
        rw [f4] at this; exact this)
      have hF : (frames 1 (Lk.take K)).length ≤ 140737488351232 := by
        rw [frames_len]; have := lens_take_le Lk K; omega
      have hbody : Hid (∀ t (ht : t < K) (hl : t < L.length), ∀ (hn : t < (numbered 1 (Lk.take K)).length), (numbered 1 (Lk.take K))[t] = (1 + t, (L[t]).data.toList)) := Lib.hid (fun t ht hl hn => by
        have htk : t < (Lk.take K).length := by rw [List.length_take]; omega
        have h := numbered_get 1 (Lk.take K) t htk
        rw [List.getElem?_eq_getElem hn] at h
        rw [Option.some.inj h]
        congr 1
        simp only [List.getElem_take, hLk]
        exact bls_at L t hl)
      have hKL : (numbered 1 (Lk.take K)).length = K := by rw [numbered_len, List.length_take]; omega
      have HKL := Lib.hid hKL
      have HHF := Lib.hid hF
      have HF5 := Lib.hid f5
      have HKK2 : Hid (K ≤ k ∧ k ≤ 50 ∧ k ≤ L.length) := Lib.hid (by omega)
      have HKR2 := Lib.hid (And.intro hr1 hr2)
      have HWO := Lib.hid hr4.below
      have hfin : ¬ (k : Int) < (K : Int) := by omega
      have hsyc : (¬ (1 : Int) ≤ synced) ∨ ((1 : Int) ≤ synced ∧ ¬ synced ≤ (k : Int)) ∨ ((1 : Int) ≤ synced ∧ synced ≤ (k : Int) ∧ ¬ (K : Int) < synced) := by
        by_cases h1 : (1 : Int) ≤ synced
        · by_cases h2 : synced ≤ (k : Int)
          · exact .inr (.inr ⟨h1, h2, by have := f6 ⟨h1, h2⟩; omega⟩)
          · exact .inr (.inl ⟨h1, h2⟩)
        · exact .inl h1
      obtain ⟨R, hR⟩ : ∃ R, R = numbered 1 (Lk.take K) := ⟨_, rfl⟩
      obtain ⟨F, hFe⟩ : ∃ F, F = frames 1 (Lk.take K) := ⟨_, rfl⟩
      rw [← hR] at HKL hbody
      rw [← hR, ← hFe] at HF5
      simp only [← hR, ← hFe] at C1
      rw [← hFe] at HHF
      clear hlt hk hk50 HA HLR hr1 hr2 hr3 hr4 hi1 hi2 hbk hs hs2 hs3 hsm m1 m2 m3 f1 f2 f3 f4 f5 f6 hF hKL hLk hlk hR hFe
      rcases hside with hg | ⟨hg, hg2⟩
      all_goals rcases hsyc with hc | ⟨hc, hc2⟩ | ⟨hc, hc2, hc3⟩
      all_goals go_wp2_with fail
      all_goals
        refine CCR.out.mono ?_
        rintro e w5 ⟨rfl, h5, hs5⟩
        have CO1 := Lib.hid (C1.out _ h5)
        clear h5 hs5 CCR C1 cb0 cb1
        go_wp2_with fail
        refine CO1.out.mono ?_
        rintro e w6 ⟨B1, v1, k6, rfl, hB1, hv1, h6, hs6, hb6, hk6, hk6'⟩
        have CO2 := Lib.hid (open_old h6 (by have := HKR2.out; have := HKK2.out; omega) HHF.out R F.length 0 HF5.out (.inl ⟨rfl, rfl⟩))
        have HV1 := Lib.hid hv1
        have HOF : Hid (F.take F.length = F) := Lib.hid (List.take_length)
        clear hB1 h6 hs6 hb6 hk6 hk6' hv1 CO1
        go_wp2_with fail
        refine CO2.out.mono ?_
        rintro e w7 ⟨B2, v2, k7, rfl, hB2, hv2, h7, hs7, hb7, hk7, hk7'⟩
        have HV1' := Lib.hid (HV1.out.stay hs7.1 (fun b hb => hs7.2 b (.inr (.inr hb))))
        have HV2 := Lib.hid hv2
        have HB7 := Lib.hid h7.below
        obtain ⟨p1, c1, rfl⟩ := HV1.out.form
        obtain ⟨p2, c2, rfl⟩ := HV2.out.form
        have CSM := Lib.hid (rsame_any R R (.slice p1 R.length c1) (.slice p2 R.length c2) w7 HV1'.out HV2.out (by rw [HKL.out]; have := HKK2.out; unfold maxLen; omega))
        rw [decide_eq_true rfl] at CSM
        rw [HKL.out] at CSM HV1' ⊢
        clear hB2 h7 hs7 hb7 hk7 hk7' hv2 CO2 HV1 HV2
        go_wp2_with fail
        refine CSM.out.mono ?_
        rintro e w8 ⟨rfl, hb8⟩
        have HV8 := Lib.hid (HV1'.out.below hb8)
        have HB8 := Lib.hid (HB7.out.trans (hb8.mono HB7.out.size))
        have HREC : Hid (∀ t (ht : t < K) (hl : t < L.length), ∃ g2 off2, p1 = some ⟨g2, off2, none⟩ ∧ g2 < w8.heap.size ∧ ∀ W : World, W.heap[g2]? = w8.heap[g2]? → W.cell? ⟨g2, off2 + t * 2, none⟩ = some (.int .i64 ((1 + t : Nat) : Int)) ∧ W.cell? ⟨g2, off2 + t * 2 + 1, none⟩ = some (.string L[t])) := Lib.hid (fun t ht hl => by
          rcases HV8.out with ⟨e, _⟩ | ⟨g2, off2, c9, e, hg2, hc9⟩
          · have := HKL.out; rw [e] at this; simp at this; omega
          · injection e with e1 e2 e3
            refine ⟨g2, off2, e1, hg2, fun W hW => ?_⟩
            have htn : t < R.length := by rw [HKL.out]; exact ht
            have hx := hc9 W hW t htn
            have hn := hbody.out t ht hl htn
            simp only [hn, tx_of] at hx
            exact hx)
        clear hb8 CSM HV1' HB7
        go_wp2_with fail
        go_loopw [20] (fun i wr => ∃ t : Nat, i = .int .i64 (t : Int) ∧ t ≤ K ∧ Below w8.heap.size w8 wr) (fun i _ => K - (intOf i).toNat)
        case atStart => exact ⟨0, rfl, Nat.zero_le _, Below.refl _ _⟩
        case round =>
          obtain ⟨t, rfl, htK, hbw⟩ := hrel
          have HBW := Lib.hid hbw
          clear hbw
          obtain ⟨wo, rfl⟩ : ∃ wo : World, wo = wr := ⟨_, rfl⟩
          by_cases htl : t < K
          · have htL : t < L.length := by have := HKK2.out; omega
            obtain ⟨g2, off2, rfl, hg2, hrec⟩ := HREC.out t htl htL
            obtain ⟨g1, off1, rfl, hcl⟩ := HCX.out t htL
            obtain ⟨a0, a1⟩ := hrec wo (HBW.out.block g2 hg2)
            have a2 := hcl wo (HB8.out.trans (HBW.out.mono HB8.out.size))
            generalize L[t] = b at a1 a2
            have q2 : ((t : Int) + 1) = ((t + 1 : Nat) : Int) ∧ -9223372036854775808 ≤ ((t + 1 : Nat) : Int) ∧ ((t + 1 : Nat) : Int) ≤ 9223372036854775807 := by have := HKK2.out; omega
            obtain ⟨t1, ht1⟩ : ∃ t1 : Nat, t1 = t + 1 := ⟨_, rfl⟩
            rw [show 1 + t = t1 by omega] at a0
            rw [← ht1] at q2
            have HT1 := Lib.hid ht1
            have HTL := Lib.hid htl
            have wt := wrI q2.1 q2.2
            have wq : IntKind.i64.wrap ((t : Int) + 1) = (t1 : Int) := by rw [q2.1]; exact IntWalk.i64_in _ q2.2
            have hi1 : (t : Int) < (K : Int) := by clear wt wq; omega
            have hi2 : (t : Int) < (L.length : Int) := by clear wt wq; omega
            have hi0 : (0 : Int) ≤ (t : Int) := by clear wt wq; omega
            have hbb : (b.toList == b.toList) = true := st_eq.2 rfl
            clear q2 ht1 htl hrec hcl htK
            go_wp2_with fail
            go_quiet (fail)
            go_wp2_with fail
            go_roundw
            case rel => exact ⟨t1, rfl, by have := HT1.out; have := HTL.out; clear wt wq; omega, below_drewN HBW.out _⟩
            case measure => have := HT1.out; have := HTL.out; clear wt wq; simp [intOf]; omega
          · obtain rfl : t = K := by omega
            clear htl htK
            have hi1 : ¬ (t : Int) < (t : Int) := by omega
            go_wp2_with fail
            go_ret
            exact ⟨rfl, HB0.out.trans ((HB8.out.trans (HBW.out.mono HB8.out.size)).mono HB0.out.size)⟩
end Go.Proofs.YtifghohaelmjjabDoor
