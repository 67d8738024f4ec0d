/- The document's own Encode. Conditions: those that each theorem names. -/
import Derived.Test.YtbfaoelgbfhjdaaIdM
namespace Go.Proofs.Ytbfaoelgbfhjdaa
set_option linter.unusedVariables false
open Go Go.RowKit Ids
set_option maxHeartbeats 2000000 in
set_option maxRecDepth 100000 in
theorem encRef_no (L : List Int) (v : Value) (w : World) (h : IntsAt w v L) (hl : L.length ≤ 1048576) (hL : ¬ okB L) :
    Calls Try.prog 27 #[v] w fun e w' => e = .returned (.tuple #[.string ⟨#[]⟩, .int .i64 80]) ∧ Below w.heap.size w w' := by
  have C := Lib.hid (checkRef_any L v w h (by unfold maxLen; omega))
  rw [chkE_no hL] at C
  clear h hl hL
  go_enter Try.func27, Try.ntmps27
  go_wp2_with (go_at_call 13; refine C.out.mono ?_; rintro e w2 ⟨rfl, hb⟩)
  go_ret2
  exact ⟨rfl, hb⟩
set_option maxHeartbeats 4000000 in
set_option maxRecDepth 100000 in
theorem encRef_yes (L : List Int) (v : Value) (w : World) (h : IntsAt w v L) (hl : L.length ≤ 1048576) (hL : okB L) :
    Calls Try.prog 27 #[v] w fun e w' => e = .returned (.tuple #[.string ⟨(encB L).toArray⟩, .int .i64 0]) ∧ Below w.heap.size w w' := by
  have C := Lib.hid (checkRef_any L v w h (by unfold maxLen; omega))
  rw [chkE_yes hL] at C
  have CF := Lib.hid fun wx => fixRef_any L.length 4 wx (by decide) (by decide) (by omega) (.tuple #[.string ⟨(fixL 4 L.length).toArray⟩, .int .i64 0]) (Lib.hid (by rw [if_pos (by omega)]))
  have hwr : IntKind.u64.wrap (L.length : Int) = (L.length : Int) := IntWalk.u64_in _ (by omega)
  have hbig : decide ((2147483648 : Int) < (L.length : Int)) = false := by simp; omega
  have HL := Lib.hid hL
  have HML : Hid (L.length ≤ maxLen) := Lib.hid (by unfold maxLen; omega)
  have HN := Lib.hid hl
  obtain ⟨p, c, rfl⟩ := h.form
  have HC := Lib.hid (row_cells h)
  have HZ : Hid ((⟨(fixL 4 L.length).toArray⟩ : ByteArray).size = 4) := Lib.hid (by rw [B_size, fixL_length])
  obtain ⟨S, hS⟩ : ∃ S : ByteArray, S = ⟨(fixL 4 L.length).toArray⟩ := ⟨_, rfl⟩
  rw [← hS] at HZ CF
  have HSL : Hid (S.data.toList = fixL 4 L.length) := Lib.hid (by rw [hS])
  have hrun := fun wx => Lib.run_convert_string_bytes (P := Try.prog) wx 9 56 5 S Try.underlying9 Try.underlying56 Try.underlying5
  have HBY := Lib.hid fun wx => Byt.conv wx S (by have := HZ.out; omega)
  have HBW := Lib.hid fun wx => bytes_below wx S
  clear h hl hL hS
  go_enter Try.func27, Try.ntmps27
  go_wp2_with (first
    | (go_at_call 13; refine C.out.mono ?_; clear C; rintro e w2 ⟨rfl, hb2⟩; have HB2 := Lib.hid hb2; clear hb2)
    | (go_at_call 41; refine (CF.out _).mono ?_; clear CF; rintro e w1 ⟨rfl, hb1⟩; have HB1 := Lib.hid (HB2.out.trans (hb1.mono HB2.out.size)); clear hb1; have hrun1 := hrun w1; have HBY1 := Lib.hid (HBY.out w1); have HBW1 := Lib.hid (HBW.out w1); clear hrun HBY HBW))
  have HW : Hid (Below w.heap.size w (Lib.bytesWorld w1 5 S)) := Lib.hid (HB1.out.trans (HBW1.out.mono HB1.out.size))
  have HS0 : Hid (Byt (Lib.bytesWorld w1 5 S) w.heap.size (.slice (some ⟨w1.heap.size, 0, none⟩) S.size (grownCap w1 S.size 0 5)) (fixL 4 L.length ++ stepsB 0 (L.take 0))) := Lib.hid (by
    have h := HBY1.out
    rw [HSL.out] at h
    obtain ⟨g, cap, e, ⟨k1, k2⟩, k3⟩ := h
    simp only [List.take_zero, stepsB, List.append_nil]
    exact ⟨g, cap, e, ⟨Nat.le_trans HB1.out.size k1, k2⟩, k3⟩)
  clear hrun1 HBY1 HBW1
  generalize Lib.bytesWorld w1 5 S = W0 at *
  generalize Value.slice (some ⟨w1.heap.size, 0, none⟩) S.size (grownCap w1 S.size 0 5) = V0 at *
  go_loopw [6, 7, 8] (fun s y i wr => ∃ k : Nat, k ≤ L.length ∧ i = .int .i64 k ∧ y = .int .i64 (lastL (L.take k)) ∧ Byt wr w.heap.size s (fixL 4 L.length ++ stepsB 0 (L.take k)) ∧ Below w.heap.size w wr) (fun _ _ i _ => L.length - (intOf i).toNat)
  case atStart => exact ⟨0, Nat.zero_le _, rfl, rfl, HS0.out, HW.out⟩
  case round =>
    obtain ⟨k, hk, rfl, rfl, hby, hbel⟩ := hrel
    have HY := Lib.hid hby
    have HB := Lib.hid hbel
    clear hby hbel
    obtain ⟨wo, rfl⟩ : ∃ wo : World, wo = wr := ⟨_, rfl⟩
    by_cases hlt : k < L.length
    · obtain ⟨b, off, rfl, hc⟩ := HC.out k hlt
      have hcell := hc wo HB.out
      have hlt' : (k : Int) < (L.length : Int) := by omega
      have hx : L[k]? = some L[k] := List.getElem?_eq_getElem hlt
      have HCK := Lib.hid hc
      generalize L[k] = x at hcell hx HCK
      have HE := Lib.hid (encB_next hx)
      have HLT := Lib.hid (lastL_take hx)
      obtain ⟨q1, q2, q3⟩ := okB_step HL.out hx
      have HLEN := Lib.hid (stepsB_len HL.out k)
      generalize lastL (L.take k) = y at *
      obtain ⟨A0, hA0⟩ : ∃ A0, A0 = fixL 4 L.length ++ stepsB 0 (L.take k) := ⟨_, rfl⟩
      rw [← hA0] at HY HLEN
      have HAE := Lib.hid hA0
      clear hA0
      obtain ⟨n, hn⟩ : ∃ n, n = (x - y).toNat := ⟨_, rfl⟩
      rw [← hn] at HE
      have HXY : Hid (wrap64 (x - y) = (n : Int)) := Lib.hid (by rw [wrapI _ (by omega)]; omega)
      have HNB : Hid (n ≤ 4503599627370496) := Lib.hid (by omega)
      clear hc hx hn q1 q2 q3
      go_wp2_with fail
      go_loopw [6, 9] (fun s d wr => ∃ (m : Nat) (A : List UInt8), d = .int .i64 m ∧ Hid (A ++ smB m = A0 ++ smB n) ∧ Hid (m ≤ 4503599627370496) ∧ Byt wr w.heap.size s A ∧ Below w.heap.size w wr) (fun _ d _ => (intOf d).toNat)
      case atStart => exact ⟨n, A0, congrArg _ HXY.out, Lib.hid rfl, HNB, HY.out, HB.out⟩
      case round =>
        obtain ⟨m, A, rfl, HA, HM, hby, hbel⟩ := hrel
        have HY2 := Lib.hid hby
        have HB2' := Lib.hid hbel
        clear hby hbel
        obtain ⟨wp, rfl⟩ : ∃ wp : World, wp = wr := ⟨_, rfl⟩
        have hsz : A.length + 1 ≤ 140737488355328 := by
          have h1 := congrArg List.length HA.out
          have h2 := smB_length m
          have h3 := smB_bound 8 n (by have := HNB.out; have : (128 : Nat) ^ 8 = 72057594037927936 := by decide
                                       omega) (by decide)
          have h4 := HLEN.out
          have h5 := HN.out
          rw [List.length_append, List.length_append] at h1
          omega
        by_cases hlt2 : 128 ≤ m
        · have hA2 : Hid ((A ++ [UInt8.ofNat (128 + m % 128)]) ++ smB (m / 128) = A0 ++ smB n) := Lib.hid (by rw [← HA.out, smB_great (n := m) (by omega)]; simp)
          obtain ⟨v2, w2, hr, hby2, hb2⟩ := append_byte (UInt8.ofNat (128 + m % 128)) HY2.out hsz HB2'.out.size
          have HY3 := Lib.hid hby2
          have HB3 := Lib.hid (HB2'.out.trans hb2)
          have hlt3 : (127 : Int) < (m : Int) := by omega
          have e1 : ((UInt8.ofNat (128 + m % 128)).toNat : Int) = 128 + (m : Int) % 128 := by rw [UInt8.toNat_ofNat']; omega
          rw [e1] at hr
          have HQ : Hid (wrap64 ((m : Int) / 128) = ((m / 128 : Nat) : Int)) := Lib.hid (by rw [wrapI _ (by have := HM.out; omega)]; omega)
          have HLS : Hid ((intOf (.int .i64 ((m / 128 : Nat) : Int))).toNat < (intOf (.int .i64 (m : Int))).toNat) := Lib.hid (by simp only [intOf, Int.toNat_natCast]; omega)
          have HM2 : Hid (m / 128 ≤ 4503599627370496) := Lib.hid (by have := HM.out; omega)
          clear hby2 hb2 hsz hcell e1
          go_wp2_with (at_builtin; refine wpList_append_run rfl _ _ _ _ rfl _ _ _ _ rfl rfl hr ?_)
          go_roundw
          case rel => exact ⟨m / 128, _, congrArg _ HQ.out, hA2, HM2, HY3.out, HB3.out⟩
          case measure => rw [HQ.out]; exact HLS.out
        · have hA2 : Hid (A ++ [UInt8.ofNat m] = A0 ++ smB n) := Lib.hid (by rw [← HA.out, smB_small (n := m) (by omega)])
          obtain ⟨v2, w2, hr, hby2, hb2⟩ := append_byte (UInt8.ofNat m) HY2.out hsz HB2'.out.size
          rw [hA2.out, HAE.out, List.append_assoc, ← HE.out] at hby2
          have HY3 := Lib.hid hby2
          have HB3 := Lib.hid (HB2'.out.trans hb2)
          have hcell2 := HCK.out _ HB3.out
          have e1 : ((UInt8.ofNat m).toNat : Int) = (m : Int) := by rw [UInt8.toNat_ofNat']; omega
          rw [e1] at hr
          have hlt3 : ¬ (127 : Int) < (m : Int) := by omega
          clear hby2 hb2 hsz e1 hA2 HA hcell
          go_wp2_with (at_builtin; refine wpList_append_run rfl _ _ _ _ rfl _ _ _ _ rfl rfl hr ?_)
          go_roundw
          case rel => exact ⟨k + 1, by omega, congrArg _ (wrap_s HML.out hlt), by rw [HLT.out], HY3.out, HB3.out⟩
          case measure =>
            rw [wrap_s HML.out hlt]
            exact int_less hlt
    · obtain rfl : k = L.length := by omega
      have hby := HY.out
      rw [List.take_length] at hby
      have htx : (convert 56 9 _).run Try.prog wo = .ok (.string ⟨(encB L).toArray⟩) wo := hby.text
      obtain ⟨g, cap, hv⟩ := hby.form
      subst hv
      clear hby HY HC
      generalize (fixL 4 L.length ++ stepsB 0 L).length = nn at *
      obtain ⟨Z, hZ⟩ : ∃ Z : ByteArray, Z = ⟨(encB L).toArray⟩ := ⟨_, rfl⟩
      rw [← hZ] at htx
      have HZZ := Lib.hid hZ
      clear hZ
      go_wp2_with fail
      go_ret2
      exact ⟨by rw [← HZZ.out]; rfl, HB.out⟩
end Go.Proofs.Ytbfaoelgbfhjdaa
