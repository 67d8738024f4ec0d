/- The program's appendSmall and Encode. Conditions: those that each theorem names. -/
import Derived.Test.YtbfaoelgbfhjdaaIdL
import Derived.Test.YtbfaoelgbfhjdaaByt
namespace Go.Proofs.Ytbfaoelgbfhjdaa
set_option linter.unusedVariables false
open Go Go.RowKit Ids
theorem u8_low (n : Nat) (h : 128 ≤ n) : bits .or .u8 ((n : Int) % 256) 128 = ((UInt8.ofNat (128 + n % 128)).toNat : Int) := by
  have h1 : (n : Int) % 256 = ((n % 256 : Nat) : Int) := by omega
  have h2 := u8_or_nat (n % 256) 128 (by omega) (by omega)
  have h3 : ∀ x, x < 256 → x ||| 128 = 128 + x % 128 := by decide +kernel
  rw [h1]
  refine h2.trans ?_
  rw [h3 _ (by omega), UInt8.toNat_ofNat']
  omega
set_option maxHeartbeats 1000000 in
set_option maxRecDepth 100000 in
theorem small_any (n : Nat) (L : List UInt8) (v : Value) (base : Nat) (w : World) (h : Byt w base v L) (hn : n ≤ 4503599627370496) (hl : L.length + 8 ≤ 140737488355328) (hb : base ≤ w.heap.size) :
    Calls Try.prog 40 #[v, .int .i64 n] w fun e w' => ∃ u, e = .returned u ∧ Byt w' base u (L ++ smB n) ∧ Below base w w' := by
  have HL := Lib.hid hl
  have HN := Lib.hid hn
  have H0 := Lib.hid h
  have HB0 := Lib.hid hb
  clear h hl hn hb
  go_enter Try.func40, Try.ntmps40
  go_wp2
  go_loopw [0, 1] (fun s i wr => ∃ (m : Nat) (A : List UInt8), i = .int .i64 m ∧ Hid (A ++ smB m = L ++ smB n) ∧ Hid (m ≤ 4503599627370496) ∧ Byt wr base s A ∧ Below base w wr) (fun _ i _ => (intOf i).toNat)
  case atStart => exact ⟨n, L, rfl, Lib.hid rfl, HN, H0.out, Below.refl _ _⟩
  case round =>
    obtain ⟨m, A, rfl, HA, HM, hby, hbel⟩ := hrel
    have HY := Lib.hid hby
    have HB := Lib.hid hbel
    clear hby hbel
    obtain ⟨wo, rfl⟩ : ∃ wo : World, wo = wr := ⟨_, rfl⟩
    have hsz : A.length + 1 ≤ 140737488355328 := by
      have h1 := congrArg List.length HA.out
      have h2 := smB_length m
      have h3 := smB_bound 8 n (by have := HN.out; have : (128 : Nat) ^ 8 = 72057594037927936 := by decide
                                   omega) (by decide)
      have h4 := HL.out
      rw [List.length_append, List.length_append] at h1
      omega
    by_cases hlt : 128 ≤ m
    · have hA2 : Hid ((A ++ [UInt8.ofNat (128 + m % 128)]) ++ smB (m / 128) = L ++ smB n) := Lib.hid (by rw [← HA.out, smB_great (n := m) (by omega)]; simp)
      obtain ⟨v2, w2, hr, hby2, hb2⟩ := append_byte (UInt8.ofNat (128 + m % 128)) HY.out hsz (Nat.le_trans HB0.out HB.out.size)
      have HY2 := Lib.hid hby2
      have HB2 := Lib.hid (HB.out.trans hb2)
      have e1 := u8_low m hlt
      rw [← e1] at hr
      have hlt' : (128 : Int) ≤ (m : Int) := by omega
      clear hby2 hb2 hsz e1
      go_wp2_with (at_builtin; refine wpList_append_run rfl _ _ _ _ rfl _ _ _ _ rfl rfl hr ?_)
      go_roundw
      case rel => exact ⟨m / 128, _, congrArg _ (by omega), hA2, Lib.hid (by have := HM.out; omega), HY2.out, HB2.out⟩
      case measure => simp [intOf]; omega
    · have hA2 : Hid (A ++ [UInt8.ofNat m] = L ++ smB n) := Lib.hid (by rw [← HA.out, smB_small (n := m) (by omega)])
      obtain ⟨v2, w2, hr, hby2, hb2⟩ := append_byte (UInt8.ofNat m) HY.out hsz (Nat.le_trans HB0.out HB.out.size)
      rw [hA2.out] at hby2
      have HY2 := Lib.hid hby2
      have HB2 := Lib.hid (HB.out.trans hb2)
      have e1 : ((UInt8.ofNat m).toNat : Int) = (m : Int) := by rw [UInt8.toNat_ofNat']; omega
      rw [e1] at hr
      have hlt' : ¬ (128 : Int) ≤ (m : Int) := by omega
      clear hby2 hb2 hsz e1 hA2 HA
      go_wp2_with (at_builtin; refine wpList_append_run rfl _ _ _ _ rfl _ _ _ _ rfl rfl hr ?_)
      go_ret
      exact ⟨_, rfl, HY2.out, HB2.out⟩
theorem bytes_below (w : World) (s : ByteArray) : Below w.heap.size w (Lib.bytesWorld w 5 s) :=
  ⟨by simp [Lib.bytesWorld, World.freeze, World.alloc, World.drew, -World.alloc_eq, -World.drew_eq], by simp [Lib.bytesWorld, World.freeze, World.alloc, World.drew, -World.alloc_eq, -World.drew_eq],
    by simp [Lib.bytesWorld, World.freeze, World.alloc, World.drew, -World.alloc_eq, -World.drew_eq], by rw [Lib.bytesWorld_size]; omega, fun k hk => Lib.bytesWorld_at_old w _ s k hk⟩
namespace Ids
theorem lastL_is (l : List Int) : (0 :: l).getLast (by simp) = lastL l := by
  unfold lastL
  cases l with
  | nil => rfl
  | cons x l => rw [List.getLast_cons (by simp), List.getLast?_eq_some_getLast (by simp)]; rfl
theorem encB_next {L : List Int} {k : Nat} {x : Int} (h : L[k]? = some x) : stepsB 0 (L.take (k + 1)) = stepsB 0 (L.take k) ++ smB (x - lastL (L.take k)).toNat := by
  rw [take_snoc h, stepsB_snoc, lastL_is]
theorem okB_step {L : List Int} {k : Nat} {x : Int} (hL : okB L) (h : L[k]? = some x) : lastL (L.take k) < x ∧ x ≤ 4503599627370496 ∧ 0 ≤ lastL (L.take k) := by
  have h1 := okB_take (k + 1) hL
  rw [take_snoc h] at h1
  obtain ⟨h2, h3, h4⟩ := okB_snoc.mp h1
  refine ⟨h3, h4, ?_⟩
  by_cases he : L.take k = []
  · rw [he]; decide
  · have := (h2.2 _ (lastL_mem he)).1; omega
theorem stepsB_len {L : List Int} (hL : okB L) (k : Nat) : (fixL 4 L.length ++ stepsB 0 (L.take k)).length ≤ 4 + 8 * L.length := by
  have h1 := encB_length (okB_take k hL)
  unfold encB at h1
  rw [List.length_append, fixL_length, List.length_take] at h1
  rw [List.length_append, fixL_length]
  omega
end Ids
theorem B_size (l : List UInt8) : (⟨l.toArray⟩ : ByteArray).size = l.length := by show l.toArray.size = l.length; simp
set_option maxHeartbeats 2000000 in
set_option maxRecDepth 100000 in
theorem encode_no (L : List Int) (v : Value) (w : World) (h : IntsAt w v L) (hl : L.length ≤ 1048576) (hL : ¬ okB L) :
    Calls Try.prog 26 #[v] w fun e w' => e = .returned (.tuple #[.string ⟨#[]⟩, .int .i64 80]) ∧ Below w.heap.size w w' := by
  have C := Lib.hid (check_any L v w h (by unfold maxLen; omega))
  rw [chkE_no hL] at C
  clear h hl hL
  go_enter Try.func26, Try.ntmps26
  go_wp2_with (go_at_call 12; refine C.out.mono ?_; rintro e w2 ⟨rfl, rfl⟩)
  go_ret2
  exact ⟨rfl, Below.refl _ _⟩
set_option maxHeartbeats 4000000 in
set_option maxRecDepth 100000 in
theorem encode_yes (L : List Int) (v : Value) (w : World) (h : IntsAt w v L) (hl : L.length ≤ 1048576) (hL : okB L) :
    Calls Try.prog 26 #[v] w fun e w' => e = .returned (.tuple #[.string ⟨(encB L).toArray⟩, .int .i64 0]) ∧ Below w.heap.size w w' := by
  have C := Lib.hid (check_any L v w h (by unfold maxLen; omega))
  rw [chkE_yes hL] at C
  have CF := Lib.hid (fix_fits L.length 4 w (by decide) (by decide) (by omega))
  have hwr : IntKind.u64.wrap (L.length : Int) = (L.length : Int) := IntWalk.u64_in _ (by omega)
  have HL := Lib.hid hL
  have HML : Hid (L.length ≤ maxLen) := Lib.hid (by unfold maxLen; omega)
  have HN := Lib.hid hl
  obtain ⟨p, c, rfl⟩ := h.form
  have HC := Lib.hid (row_cells h)
  have HZ : Hid ((⟨(fixL 4 L.length).toArray⟩ : ByteArray).size = 4) := Lib.hid (by rw [B_size, fixL_length])
  obtain ⟨S, hS⟩ : ∃ S : ByteArray, S = ⟨(fixL 4 L.length).toArray⟩ := ⟨_, rfl⟩
  rw [← hS] at HZ CF
  have HSL : Hid (S.data.toList = fixL 4 L.length) := Lib.hid (by rw [hS])
  have hrun := fun wx => Lib.run_convert_string_bytes (P := Try.prog) wx 9 56 5 S Try.underlying9 Try.underlying56 Try.underlying5
  have HBY := Lib.hid fun wx => Byt.conv wx S (by have := HZ.out; omega)
  have HBW := Lib.hid fun wx => bytes_below wx S
  clear h hl hL hS
  go_enter Try.func26, Try.ntmps26
  go_wp2_with (first
    | (go_at_call 12; refine C.out.mono ?_; clear C; rintro e w2 ⟨rfl, rfl⟩)
    | (go_at_call 39; refine CF.out.mono ?_; clear CF; rintro e w1 ⟨rfl, hb1⟩; have HB1 := Lib.hid hb1; clear hb1; have hrun1 := hrun w1; have HBY1 := Lib.hid (HBY.out w1); have HBW1 := Lib.hid (HBW.out w1); clear hrun HBY HBW))
  have HW : Hid (Below w2.heap.size w2 (Lib.bytesWorld w1 5 S)) := Lib.hid (HB1.out.trans (HBW1.out.mono HB1.out.size))
  have HS0 : Hid (Byt (Lib.bytesWorld w1 5 S) w2.heap.size (.slice (some ⟨w1.heap.size, 0, none⟩) S.size (grownCap w1 S.size 0 5)) (fixL 4 L.length ++ stepsB 0 (L.take 0))) := Lib.hid (by
    have h := HBY1.out
    rw [HSL.out] at h
    obtain ⟨g, cap, e, ⟨k1, k2⟩, k3⟩ := h
    simp only [List.take_zero, stepsB, List.append_nil]
    exact ⟨g, cap, e, ⟨Nat.le_trans HB1.out.size k1, k2⟩, k3⟩)
  clear hrun1 HBY1 HBW1
  generalize Lib.bytesWorld w1 5 S = W0 at *
  generalize Value.slice (some ⟨w1.heap.size, 0, none⟩) S.size (grownCap w1 S.size 0 5) = V0 at *
  go_loopw [7, 8, 29] (fun s y i wr => ∃ k : Nat, k ≤ L.length ∧ i = .int .i64 k ∧ y = .int .i64 (lastL (L.take k)) ∧ Byt wr w2.heap.size s (fixL 4 L.length ++ stepsB 0 (L.take k)) ∧ Below w2.heap.size w2 wr) (fun _ _ i _ => L.length - (intOf i).toNat)
  case atStart => exact ⟨0, Nat.zero_le _, rfl, rfl, HS0.out, HW.out⟩
  case round =>
    obtain ⟨k, hk, rfl, rfl, hby, hbel⟩ := hrel
    have HY := Lib.hid hby
    have HB := Lib.hid hbel
    clear hby hbel
    obtain ⟨wo, rfl⟩ : ∃ wo : World, wo = wr := ⟨_, rfl⟩
    by_cases hlt : k < L.length
    · obtain ⟨b, off, rfl, hc⟩ := HC.out k hlt
      have hcell := hc wo HB.out
      have hlt' : (k : Int) < (L.length : Int) := by omega
      have hx : L[k]? = some L[k] := List.getElem?_eq_getElem hlt
      generalize L[k] = x at hcell hx
      have HE := Lib.hid (encB_next hx)
      have HLT := Lib.hid (lastL_take hx)
      obtain ⟨q1, q2, q3⟩ := okB_step HL.out hx
      have HLEN := Lib.hid (stepsB_len HL.out k)
      generalize lastL (L.take k) = y at *
      obtain ⟨n, hn⟩ : ∃ n, n = (x - y).toNat := ⟨_, rfl⟩
      rw [← hn] at HE
      have hxy : wrap64 (x - y) = (n : Int) := by rw [wrapI _ (by omega)]; omega
      have CS := Lib.hid (small_any n _ _ w2.heap.size wo HY.out (by omega) (by have := HLEN.out; have := HN.out; omega) HB.out.size)
      clear hc hx hn q1 q2 q3 HY
      go_wp2_with (go_at_call 40; refine CS.out.mono ?_; rintro e w4 ⟨u, rfl, hb4, hbe4⟩)
      rw [List.append_assoc, ← HE.out] at hb4
      go_roundw
      case rel => exact ⟨k + 1, by omega, congrArg _ (wrap_s HML.out hlt), by rw [HLT.out], hb4, HB.out.trans hbe4⟩
      case measure =>
        rw [wrap_s HML.out hlt]
        exact int_less hlt
    · obtain rfl : k = L.length := by omega
      have hby := HY.out
      rw [List.take_length] at hby
      have htx : (convert 56 9 _).run Try.prog wo = .ok (.string ⟨(encB L).toArray⟩) wo := hby.text
      obtain ⟨g, cap, hv⟩ := hby.form
      subst hv
      clear hby HY HC
      generalize (fixL 4 L.length ++ stepsB 0 L).length = nn at *
      obtain ⟨Z, hZ⟩ : ∃ Z : ByteArray, Z = ⟨(encB L).toArray⟩ := ⟨_, rfl⟩
      rw [← hZ] at htx
      have HZZ := Lib.hid hZ
      clear hZ
      go_wp2_with fail
      go_ret2
      exact ⟨by rw [← HZZ.out]; rfl, HB.out⟩
end Go.Proofs.Ytbfaoelgbfhjdaa
