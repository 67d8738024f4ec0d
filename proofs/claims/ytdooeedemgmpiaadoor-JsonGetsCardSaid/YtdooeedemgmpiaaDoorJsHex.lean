/- Four digits to the base 16: what strconv.ParseUint makes of four bytes. Conditions: none but those that each theorem names. -/
import Derived.Test.YtdooeedemgmpiaaDoorJsGl
import Derived.Lib.Walk
import Derived.Lib.ConvBytes
import Derived.Lib.AtoiAllMem
import Derived.Laws.Strings3
import Derived.Laws.Closers25
import Derived.Laws.Closers25b
import Derived.BigCall
import Derived.BigGuard
namespace Go.Proofs.YtdooeedemgmpiaaDoor
set_option linter.unusedVariables false
open Go Go.RowKit Js

def hexGo : Nat → Bs → Option Nat
  | acc, [] => some acc
  | acc, c :: r => match hexOf c with | none => none | some d => hexGo (acc * 16 + d) r
theorem hexGo_four (a b c d : UInt8) (l : Bs) : hexGo 0 [a, b, c, d] = four (a :: b :: c :: d :: l) := by
  unfold four
  simp only [hexGo]
  cases hexOf a <;> cases hexOf b <;> cases hexOf c <;> cases hexOf d <;> simp [hexGo]
  omega
/-- What 'lower' makes of a byte. -/
def low (c : UInt8) : Int := bits .or .u8 (c.toNat : Int) 32
theorem hex_ways (c : UInt8) : (∃ d, hexOf c = some d ∧ 48 ≤ c.toNat ∧ c.toNat ≤ 57 ∧ d = c.toNat - 48) ∨
    (∃ d, hexOf c = some d ∧ ¬ (48 ≤ c.toNat ∧ c.toNat ≤ 57) ∧ 97 ≤ low c ∧ low c ≤ 102 ∧ (d : Int) = low c - 87 ∧ ¬ c.toNat = 95) ∨
    (hexOf c = none ∧ ¬ (48 ≤ c.toNat ∧ c.toNat ≤ 57) ∧ (low c < 97 ∨ 102 < low c)) := by
  have h : ∀ n, n < 256 → (match hexOf (UInt8.ofNat n) with
      | some d => (decide (48 ≤ n) && decide (n ≤ 57) && decide (d = n - 48)) || (!(decide (48 ≤ n) && decide (n ≤ 57)) && decide (97 ≤ bits .or .u8 (n : Int) 32) && decide (bits .or .u8 (n : Int) 32 ≤ 102) && decide ((d : Int) = bits .or .u8 (n : Int) 32 - 87) && decide (n ≠ 95))
      | none => !(decide (48 ≤ n) && decide (n ≤ 57)) && (decide (bits .or .u8 (n : Int) 32 < 97) || decide (102 < bits .or .u8 (n : Int) 32))) = true := by decide +kernel
  have hc := h c.toNat c.toNat_lt
  rw [show UInt8.ofNat c.toNat = c by simp] at hc
  unfold low
  cases hx : hexOf c with
  | some d =>
    rw [hx] at hc
    simp only [Bool.or_eq_true, Bool.and_eq_true, decide_eq_true_eq, Bool.not_eq_true', Bool.and_eq_false_iff, decide_eq_false_iff_not] at hc
    rcases hc with ⟨⟨h1, h2⟩, h3⟩ | ⟨⟨⟨⟨h0, h1⟩, h2⟩, h3⟩, h4⟩
    · exact .inl ⟨d, rfl, h1, h2, h3⟩
    · exact .inr (.inl ⟨d, rfl, by omega, h1, h2, h3, h4⟩)
  | none =>
    rw [hx] at hc
    simp only [Bool.or_eq_true, Bool.and_eq_true, decide_eq_true_eq, Bool.not_eq_true', Bool.and_eq_false_iff, decide_eq_false_iff_not] at hc
    exact .inr (.inr ⟨rfl, by omega, hc.2⟩)

def HexPost (o : Option Nat) (W : World) (e : Ending) (w' : World) : Prop :=
  (∀ n, o = some n → e = .returned (.tuple #[.int .u64 n, .nilIface])) ∧ (o = none → e = .returned (.tuple #[.int .u64 0, .iface 102 (.int .i64 2)])) ∧ w' = W
set_option maxHeartbeats 32000000 in
set_option maxRecDepth 100000 in
theorem parse16 (t : ByteArray) (hsz : t.size = 4) (w : World) :
    Calls Tryd.prog 77 #[.string t, .int .i64 16, .int .i64 16] w (HexPost (hexGo 0 t.data.toList) (Lib.bytesWorld w 5 t)) := by
  have hemp : t.toList.isEmpty = false := by
    rw [← decide_eq_emptyBytes]
    exact decide_eq_false (fun h => by rw [h] at hsz; simp at hsz)
  have hcv := Lib.run_convert_string_bytes (P := Tryd.prog) w 9 48 5 t (u := .string) Tryd.underlying9 Tryd.underlying48 Tryd.underlying5
  have hB : ∀ j, j < t.size → (Lib.bytesWorld w 5 t).cell? ⟨w.heap.size, j, none⟩ = some (.int .u8 (t.data.toList.getD j 0).toNat) := fun j hj => Lib.bytesWorld_cell w 5 t j hj
  obtain ⟨W1, hW1⟩ : ∃ W1, W1 = Lib.bytesWorld w 5 t := ⟨_, rfl⟩
  rw [← hW1] at hcv hB ⊢
  clear hW1
  obtain ⟨bs, hL⟩ : ∃ bs, bs = t.data.toList := ⟨_, rfl⟩
  have hLn : bs.length = t.size := by rw [hL, Lib.size_eq]
  rw [← hL] at hB ⊢
  clear hL
  have hs4 : (t.size : Int) ≤ 4 ∧ (4 : Int) ≤ t.size := by omega
  have HSZ := Lib.hid hsz
  clear hsz
  obtain ⟨hs41, hs42⟩ := hs4
  have HLN := Lib.hid hLn
  clear hLn
  go_enter Tryd.func77, Tryd.ntmps77
  go_wp2
  go_loop [12, 13, 101] (fun vu vn vi => ∃ (k acc : Nat) (a : Int), vu = .bool false ∧ vn = .int .u64 a ∧ vi = .int .i64 k ∧ k ≤ t.size ∧ Hid (a = (acc : Int) ∧ acc < 16 ^ k ∧ hexGo 0 bs = hexGo acc (bs.drop k)))
    (fun _ _ vi => t.size - (intOf vi).toNat)
  case atStart => exact ⟨0, 0, 0, rfl, rfl, rfl, by omega, rfl, by decide, rfl⟩
  case round =>
    obtain ⟨k, acc, a, rfl, rfl, rfl, hk, hh⟩ := hrel
    obtain ⟨ha, hacc, hdec⟩ := hh.out
    clear hh
    have hp : 16 ^ k ≤ 65536 := by
      have : k ≤ 4 := by have := HSZ.out; omega
      calc 16 ^ k ≤ 16 ^ 4 := Nat.pow_le_pow_right (by decide) this
        _ = 65536 := by decide
    have a0 : 0 ≤ a := by omega
    have a1 : a < 65536 := by omega
    by_cases hkn : k < t.size
    · have hLn := HLN.out
      have hc := hB k hkn
      have hdrop : bs.drop k = bs[k]'(by omega) :: bs.drop (k + 1) := List.drop_eq_getElem_cons (by omega)
      have hget : bs.getD k 0 = bs[k]'(by omega) := by simp [List.getD, List.getElem?_eq_getElem (show k < bs.length by omega)]
      rw [hdrop] at hdec
      rw [hget] at hc
      generalize bs[k]'(by omega) = c at hc hdec
      have hc256 : c.toNat < 256 := c.toNat_lt
      have hp3 : acc < 4096 := by
        have h3 : k ≤ 3 := by have := HSZ.out; omega
        have : 16 ^ k ≤ 16 ^ 3 := Nat.pow_le_pow_right (by decide) h3
        have : (16 : Nat) ^ 3 = 4096 := by decide
        omega
      clear hB hdrop hget hLn hp
      rcases hex_ways c with ⟨d, hd, hd0, hd1, hd2⟩ | ⟨d, hd, hnd, hl0, hl1, hl2, hn95⟩ | ⟨hd, hnd, hl⟩
      · have hF : hexGo acc (c :: bs.drop (k + 1)) = hexGo (acc * 16 + (c.toNat - 48)) (bs.drop (k + 1)) := by simp [hexGo, hd, hd2]
        have HN : Hid (a * 16 + ((c.toNat : Int) - 48) = ((acc * 16 + (c.toNat - 48) : Nat) : Int) ∧ acc * 16 + (c.toNat - 48) < 16 ^ (k + 1) ∧ hexGo 0 bs = hexGo (acc * 16 + (c.toNat - 48)) (bs.drop (k + 1))) := Lib.hid ⟨by omega, by rw [Nat.pow_succ]; omega, hdec.trans hF⟩
        have icut : a < 4096 := by omega
        have hd0' : (48 : Int) ≤ c.toNat := by omega
        have hd1' : (c.toNat : Int) ≤ 57 := by omega
        clear hacc hF hdec ha hd hd2 hp3
        go_wp2
        refine ⟨⟨k + 1, acc * 16 + (c.toNat - 48), a * 16 + ((c.toNat : Int) - 48), rfl, (by first | rfl | (congr 1; omega)), (by first | rfl | (congr 1; omega)), by omega, HN⟩, by simp [intOf]; omega⟩
      · have hF : hexGo acc (c :: bs.drop (k + 1)) = hexGo (acc * 16 + d) (bs.drop (k + 1)) := by simp [hexGo, hd]
        have HN : Hid (a * 16 + (d : Int) = ((acc * 16 + d : Nat) : Int) ∧ acc * 16 + d < 16 ^ (k + 1) ∧ hexGo 0 bs = hexGo (acc * 16 + d) (bs.drop (k + 1))) := Lib.hid ⟨by omega, by rw [Nat.pow_succ]; omega, hdec.trans hF⟩
        have icut : a < 4096 := by omega
        unfold low at hl0 hl1 hl2
        have HD2 := Lib.hid hl2
        clear hacc hF hdec ha hd hl2 hp3
        rcases Nat.lt_or_ge c.toNat 48 with hx | hx
        all_goals try have hx' : (57 : Int) < c.toNat := by omega
        all_goals try have hx'' : (c.toNat : Int) < 48 := by omega
        all_goals have hn95' : ((c.toNat : Int) == 95) = false := by simp; omega
        all_goals clear hn95 hnd
        all_goals go_wp2_with (go_at_call 83; refine (Tryd.internal_strconv_lower _ _).mono ?_; rintro e w' ⟨rfl, rfl⟩)
        all_goals refine ⟨⟨k + 1, acc * 16 + d, a * 16 + (d : Int), rfl, (by congr 1; have := HD2.out; omega), (by first | rfl | (congr 1; omega)), by omega, HN⟩, by simp [intOf]; omega⟩
      · have hF : hexGo acc (c :: bs.drop (k + 1)) = none := by simp [hexGo, hd]
        have HE : Hid (hexGo 0 bs = none) := Lib.hid (hdec.trans hF)
        have hv0 := bits_lo_u8 .or (c.toNat : Int) 32
        have hv1 := bits_hi_u8 .or (c.toNat : Int) 32
        have hu0 := bits_lo_u8 .or 95 32
        have hu1 := bits_hi_u8 .or 95 32
        unfold low at hl
        clear hacc hF hdec ha hd hp3
        have hz : ((c.toNat : Int) < 48 ∨ (57 : Int) < c.toNat) := by omega
        have hl' : bits .or .u8 (c.toNat : Int) 32 < 97 ∨ (102 < bits .or .u8 (c.toNat : Int) 32 ∧ bits .or .u8 (c.toNat : Int) 32 ≤ 122) ∨ 122 < bits .or .u8 (c.toNat : Int) 32 := by omega
        clear hl hnd
        rcases hz with hz | hz <;> rcases hl' with hl | ⟨hl, hl'⟩ | hl
        all_goals go_wp2_with (go_at_call 83; refine (Tryd.internal_strconv_lower _ _).mono ?_; rintro e w' ⟨rfl, rfl⟩)
        all_goals go_ret2
        all_goals refine ⟨fun n hn => ?_, fun hn => rfl, rfl⟩
        all_goals rw [HE.out] at hn; cases hn
    · -- the end
      have hkk : k = t.size := by omega
      subst hkk
      have hF : hexGo acc (bs.drop t.size) = some acc := by rw [List.drop_eq_nil_of_le (by have := HLN.out; omega)]; rfl
      rw [hF] at hdec
      have HD := Lib.hid hdec
      subst ha
      clear hacc hF hp a0 a1 hdec
      go_wp2
      go_ret2
      refine ⟨fun n hn => ?_, fun hn => ?_, rfl⟩
      · rw [HD.out] at hn; injection hn with hn; subst hn; rfl
      · rw [HD.out] at hn; cases hn
end Go.Proofs.YtdooeedemgmpiaaDoor
