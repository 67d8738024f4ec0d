/- The document's Digits (its chapter on json). Conditions: those that each theorem names. -/
import Derived.Test.YtkbdokakoapooaaGreatDoorMfM
import Derived.Lib.ConvBytes
namespace Go.Proofs.YtkbdokakoapooaaGreatDoor
set_option linter.unusedVariables false
open Go Go.RowKit Go.Shelf Go.Sort
namespace Mf
/-- A row of one byte, as a text. -/
theorem one_text (w : World) (z : Int) (c : UInt8) (hz : (c.toNat : Int) = z) :
    (convert 88 9 (.slice (some ⟨w.heap.size, 0, none⟩) 1 1)).run Tryz.prog (w.alloc (.cells #[.int .u8 z] 5)) = .ok (.string (tx [c])) (w.alloc (.cells #[.int .u8 z] 5)) := by
  subst hz
  have b := heap_alloc_new w (.cells #[.int .u8 c.toNat] 5)
  exact run_convert_bytes_back (P := Tryz.prog) _ 88 9 5 ⟨w.heap.size, 0, none⟩ 1 [c] Tryz.underlying88 Tryz.underlying5 Tryz.underlying9 (fun i hi => by
    have hi0 : i = 0 := by simpa using hi
    subst hi0
    rw [addr_at]
    unfold World.cell?
    rw [b]
    rfl)
theorem dec_last (v : Nat) (h : 9 < v) : Lib.decDigits v = Lib.decDigits (v / 10) ++ [UInt8.ofNat (48 + v % 10)] := by
  conv => lhs; rw [Lib.decDigits, dif_neg (by omega)]
set_option maxHeartbeats 1000000 in
set_option maxRecDepth 100000 in
theorem rdigits_any (n : Nat) (hn : n ≤ 9223372036854775807) (w : World) :
    Calls Tryz.prog 81 #[.int .i64 n] w fun e w' => e = .returned (.string (tx (Lib.decDigits n))) ∧ Below w.heap.size w w' := by
  have h0 : ¬ (n : Int) < 0 := by omega
  have hw0 : IntKind.u64.wrap (n : Int) = (n : Int) := by rw [IntKind.wrap_u64]; omega
  obtain ⟨c, hcc⟩ : ∃ c, c = UInt8.ofNat (48 + n % 10) := ⟨_, rfl⟩
  have hc : (c.toNat : Int) = 48 + (n : Int) % 10 := by rw [hcc, ofNat8 _ (by omega)]; omega
  have HONE := Lib.hid (fun (W : World) => one_text W (48 + (n : Int) % 10) c hc)
  have hone := HONE.out w
  have HST : Hid ((n / 10 = 0 ∧ [c] = Lib.decDigits n) ∨ (0 < n / 10 ∧ Lib.decDigits (n / 10) ++ [c] = Lib.decDigits n)) := Lib.hid (by
    rcases Nat.lt_or_ge 9 n with h | h
    · exact .inr ⟨by omega, by rw [dec_last n h, hcc]⟩
    · refine .inl ⟨by omega, ?_⟩
      rw [Lib.decDigits, dif_pos (by omega), hcc, Nat.mod_eq_of_lt (by omega)])
  have HD20 : Hid ((Lib.decDigits n).length ≤ 20) := Lib.hid (dec_len 19 n (by omega))
  clear hc hcc
  go_enter Tryz.func81, Tryz.ntmps81
  go_wp2_with fail
  have HB0 := Lib.hid (below_new w (.cells #[.int .u8 (48 + (n : Int) % 10)] 5))
  go_loopw [3, 5] (fun u q wr => ∃ (v : Nat) (l : Bs), u = .int .u64 v ∧ q = .string (tx l) ∧ Hid (v ≤ 9223372036854775807) ∧ Hid ((v = 0 ∧ l = Lib.decDigits n) ∨ (0 < v ∧ Lib.decDigits v ++ l = Lib.decDigits n)) ∧ Below w.heap.size w wr) (fun u _ _ => (intOf u).toNat)
  case atStart => exact ⟨n / 10, [c], by first | rfl | (refine congrArg _ ?_; omega), rfl, Lib.hid (by omega), HST, HB0.out⟩
  case round =>
    obtain ⟨v, l, rfl, rfl, HV, HI, hb⟩ := hrel
    have HB := Lib.hid hb
    clear hb hone HONE hn hw0 h0
    obtain ⟨wo, rfl⟩ : ∃ wo : World, wo = wr := ⟨_, rfl⟩
    by_cases hv : 0 < v
    · have HI2 : Hid (Lib.decDigits v ++ l = Lib.decDigits n) := Lib.hid (by
        rcases HI.out with ⟨h, _⟩ | ⟨_, h⟩
        · omega
        · exact h)
      have hvi : (0 : Int) < (v : Int) := by omega
      have hvm : v ≤ 9223372036854775807 := HV.out
      obtain ⟨d, hd⟩ : ∃ d, d = UInt8.ofNat (48 + v % 10) := ⟨_, rfl⟩
      have hdz : (d.toNat : Int) = 48 + (v : Int) % 10 := by rw [hd, ofNat8 _ (by omega)]; omega
      have hone := one_text wo (48 + (v : Int) % 10) d hdz
      have HNX : Hid ((v / 10 = 0 ∧ d :: l = Lib.decDigits n) ∨ (0 < v / 10 ∧ Lib.decDigits (v / 10) ++ (d :: l) = Lib.decDigits n)) := Lib.hid (by
        rw [← HI2.out]
        rcases Nat.lt_or_ge 9 v with h | h
        · exact .inr ⟨by omega, by rw [dec_last v h, hd]; simp⟩
        · refine .inl ⟨by omega, ?_⟩
          conv => rhs; rw [Lib.decDigits, dif_pos (by omega)]
          rw [hd, Nat.mod_eq_of_lt (by omega)]; rfl)
      have hl20 : l.length ≤ 20 := by
        have := congrArg List.length HI2.out
        rw [List.length_append] at this
        have := HD20.out; omega
      have hs1 : (tx [d]).size = 1 := tx_size _
      have hs2 : (tx l).size ≤ 20 := by rw [tx_size]; exact hl20
      have hadd : (tx [d]).size + (tx l).size ≤ 9223372036854775807 := by omega
      have HE : Hid (tx [d] ++ tx l = tx (d :: l)) := Lib.hid (by apply by_ext; rw [app_list, tx_list, tx_list, tx_list]; rfl)
      have HBN : Hid (Below w.heap.size w (wo.alloc (.cells #[.int .u8 (48 + (v : Int) % 10)] 5))) := Lib.hid (below_then HB.out (below_new _ _))
      clear hl20 hd hdz HI hs1 hs2
      go_wp2_with fail
      rw [HE.out]
      go_roundw
      case rel => exact ⟨v / 10, d :: l, by first | rfl | (refine congrArg _ ?_; omega), rfl, Lib.hid (by omega), HNX, HBN.out⟩
      case measure =>
        simp only [intOf]; omega
    · have HI2 : Hid (l = Lib.decDigits n) := Lib.hid (by
        rcases HI.out with ⟨_, h⟩ | ⟨h, _⟩
        · exact h
        · omega)
      have hv0 : ¬ (0 : Int) < (v : Int) := by omega
      have hs0 : (⟨#[]⟩ : ByteArray).size = 0 := rfl
      have hl20 : (tx l).size ≤ 20 := by rw [tx_size, HI2.out]; exact HD20.out
      have hadd : (⟨#[]⟩ : ByteArray).size + (tx l).size ≤ 9223372036854775807 := by omega
      have HE : Hid (⟨#[]⟩ ++ tx l = tx (Lib.decDigits n)) := Lib.hid (by apply by_ext; rw [app_list, tx_list, tx_list, HI2.out]; rfl)
      clear hl20 HI
      go_wp2_with fail
      go_ret
      first | exact ⟨congrArg (fun x => Ending.returned (Value.string x)) HE.out, HB.out⟩ | exact ⟨congrArg (fun x => Ending.returned (Value.string (tx x))) HI2.out, HB.out⟩
end Mf
end Go.Proofs.YtkbdokakoapooaaGreatDoor
