/- The document's own answers' calls Digits and Reason. Conditions: those that each theorem names. -/
import Derived.Test.YtknoikjkbnafoabGreatDoorHtSure
import Derived.Test.YtknoikjkbnafoabGreatDoorHtRf
import Derived.Lib.ConvBytes
namespace Go.Proofs.YtknoikjkbnafoabGreatDoor
set_option linter.unusedVariables false
open Go Go.RowKit Go.Shelf Ht

/-- A row of one byte, as a text. -/
theorem one_byte (w : World) (z : Int) (c : UInt8) (hz : (c.toNat : Int) = z) :
    (convert 57 9 (.slice (some ⟨w.heap.size, 0, none⟩) 1 1)).run Tryz.prog (w.alloc (.cells #[.int .u8 z] 5)) = .ok (.string (B [c])) (w.alloc (.cells #[.int .u8 z] 5)) := by
  subst hz
  have b := heap_alloc_new w (.cells #[.int .u8 c.toNat] 5)
  exact run_convert_bytes_back (P := Tryz.prog) _ 57 9 5 ⟨w.heap.size, 0, none⟩ 1 [c] Tryz.underlying57 Tryz.underlying5 Tryz.underlying9 (fun i hi => by
    have hi0 : i = 0 := by simpa using hi
    subst hi0
    have ha : (⟨w.heap.size, 0, none⟩ : Addr).add 0 = ⟨w.heap.size, 0, none⟩ := by unfold Addr.add; split <;> simp_all
    rw [ha]
    unfold World.cell?
    rw [b]
    rfl)
set_option maxHeartbeats 1000000 in
set_option maxRecDepth 100000 in
theorem digits_nat (n : Nat) (hn : n ≤ 9223372036854775807) (w : World) :
    Calls Tryz.prog 27 #[.int .i64 n] w fun e w' => e = .returned (.string (B (Lib.decDigits n))) ∧ Below w.heap.size w w' := by
  induction n using Nat.strongRecOn generalizing w with
  | _ n ih =>
    have h0 : ¬ (n : Int) < 0 := by omega
    obtain ⟨c, hcc⟩ : ∃ c, c = UInt8.ofNat (48 + n % 10) := ⟨_, rfl⟩
    have hc : (c.toNat : Int) = 48 + (n : Int) % 10 := by rw [hcc, ofNat8 _ (by omega)]; omega
    have hone := one_byte w (48 + (n : Int) % 10) c hc
    clear hc
    by_cases h9 : (9 : Int) < n
    · have HE : Hid (B (Lib.decDigits (n / 10)) ++ B [c] = B (Lib.decDigits n)) := Lib.hid (by
        conv => rhs; rw [Lib.decDigits, dif_neg (by omega)]
        rw [B_append, hcc])
      have hd : (B (Lib.decDigits (n / 10))).size ≤ 20 := by
        have := itoa_len (n / 10 : Nat) (by omega) (by omega)
        rwa [itoa_nat] at this
      have hcs : (B [c]).size = 1 := B_size _
      have HI := Lib.hid (ih (n / 10) (by omega) (by omega))
      generalize B (Lib.decDigits (n / 10)) = d at HE hd HI
      generalize B [c] = q at HE hone hcs
      clear hcc ih
      go_enter Tryz.func27, Tryz.ntmps27
      have g1 : d.size + 1 ≤ 9223372036854775807 := by omega
      clear hd
      go_wp2_with fail
      rw [show (n : Int) / 10 = ((n / 10 : Nat) : Int) by omega]
      refine (HI.out _).mono ?_
      rintro e w1 ⟨rfl, h1⟩
      have HB := Lib.hid (below_then (below_alloc _ _) h1)
      clear h1
      go_wp2_with fail
      go_ret
      rw [← HE.out]
      exact ⟨rfl, HB.out⟩
    · have HE : Hid (B [c] = B (Lib.decDigits n)) := Lib.hid (by rw [Lib.decDigits, dif_pos (by omega), hcc, Nat.mod_eq_of_lt (by omega)])
      clear hcc ih
      go_enter Tryz.func27, Tryz.ntmps27
      go_wp2_with fail
      go_ret
      rw [← HE.out]
      exact ⟨rfl, below_alloc _ _⟩
theorem dec_min : Lib.decDigits 9223372036854775808 = [57, 50, 50, 51, 51, 55, 50, 48, 51, 54, 56, 53, 52, 55, 55, 53, 56, 48, 56] := by
  iterate 18 rw [Lib.decDigits, dif_neg (by decide +kernel)]
  rw [Lib.decDigits, dif_pos (by decide +kernel)]
  decide +kernel
set_option maxHeartbeats 1000000 in
set_option maxRecDepth 100000 in
theorem digits_any (n : Int) (h0 : -9223372036854775808 ≤ n) (h1 : n ≤ 9223372036854775807) (w : World) :
    Calls Tryz.prog 27 #[.int .i64 n] w fun e w' => e = .returned (.string (B (Lib.itoa n))) ∧ Below w.heap.size w w' := by
  by_cases hn : 0 ≤ n
  · obtain ⟨m, rfl⟩ := Int.eq_ofNat_of_zero_le hn
    rw [itoa_nat]
    exact digits_nat m (by omega) w
  · by_cases hm : n = -9223372036854775808
    · have HE : Hid (B (Lib.itoa n) = ⟨#[45, 57, 50, 50, 51, 51, 55, 50, 48, 51, 54, 56, 53, 52, 55, 55, 53, 56, 48, 56]⟩) := Lib.hid (by
        subst hm
        unfold Lib.itoa
        rw [if_pos (by decide), show (-9223372036854775808 : Int).natAbs = 9223372036854775808 from rfl, dec_min]
        rfl)
      have hw : wrap64 9223372036854775808 = -9223372036854775808 := by unfold wrap64; omega
      subst hm
      go_enter Tryz.func27, Tryz.ntmps27
      go_wp2_with fail
      go_ret
      rw [HE.out]
      exact ⟨rfl, Below.refl _ _⟩
    · obtain ⟨m, rfl⟩ : ∃ m : Nat, n = -(m : Int) := ⟨n.natAbs, by omega⟩
      have hd : (B (Lib.decDigits m)).size ≤ 20 := by
        have := itoa_len (m : Nat) (by omega) (by omega)
        rwa [itoa_nat] at this
      have HE : Hid ((⟨#[45]⟩ : ByteArray) ++ B (Lib.decDigits m) = B (Lib.itoa (-(m : Int)))) := Lib.hid (by
        have : Lib.itoa (-(m : Int)) = [45] ++ Lib.decDigits m := by
          unfold Lib.itoa
          rw [if_pos (by omega), Int.natAbs_neg, Int.natAbs_natCast]
          rfl
        rw [this, ← B_append]
        rfl)
      have HI := Lib.hid (digits_nat m (by omega))
      have hneg : (-(m : Int)) < 0 := by omega
      have hne : ((-(m : Int)) == (m : Int)) = false := by rw [beq_eq_false_iff_ne]; omega
      have HM : Hid (m ≤ 9223372036854775807) := Lib.hid (by omega)
      generalize B (Lib.decDigits m) = d at HE hd HI
      clear hn hm h0 h1
      go_enter Tryz.func27, Tryz.ntmps27
      have g1 : 1 + d.size ≤ 9223372036854775807 := by omega
      have g2 : (m : Int) ≤ 9223372036854775807 := by have := HM.out; omega
      clear hd
      go_wp2_with fail
      refine (HI.out w).mono ?_
      rintro e w1 ⟨rfl, hb⟩
      have HB := Lib.hid hb
      clear hb
      go_wp2_with fail
      go_ret
      rw [← HE.out]
      exact ⟨rfl, HB.out⟩
set_option maxHeartbeats 1000000 in
set_option maxRecDepth 100000 in
theorem rreason_any (n : Int) (w : World) :
    Calls Tryz.prog 14 #[.int .i64 n] w fun e w' => e = .returned (.string (B (reason n))) ∧ w' = w := by
  by_cases h200 : n = 200
  · subst h200
    go_enter Tryz.func14, Tryz.ntmps14
    go_wp2_with fail
    go_ret
    exact ⟨rfl, rfl⟩
  by_cases h400 : n = 400
  · subst h400
    go_enter Tryz.func14, Tryz.ntmps14
    go_wp2_with fail
    go_ret
    exact ⟨rfl, rfl⟩
  by_cases h404 : n = 404
  · subst h404
    go_enter Tryz.func14, Tryz.ntmps14
    go_wp2_with fail
    go_ret
    exact ⟨rfl, rfl⟩
  by_cases h405 : n = 405
  · subst h405
    go_enter Tryz.func14, Tryz.ntmps14
    go_wp2_with fail
    go_ret
    exact ⟨rfl, rfl⟩
  by_cases h413 : n = 413
  · subst h413
    go_enter Tryz.func14, Tryz.ntmps14
    go_wp2_with fail
    go_ret
    exact ⟨rfl, rfl⟩
  by_cases h422 : n = 422
  · subst h422
    go_enter Tryz.func14, Tryz.ntmps14
    go_wp2_with fail
    go_ret
    exact ⟨rfl, rfl⟩
  by_cases h500 : n = 500
  · subst h500
    go_enter Tryz.func14, Tryz.ntmps14
    go_wp2_with fail
    go_ret
    exact ⟨rfl, rfl⟩
  by_cases h507 : n = 507
  · subst h507
    go_enter Tryz.func14, Tryz.ntmps14
    go_wp2_with fail
    go_ret
    exact ⟨rfl, rfl⟩
  have he : B (reason n) = ⟨#[]⟩ := by unfold reason; rw [if_neg h200, if_neg h400, if_neg h404, if_neg h405, if_neg h413, if_neg h422, if_neg h500, if_neg h507]; rfl
  rw [he]
  replace h200 : (n == 200) = false := by simpa using h200
  replace h400 : (n == 400) = false := by simpa using h400
  replace h404 : (n == 404) = false := by simpa using h404
  replace h405 : (n == 405) = false := by simpa using h405
  replace h413 : (n == 413) = false := by simpa using h413
  replace h422 : (n == 422) = false := by simpa using h422
  replace h500 : (n == 500) = false := by simpa using h500
  replace h507 : (n == 507) = false := by simpa using h507
  clear he
  go_enter Tryz.func14, Tryz.ntmps14
  go_wp2_with fail
  go_ret
  exact ⟨rfl, rfl⟩
end Go.Proofs.YtknoikjkbnafoabGreatDoor
