/- The law's 'do' on both disks: a look, a crash, a plan. Conditions: those that each theorem names. -/
import Derived.Test.YtblhbkhehddccaaRfDo
import Derived.Test.YtblhbkhehddccaaRfBoC
import Derived.Test.YtblhbkhehddccaaRfLat
namespace Go.Proofs.Ytblhbkhehddccaa
set_option linter.unusedVariables false
open Go.RowKit Dk
section
variable {w0 : World} {A B : Nat} {D : DSt} {M : RSt} {k : Nat} {φ : Nat → Nat}
variable {w : World}
set_option maxHeartbeats 2000000 in
set_option maxRecDepth 100000 in
theorem do_read (h0 : Two w0 A B Y0 D M w) (b : DBd k D) (m : MBd k M) (tw : Dk.Twin φ D M) (hk : k ≤ 1048577) (kd : Int) (s t : ByteArray) (z : Int) (p : Option Addr) (n c : Nat) (cn : Int) (q : Option Addr) (n2 c2 : Nat) (k0 : (kd == 0) = false) (k1 : (kd == 1) = false) (k2 : (kd == 2) = false) (k3 : (kd == 3) = false) (k4 : (kd == 4) = false) (k5 : (kd == 5) = false) (k6 : (kd == 6) = false) (k7 : (kd == 7) = false) (hs : s.size ≤ 1048576) (ht : t.size ≤ 1048576) :
    Calls Try.prog 5 #[.pointer (some ⟨A, 0, none⟩), .pointer (some ⟨B, 0, none⟩), .agg #[.int .i64 kd, .string s, .string t, .int .i64 z, .slice p n c, .int .i64 cn, .slice q n2 c2]] w fun e w' => e = .returned (.bool true) ∧ Two w0 A B Y0 (D) (M) w' := by
  have hsm : s.size ≤ maxLen := by unfold maxLen; omega
  have htm : t.size ≤ maxLen := by unfold maxLen; omega
  obtain ⟨W0, hW0⟩ : ∃ W0, W0 = w.alloc (Deed7 kd s t z (.slice p n c) cn (.slice q n2 c2)) := ⟨_, rfl⟩
  have hbox := heapLast w (Deed7 kd s t z (.slice p n c) cn (.slice q n2 c2))
  have hy := h0.boxed (Deed7 kd s t z (.slice p n c) cn (.slice q n2 c2))
  rw [← hW0] at hbox hy
  have HC := Lib.hid (fun (W : World) (st : Stay (YB w.heap.size) W0 W) => cellsSeven (box_cells hbox st rfl))
  have HY := Lib.hid hy
  have hnm : M.now.length ≤ maxLen := by have := (bd_ok b m tw hk).2.1; unfold maxLen; omega
  have HP := Lib.hid (fun (W : World) (t' : Two w0 A B (YB w.heap.size) D M W) => t'.pRead s hsm)
  have HR := Lib.hid (fun (W : World) (t' : Two w0 A B (YB w.heap.size) D M W) => t'.rRead tw hnm s)
  generalize readD D s = R at *
  generalize askD D s = E at *
  have mixed : Try.prog.follows .mixedOrders = true := by kernel_rfl
  clear hy hbox h0 b m tw hk hs ht hsm htm hnm
  go_enter Try.func5, Try.ntmps5
  subst hW0
  simp only [Deed7] at HC HY HP HR
  obtain ⟨⟨c0, c1, cx2, c3⟩, -, -, -⟩ := HC.out _ (Stay.refl _ _)
  go_wp2_with fail
  clear c0
  generalize w.alloc (.cells #[.int .i64 kd, .string s, .string t, .int .i64 z, .slice p n c, .int .i64 cn, .slice q n2 c2] 37) = W0 at *
  refine (HP.out _ HY.out).mono ?_
  rintro e w1 ⟨rfl, rfl⟩
  go_wp2_with fail
  refine (HR.out _ HY.out).mono ?_
  rintro e w1 ⟨rfl, rfl⟩
  go_wp2_with fail
  go_ret
  exact ⟨rfl, HY.out.unbox⟩
set_option maxHeartbeats 2000000 in
set_option maxRecDepth 100000 in
theorem do_crash (h0 : Two w0 A B Y0 D M w) (b : DBd k D) (m : MBd k M) (tw : Dk.Twin φ D M) (hk : k ≤ 1048577) (s t : ByteArray) (z : Int) (p : Option Addr) (n c : Nat) (cn : Int) (q : Option Addr) (n2 c2 : Nat) (bs : List Int) (hi : IntsAt w0 (.slice q n2 c2) bs) (hbl : bs.length ≤ maxLen) (hbr : ∀ x ∈ bs, -9223372036854775808 ≤ x ∧ x ≤ 9223372036854775807) (hbo : bs = [] ∨ ∀ g, (Value.slice q n2 c2).ownBlock = some g → g < w0.heap.size) (hs : s.size ≤ 1048576) (ht : t.size ≤ 1048576) :
    Calls Try.prog 5 #[.pointer (some ⟨A, 0, none⟩), .pointer (some ⟨B, 0, none⟩), .agg #[.int .i64 7, .string s, .string t, .int .i64 z, .slice p n c, .int .i64 cn, .slice q n2 c2]] w fun e w' => e = .returned (.bool true) ∧ Two w0 A B Y0 (D.crash (max cn 0).toNat bs) (M.crash (max cn 0).toNat bs) w' := by
  have hsm : s.size ≤ maxLen := by unfold maxLen; omega
  have htm : t.size ≤ maxLen := by unfold maxLen; omega
  obtain ⟨W0, hW0⟩ : ∃ W0, W0 = w.alloc (Deed7 7 s t z (.slice p n c) cn (.slice q n2 c2)) := ⟨_, rfl⟩
  have hbox := heapLast w (Deed7 7 s t z (.slice p n c) cn (.slice q n2 c2))
  have hy := h0.boxed (Deed7 7 s t z (.slice p n c) cn (.slice q n2 c2))
  rw [← hW0] at hbox hy
  have HC := Lib.hid (fun (W : World) (st : Stay (YB w.heap.size) W0 W) => cellsSeven (box_cells hbox st rfl))
  have HY := Lib.hid hy
  have hkk : max cn 0 = (((max cn 0).toNat : Nat) : Int) := by omega
  have HP := Lib.hid (fun (W : World) (t' : Two w0 A B (YB w.heap.size) D M W) => t'.pCrash b hk cn _ hkk _ bs (ints_below hi t'.below) hbl hbr hbo)
  have HR := Lib.hid (fun (W : World) (D' : DSt) (t' : Two w0 A B (YB w.heap.size) D' M W) => t'.rCrash b m tw hk cn _ hkk _ bs (ints_below hi t'.below) hbl)
  obtain ⟨D1, hD1⟩ : ∃ D1, D1 = (D.crash (max cn 0).toNat bs) := ⟨_, rfl⟩
  obtain ⟨M1, hM1⟩ : ∃ M1, M1 = (M.crash (max cn 0).toNat bs) := ⟨_, rfl⟩
  rw [← hD1] at HP ⊢
  rw [← hM1] at HR ⊢
  have mixed : Try.prog.follows .mixedOrders = true := by kernel_rfl
  clear hD1 hM1 hy hbox h0 b m tw hk hs ht hsm htm hi hbl hbr hbo hkk
  go_enter Try.func5, Try.ntmps5
  subst hW0
  simp only [Deed7] at HC HY HP HR
  obtain ⟨⟨c0, -, -, -⟩, -, c5, c6⟩ := HC.out _ (Stay.refl _ _)
  go_wp2_with fail
  clear c0
  generalize w.alloc (.cells #[.int .i64 7, .string s, .string t, .int .i64 z, .slice p n c, .int .i64 cn, .slice q n2 c2] 37) = W0 at *
  refine (HP.out _ HY.out).mono ?_
  rintro e w1 ⟨rfl, t1, s1⟩
  obtain ⟨-, -, c5, c6⟩ := HC.out w1 s1
  go_wp2_with fail
  refine (HR.out _ _ t1).mono ?_
  rintro e w2 ⟨rfl, t2, s2⟩
  go_wp2_with fail
  go_ret
  exact ⟨rfl, t2.unbox⟩
end
end Go.Proofs.Ytblhbkhehddccaa
