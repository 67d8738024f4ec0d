/- The document's own numbers in bytes, for layers above it. Conditions: those that each theorem names. -/
import Derived.Test.YtkbdokakoapooaaGreatDoorFx
import Derived.OwnWalk
namespace Go.Proofs.YtkbdokakoapooaaGreatDoor
open Go.RowKit
set_option maxHeartbeats 400000 in
theorem unfixRef_wrong (s : ByteArray) (w : World) (h : s.size < 1 ∨ 8 < s.size) (hs : s.size ≤ maxLen) :
    Calls Tryz.prog 128 #[.string s] w fun e w' => e = .returned (.tuple #[.int .u64 0, .int .i64 11]) ∧ w = w' := by
  unfold maxLen at hs
  go_enter Tryz.func128, Tryz.ntmps128
  go_wp2
  all_goals go_ret2
  all_goals exact ⟨rfl, rfl⟩
theorem unfL_le7 (l : List UInt8) (h : l.length ≤ 7) : unfL l ≤ 72057594037927935 := by
  have h1 := unfL_lt l
  have h2 : 256 ^ l.length ≤ 256 ^ 7 := Nat.pow_le_pow_right (by decide) h
  have h3 : (256 : Nat) ^ 7 = 72057594037927936 := by decide
  omega
set_option maxHeartbeats 400000 in
theorem unfixRef_any (s : ByteArray) (w : World) (h : 1 ≤ s.size) (h' : s.size ≤ 8) :
    Calls Tryz.prog 128 #[.string s] w fun e w' => e = .returned (.tuple #[.int .u64 (unfL s.data.toList), .int .i64 0]) ∧ w = w' := by
  go_enter Tryz.func128, Tryz.ntmps128
  go_wp2
  go_loop [4, 5] (fun c i => ∃ j : Nat, j ≤ s.size ∧ i = .int .i64 ((j : Int) - 1) ∧ c = .int .u64 (unfL (s.data.toList.drop j))) (fun _ i => (intOf i + 1).toNat)
  case atStart => exact ⟨s.size, Nat.le_refl _, rfl, by rw [List.drop_of_length_le (by simp)]; rfl⟩
  case round =>
    obtain ⟨j, hj, rfl, rfl⟩ := hrel
    match j, hj with
    | 0, hj =>
      go_wp2
      go_ret2
      exact ⟨rfl, rfl⟩
    | k + 1, hj =>
      have ek : ((k + 1 : Nat) : Int) - 1 = (k : Int) := by omega
      rw [ek]
      have hlt : k < s.size := hj
      have hb : IntKind.u64.wrap ((s[k]'hlt).toNat : Int) = (byN s k : Int) := by rw [byN_get s k hlt]; have := byN_lt s k; exact IntWalk.u64_in _ (by omega)
      have hb2 := byN_lt s k
      have hu := unfL_le7 (s.data.toList.drop (k + 1)) (by simp; omega)
      have hd : unfL (s.data.toList.drop k) = byN s k + 256 * unfL (s.data.toList.drop (k + 1)) := by
        have e : s.data.toList.drop k = s[k] :: s.data.toList.drop (k + 1) := by
          rw [List.drop_eq_getElem_cons (by simpa using hlt)]; rfl
        have e2 : (s[k]'hlt).toNat = byN s k := by unfold byN; rw [dif_pos hlt]
        rw [e]; simp only [unfL, e2]
      have HD := Lib.hid hd
      clear hd ek
      go_wp2
      go_round
      case rel => exact ⟨k, by omega, by first | rfl | go_num, by rw [HD.out]; congr 1; omega⟩
      case measure => simp [intOf]
theorem fixL_snoc : ∀ k n, fixL (k + 1) n = fixL k n ++ [UInt8.ofNat (n / 256 ^ k % 256)]
  | 0, n => by simp [fixL]
  | k + 1, n => by
    rw [show fixL (k + 1 + 1) n = UInt8.ofNat (n % 256) :: fixL (k + 1) (n / 256) from rfl, fixL_snoc k (n / 256), Nat.div_div_eq_div_mul, Nat.pow_succ, Nat.mul_comm 256]
    rfl
theorem Tryz.infoU8 : (Tryz.prog.info? 5).map (fun i => (i.zero, i.size, i.bytes)) = some (some (.int .u8 0), 1, 1) := by kernel_rfl
set_option maxHeartbeats 400000 in
theorem fixRef_wrong (N : Nat) (k : Int) (w : World) (h : k < 1 ∨ 8 < k) :
    Calls Tryz.prog 146 #[.int .u64 (N : Int), .int .i64 k] w fun e w' => e = .returned (.tuple #[.string ⟨#[]⟩, .int .i64 11]) ∧ Below w.heap.size w w' := by
  go_enter Tryz.func146, Tryz.ntmps146
  go_wp2
  all_goals go_ret2
  all_goals exact ⟨rfl, Below.refl _ _⟩
end Go.Proofs.YtkbdokakoapooaaGreatDoor
