/- The document's own numbers in bytes, for layers above it. Conditions: those that each theorem names. -/
import Derived.Test.YtgpedeagaghpfaaGreatDoorFx
import Derived.OwnWalk
namespace Go.Proofs.YtgpedeagaghpfaaGreatDoor
open Go.RowKit
theorem unfL_le7 (l : List UInt8) (h : l.length ≤ 7) : unfL l ≤ 72057594037927935 := by
  have h1 := unfL_lt l
  have h2 : 256 ^ l.length ≤ 256 ^ 7 := Nat.pow_le_pow_right (by decide) h
  have h3 : (256 : Nat) ^ 7 = 72057594037927936 := by decide
  omega
theorem fixL_snoc : ∀ k n, fixL (k + 1) n = fixL k n ++ [UInt8.ofNat (n / 256 ^ k % 256)]
  | 0, n => by simp [fixL]
  | k + 1, n => by
    rw [show fixL (k + 1 + 1) n = UInt8.ofNat (n % 256) :: fixL (k + 1) (n / 256) from rfl, fixL_snoc k (n / 256), Nat.div_div_eq_div_mul, Nat.pow_succ, Nat.mul_comm 256]
    rfl
theorem Tryz.infoU8 : (Tryz.prog.info? 5).map (fun i => (i.zero, i.size, i.bytes)) = some (some (.int .u8 0), 1, 1) := by kernel_rfl
end Go.Proofs.YtgpedeagaghpfaaGreatDoor
