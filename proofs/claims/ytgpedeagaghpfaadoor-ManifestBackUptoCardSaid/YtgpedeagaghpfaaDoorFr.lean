/- The document's own numbers in bytes, for layers above it. Conditions: those that each theorem names. -/
import Derived.Test.YtgpedeagaghpfaaDoorFx
import Derived.OwnWalk
namespace Go.Proofs.YtgpedeagaghpfaaDoor
open Go.RowKit
theorem unfL_le7 (l : List UInt8) (h : l.length ≤ 7) : unfL l ≤ 72057594037927935 := by
  have h1 := unfL_lt l
  have h2 : 256 ^ l.length ≤ 256 ^ 7 := Nat.pow_le_pow_right (by decide) h
  have h3 : (256 : Nat) ^ 7 = 72057594037927936 := by decide
  omega
theorem fixL_snoc : ∀ k n, fixL (k + 1) n = fixL k n ++ [UInt8.ofNat (n / 256 ^ k % 256)]
  | 0, n => by simp [fixL]
  | k + 1, n => by
    rw [show fixL (k + 1 + 1) n = UInt8.ofNat (n % 256) :: fixL (k + 1) (n / 256) from rfl, fixL_snoc k (n / 256), Nat.div_div_eq_div_mul, Nat.pow_succ, Nat.mul_comm 256]
    rfl
theorem Tryd.infoU8 : (Tryd.prog.info? 5).map (fun i => (i.zero, i.size, i.bytes)) = some (some (.int .u8 0), 1, 1) := by kernel_rfl
def u8s (l : List UInt8) : List Value := l.map fun c => Value.int .u8 (c.toNat : Int)
theorem conv_own {w : World} {B : Nat} {v : Value} {l : List UInt8} (h : w.ownsRow B 5 1 v l.length (u8s l)) (hl : 1 ≤ l.length) :
    ∃ g cap, v = .slice (some ⟨g, 0, none⟩) l.length cap ∧ B ≤ g ∧ (convert 33 9 (.slice (some ⟨g, 0, none⟩) l.length cap)).run Tryd.prog w = .ok (.string ⟨l.toArray⟩) w := by
  obtain ⟨_, h | ⟨g, cap, cur, rfl, hg, hrow, hn, _, hsz, htk⟩⟩ := h
  · omega
  · refine ⟨g, cap, rfl, hg, run_convert_bytes_back (P := Tryd.prog) w _ _ 5 _ _ l Tryd.underlying33 Tryd.underlying5 Tryd.underlying9 fun j hj => ?_⟩
    have ha : (⟨g, 0, none⟩ : Addr).add j = ⟨g, j, none⟩ := by unfold Addr.add; split <;> simp_all
    rw [ha, cell_of_row _ _ _ _ _ _ hrow]
    have h1 : (cur.toList.take (l.length * 1))[j]? = (u8s l)[j]? := by rw [htk]
    rw [List.getElem?_take_of_lt (by omega)] at h1
    simp [u8s, hj] at h1
    exact h1
end Go.Proofs.YtgpedeagaghpfaaDoor
