/- What package num does with numbers in bytes, for layers above it. Conditions: those that each theorem names. -/
import Derived.Test.YtioidkbpjkcjeaaGreatDoorRows
import Derived.Test.YtioidkbpjkcjeaaGreatDoorNumPlain
import Derived.Test.YtioidkbpjkcjeaaGreatDoorShelf
import Derived.WalkKit
import Derived.WalkSpells
import Derived.WalkLawsBesides
import Derived.Laws.Rows
import Derived.Lib.Hide
import Derived.Lib.BitFns
import Derived.Laws.BytesString
import Derived.Laws.IdiomStrings
namespace Go.Proofs.YtioidkbpjkcjeaaGreatDoor
open Go.RowKit
theorem ret_int {k : IntKind} {a b : Int} (h : a = b) : Ending.returned (.int k a) = .returned (.int k b) := by rw [h]
theorem ret_int2 {k l : IntKind} {a b c d : Int} (h : a = b) (h' : c = d) : Ending.returned (.tuple #[.int k a, .int l c]) = .returned (.tuple #[.int k b, .int l d]) := by rw [h, h']
set_option maxHeartbeats 400000 in
theorem fix_wrong (N : Nat) (k : Int) (w : World) (h : k < 1 ∨ 8 < k) :
    Calls Tryz.prog 50 #[.int .u64 (N : Int), .int .i64 k] w fun e w' => e = .returned (.tuple #[.string ⟨#[]⟩, .int .i64 11]) ∧ w = w' := by
  go_enter Tryz.func50, Tryz.ntmps50
  go_wp2
  all_goals go_ret2
  all_goals exact ⟨rfl, rfl⟩
set_option maxHeartbeats 400000 in
theorem fix_over (N K : Nat) (w : World) (h : 1 ≤ K) (h' : K ≤ 8) (ho : 256 ^ K ≤ N) :
    Calls Tryz.prog 50 #[.int .u64 (N : Int), .int .i64 (K : Int)] w fun e w' => e = .returned (.tuple #[.string ⟨#[]⟩, .int .i64 11]) ∧ w = w' := by
  have ht : ((N : Int) / 2 ^ (8 * K) != 0) = true := by
    have h1 : 0 < N / 2 ^ (8 * K) := by rw [pow_256]; exact Nat.div_pos ho (Nat.pow_pos (by decide))
    have h2 : (N : Int) / 2 ^ (8 * K) = ((N / 2 ^ (8 * K) : Nat) : Int) := by simp
    rw [h2]; simp only [bne_iff_ne, ne_eq]; omega
  clear ho
  go_enter Tryz.func50, Tryz.ntmps50
  go_wp2
  all_goals go_ret2
  all_goals exact ⟨rfl, rfl⟩
def fixC (N k : Nat) : Array Value := Array.ofFn (n := 8) fun i => Value.int .u8 (if i.val < k then ((N / 256 ^ i.val % 256 : Nat) : Int) else 0)
theorem fixC_zero (N : Nat) : fixC N 0 = #[.int .u8 0, .int .u8 0, .int .u8 0, .int .u8 0, .int .u8 0, .int .u8 0, .int .u8 0, .int .u8 0] := by rfl
theorem fixC_get (N k i : Nat) (h : i < 8) : (fixC N k)[i]? = some (.int .u8 (if i < k then ((N / 256 ^ i % 256 : Nat) : Int) else 0)) := by simp [fixC, h]
theorem fixC_set (N k : Nat) (_ : k < 8) : (fixC N k).setIfInBounds k (.int .u8 ((N : Int) / 2 ^ (8 * k) % 256)) = fixC N (k + 1) := by
  have hv : (N : Int) / 2 ^ (8 * k) % 256 = ((N / 256 ^ k % 256 : Nat) : Int) := by
    have h2 : (N : Int) / 2 ^ (8 * k) = ((N / 2 ^ (8 * k) : Nat) : Int) := by simp
    rw [h2, pow_256]; omega
  rw [hv]
  unfold fixC
  apply Array.ext_getElem?
  intro i
  rw [Array.getElem?_setIfInBounds, Array.getElem?_ofFn, Array.getElem?_ofFn]
  by_cases e : k = i
  · subst e; simp [*]
  · have h3 : (i < k + 1) = (i < k) := by simp only [eq_iff_iff]; omega
    simp [e, h3]
set_option maxHeartbeats 400000 in
theorem fix_fits (N K : Nat) (w : World) (h : 1 ≤ K) (h' : K ≤ 8) (ho : N < 256 ^ K) :
    Calls Tryz.prog 50 #[.int .u64 (N : Int), .int .i64 (K : Int)] w fun e w' => e = .returned (.tuple #[.string ⟨(fixL K N).toArray⟩, .int .i64 0]) ∧ Below w.heap.size w w' := by
  have ht : ((N : Int) / 2 ^ (8 * K) != 0) = false := by
    have h2 : (N : Int) / 2 ^ (8 * K) = ((N / 2 ^ (8 * K) : Nat) : Int) := by simp
    rw [h2, pow_256, Nat.div_eq_of_lt ho]; rfl
  clear ho
  go_enter Tryz.func50, Tryz.ntmps50
  go_wp2
  go_loopw [22] (fun i wr => ∃ k : Nat, k ≤ K ∧ i = .int .i64 k ∧ wr.heap[w.heap.size]? = some (.cells (fixC N k) 152 (0, 0)) ∧ Below w.heap.size w wr) (fun i _ => K - (intOf i).toNat)
  case atStart => exact ⟨0, by omega, rfl, by rw [fixC_zero]; exact heap_alloc_new _ _, (Below.refl _ _).alloc (Nat.le_refl _) _⟩
  case round =>
    obtain ⟨k, hk, rfl, hrow, hbel⟩ := hrel
    by_cases hlt : k < K
    · have hcell : wr.cell? ⟨w.heap.size, k, none⟩ = some (.int .u8 (if k < k then ((N / 256 ^ k % 256 : Nat) : Int) else 0)) := by rw [cell_of_row _ _ _ _ _ _ hrow, fixC_get _ _ _ (by omega)]
      have hfz : wr.frozen? ⟨w.heap.size, k, none⟩ = false := frozen_of_row _ _ _ _ _ hrow
      have HR := Lib.hid hrow
      clear hrow
      go_wp2
      go_roundw
      case rel => exact ⟨k + 1, by omega, by go_num, by rw [heap_setCell_same _ _ _ _ _ _ HR.out, fixC_set _ _ (by omega)], hbel.setCell (by simp) _⟩
      case measure => simp [intOf]; omega
    · obtain rfl : k = K := by omega
      have hcv := run_convert_bytes_back (P := Tryz.prog) wr 80 9 5 ⟨w.heap.size, 0, none⟩ 8 (fixL k N) Tryz.underlying80 Tryz.underlying5 Tryz.underlying9
        (fun j hj => by
          have hj' : j < k := by rw [fixL_length] at hj; exact hj
          have ha : (⟨w.heap.size, 0, none⟩ : Addr).add j = ⟨w.heap.size, j, none⟩ := by unfold Addr.add; split <;> simp_all
          rw [ha, cell_of_row _ _ _ _ _ _ hrow, fixC_get _ _ _ (by omega), if_pos hj', fixL_get]
          simp only [UInt8.toNat_ofNat']
          congr 2; omega)
      rw [fixL_length] at hcv
      clear hrow
      go_wp2
      go_ret2
      exact ⟨rfl, hbel⟩
set_option maxHeartbeats 400000 in
theorem unfix_wrong (s : ByteArray) (w : World) (h : s.size < 1 ∨ 8 < s.size) (hs : s.size ≤ maxLen) :
    Calls Tryz.prog 71 #[.string s] w fun e w' => e = .returned (.tuple #[.int .u64 0, .int .i64 11]) ∧ w = w' := by
  unfold maxLen at hs
  go_enter Tryz.func71, Tryz.ntmps71
  go_wp2
  all_goals go_ret2
  all_goals exact ⟨rfl, rfl⟩
set_option maxHeartbeats 400000 in
theorem unfix_any (s : ByteArray) (w : World) (h : 1 ≤ s.size) (h' : s.size ≤ 8) :
    Calls Tryz.prog 71 #[.string s] w fun e w' => e = .returned (.tuple #[.int .u64 (unfL s.data.toList), .int .i64 0]) ∧ w = w' := by
  go_enter Tryz.func71, Tryz.ntmps71
  go_wp2
  go_loop [4, 16] (fun c i => ∃ k : Nat, k ≤ s.size ∧ i = .int .i64 k ∧ c = .int .u64 (unfL (s.data.toList.take k))) (fun _ i => s.size - (intOf i).toNat)
  case atStart => exact ⟨0, Nat.zero_le _, rfl, rfl⟩
  case round =>
    obtain ⟨k, hk, rfl, rfl⟩ := hrel
    by_cases hlt : k < s.size
    · have ho := Lib.hid (unfL_or (s.data.toList.take k) (s[k]'hlt) (by simp; omega))
      go_wp2
      go_round
      case rel =>
        have ho := ho.out
        have hl : (s.data.toList.take k).length = k := by simp; omega
        rw [hl] at ho
        refine ⟨k + 1, by omega, by go_num, ?_⟩
        rw [ho, List.take_succ_eq_append_getElem (by simpa using hlt)]
        rfl
      case measure => simp [intOf]; omega
    · obtain rfl : k = s.size := by omega
      go_wp2
      go_ret2
      exact ⟨ret_int2 (by rw [List.take_of_length_le (by simp)]) rfl, rfl⟩

/-! ### the document's first examples -/
end Go.Proofs.YtioidkbpjkcjeaaGreatDoor
