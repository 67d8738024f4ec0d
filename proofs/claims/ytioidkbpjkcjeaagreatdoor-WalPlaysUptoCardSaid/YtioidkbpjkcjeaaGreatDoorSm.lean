/- The check sum of a text, by the program and by the document, for layers above. Conditions: those that each theorem names. -/
import Derived.Test.YtioidkbpjkcjeaaGreatDoorFr
namespace Go.Proofs.YtioidkbpjkcjeaaGreatDoor
open Go.RowKit
def tabC (k : Nat) : Array Value := Array.ofFn (n := 16) fun i => Value.int .u32 (if i.val < k then cAt (i.val : Int) 4 else 0)
theorem tabC_zero : tabC 0 = #[.int .u32 0, .int .u32 0, .int .u32 0, .int .u32 0, .int .u32 0, .int .u32 0, .int .u32 0, .int .u32 0, .int .u32 0, .int .u32 0, .int .u32 0, .int .u32 0, .int .u32 0, .int .u32 0, .int .u32 0, .int .u32 0] := by rfl
theorem tabC_set (k : Nat) (_ : k < 16) : (tabC k).setIfInBounds k (.int .u32 (cAt (k : Int) 4)) = tabC (k + 1) := by
  unfold tabC
  apply Array.ext_getElem?
  intro i
  rw [Array.getElem?_setIfInBounds, Array.getElem?_ofFn, Array.getElem?_ofFn]
  by_cases e : k = i
  · subst e; simp [*]
  · have h3 : (i < k + 1) = (i < k) := by simp only [eq_iff_iff]; omega
    simp [e, h3]
theorem tabC_size (k : Nat) : (tabC k).size = 16 := by simp [tabC]
theorem tabC_get (k i : Nat) (h : i < 16) : (tabC k)[i]? = some (.int .u32 (if i < k then cAt (i : Int) 4 else 0)) := by simp [tabC, h]
theorem tabC_one (k : Nat) : (tabC k).all (·.oneCell') = true := by
  rw [Array.all_eq_true_iff_forall_mem]; intro x hx; simp [tabC] at hx; obtain ⟨i, rfl⟩ := hx; rfl
theorem bel_setRow {B : Nat} {a w : World} (h : Below B a w) {g : Nat} (hg : B ≤ g) (cs : Array Value) : Below B a (w.setRow g cs) :=
  ⟨h.os, h.tape, h.output, by simpa using h.size, fun k hk => by rw [← h.block k hk]; simp only [World.setRow, Array.getElem?_modify]; rw [if_neg (by omega)]⟩
set_option maxHeartbeats 400000 in
theorem tab_any (w : World) :
    Calls Tryz.prog 70 #[] w fun e w' => e = .returned (.agg (tabC 16)) ∧ Below w.heap.size w w' := by
  go_enter Tryz.func70, Tryz.ntmps70
  go_wp2
  go_loopw [5] (fun i wr => ∃ k : Nat, k ≤ 16 ∧ i = .int .i64 k ∧ wr.heap[w.heap.size + 1]? = some (.cells (tabC k) 153 (0, 0)) ∧ wr.heap[w.heap.size]? = some (.cells (tabC 0) 153 (0, 0)) ∧ Below w.heap.size w wr) (fun i _ => 16 - (intOf i).toNat)
  case atStart => exact ⟨0, by omega, rfl, by rw [tabC_zero]; exact heap_alloc2_new _ _ _, by rw [tabC_zero]; exact heap_alloc2_old _ _ _, (((Below.refl _ _).alloc (Nat.le_refl _) _).alloc (by simp) _)⟩
  case round =>
    obtain ⟨k, hk, rfl, hrow, hcs, hbel⟩ := hrel
    by_cases hlt : k < 16
    · have hcell : wr.cell? ⟨w.heap.size + 1, k, none⟩ = some (.int .u32 (if k < k then cAt (k : Int) 4 else 0)) := by rw [cell_of_row _ _ _ _ _ _ hrow, tabC_get _ _ hlt]
      have hfz : wr.frozen? ⟨w.heap.size + 1, k, none⟩ = false := frozen_of_row _ _ _ _ _ hrow
      have HR := Lib.hid hrow
      have HC := Lib.hid hcs
      clear hrow hcs
      obtain ⟨wo, rfl⟩ : ∃ wo : World, wo = wr := ⟨_, rfl⟩
      go_wp2
      go_loop [3, 10] (fun c j => ∃ i : Nat, i ≤ 4 ∧ j = .int .i64 i ∧ c = .int .u32 (cAt (k : Int) i)) (fun _ j => 4 - (intOf j).toNat)
      case atStart => exact ⟨0, by omega, rfl, rfl⟩
      case round =>
        obtain ⟨i, hi, rfl, rfl⟩ := hrel
        by_cases hi4 : i < 4
        · go_wp2
          go_round
          case rel => exact ⟨i + 1, by omega, by go_num, rfl⟩
          case measure => simp [intOf]; omega
        · obtain rfl : i = 4 := by omega
          go_wp2
          go_roundw
          case rel => exact ⟨k + 1, by omega, by go_num, by rw [heap_setCell_same _ _ _ _ _ _ HR.out, tabC_set _ hlt], by rw [heap_setCell_other _ _ _ _ (by simp)]; exact HC.out, hbel.setCell (by simp) _⟩
          case measure => simp [intOf]; omega
    · obtain rfl : k = 16 := by omega
      have HR := Lib.hid hrow
      have HC := Lib.hid hcs
      clear hrow hcs
      go_wp2_with (first
        | (refine wpList_load_row rfl 153 _ rfl _ rfl _ _ _ _ HR.out Tryz.underlying153 rfl (by kernel_rfl) ?_)
        | (refine wpList_store_row rfl 153 _ _ rfl _ _ rfl rfl _ _ HC.out (by kernel_rfl) (by rw [tabC_size, tabC_size]) (tabC_one _) ?_))
      exact bodyPost_ret (results_cell_row rfl _ _ w.heap.size 153 (tabC 16) (0, 0) _ rfl (setRow_heap _ _ _ _ _ _ HC.out) Tryz.underlying153 rfl (by kernel_rfl)) rfl ⟨rfl, bel_setRow hbel (Nat.le_refl _) _⟩
set_option maxHeartbeats 800000 in
theorem sum_any (s : ByteArray) (w : World) (hs : s.size ≤ maxLen) :
    Calls Tryz.prog 51 #[.string s] w fun e w' => e = .returned (.int .u32 (crcN s)) ∧ Below w.heap.size w w' := by
  unfold maxLen at hs
  go_enter Tryz.func51, Tryz.ntmps51
  go_wp2_with (first
    | (go_at_call 70; refine (tab_any _).mono ?_; rintro e w1 ⟨rfl, hb1⟩)
    | (refine wpList_store_row rfl 153 _ _ rfl _ _ rfl rfl _ _ (heap_alloc_new _ _) (by kernel_rfl) (by rw [tabC_size]; rfl) (tabC_one _) ?_))
  generalize hW : World.setRow _ _ _ = W
  have hrow : W.heap[w1.heap.size]? = some (.cells (tabC 16) 153 (0, 0)) := by rw [← hW]; exact setRow_heap _ _ _ _ _ _ (heap_alloc_new _ _)
  have hbel : Below w.heap.size w W := by rw [← hW]; exact bel_setRow (hb1.alloc hb1.size _) hb1.size _
  have HBEL := Lib.hid hbel
  have HROW := Lib.hid hrow
  clear hW hb1 hbel hrow
  go_loop [4, 9] (fun c i => ∃ k : Nat, k ≤ s.size ∧ i = .int .i64 k ∧ c = .int .u32 (sumN s k : Int)) (fun _ i => s.size - (intOf i).toNat)
  case atStart => exact ⟨0, Nat.zero_le _, rfl, rfl⟩
  case round =>
    obtain ⟨k, hk, rfl, rfl⟩ := hrel
    have hlt32 := sumN_lt s k
    by_cases hlt : k < s.size
    · have hby := byN_lt s k
      have hb : IntKind.u32.wrap ((s[k]'hlt).toNat : Int) = (byN s k : Int) := by rw [byN_get s k hlt]; exact IntWalk.u32_in _ (by omega)
      obtain ⟨x, hx⟩ : ∃ x, x = sumN s k ^^^ byN s k := ⟨_, rfl⟩
      obtain ⟨y, hy⟩ : ∃ y, y = nAt 4 x := ⟨_, rfl⟩
      have hxl : x < 4294967296 := by rw [hx]; exact xor_byte_lt _ _ hlt32 hby
      have hyl : y < 4294967296 := by rw [hy]; exact nAt_lt 4 x hxl
      have e1 : bits .xor .u32 (sumN s k : Int) (byN s k : Int) = (x : Int) := by rw [hx]; exact u32_xor_nat _ _ hlt32 (by omega)
      have e2 := and15 x hxl
      have e3 := and15 y hyl
      have c2 : W.cell? ⟨w1.heap.size, x % 16, none⟩ = some (.int .u32 (cAt ((x % 16 : Nat) : Int) 4)) := by rw [cell_of_row _ _ _ _ _ _ HROW.out, tabC_get _ _ (by omega), if_pos (by omega)]
      have c3 : W.cell? ⟨w1.heap.size, y % 16, none⟩ = some (.int .u32 (cAt ((y % 16 : Nat) : Int) 4)) := by rw [cell_of_row _ _ _ _ _ _ HROW.out, tabC_get _ _ (by omega), if_pos (by omega)]
      have e4 : bits .xor .u32 ((x : Int) / 16) (cAt ((x : Int) % 16) 4) = (y : Int) := by rw [hy]; exact four_steps x hxl
      have e5 : bits .xor .u32 ((y : Int) / 16) (cAt ((y : Int) % 16) 4) = (sumN s (k + 1) : Int) := by
        have := four_steps y hyl
        rw [Int.natCast_emod] at this
        rw [show ((16 : Nat) : Int) = 16 from rfl] at this
        rw [this, hy, ← nAt_add 4 4 x, hx]; rfl
      clear hx hy
      go_wp2
      go_round
      case rel => exact ⟨k + 1, by omega, by go_num, rfl⟩
      case measure => simp [intOf]; omega
    · obtain rfl : k = s.size := by omega
      go_wp2
      go_ret
      exact ⟨ret_int (crc_max s), HBEL.out⟩
theorem step_odd (y : Nat) (h : y < 4294967296) (e : y % 2 = 1) : bits .xor .u32 ((y : Int) / 2) 3988292384 = (nStep y : Int) := by
  have h3 : (y : Int) / 2 = ((y / 2 : Nat) : Int) := by omega
  have := u32_xor_nat (y / 2) 3988292384 (by omega) (by decide)
  rw [h3]
  unfold nStep
  rw [e, Nat.one_mul]
  exact this
theorem step_even (y : Nat) (e : y % 2 = 0) : (y : Int) / 2 = (nStep y : Int) := by
  unfold nStep
  rw [e, Nat.zero_mul, Nat.xor_zero]
  omega
set_option maxHeartbeats 800000 in
theorem sumRef_any (s : ByteArray) (w : World) (hs : s.size ≤ maxLen) :
    Calls Tryz.prog 85 #[.string s] w fun e w' => e = .returned (.int .u32 (crcN s)) ∧ w = w' := by
  unfold maxLen at hs
  go_enter Tryz.func85, Tryz.ntmps85
  go_wp2
  go_loop [3, 4] (fun c i => ∃ k : Nat, k ≤ s.size ∧ i = .int .i64 k ∧ c = .int .u32 (sumN s k : Int)) (fun _ i => s.size - (intOf i).toNat)
  case atStart => exact ⟨0, Nat.zero_le _, rfl, rfl⟩
  case round =>
    obtain ⟨k, hk, rfl, rfl⟩ := hrel
    have hlt32 := sumN_lt s k
    by_cases hlt : k < s.size
    · have hby := byN_lt s k
      have hb : IntKind.u32.wrap ((s[k]'hlt).toNat : Int) = (byN s k : Int) := by rw [byN_get s k hlt]; exact IntWalk.u32_in _ (by omega)
      obtain ⟨x, hx⟩ : ∃ x, x = sumN s k ^^^ byN s k := ⟨_, rfl⟩
      have hxl : x < 4294967296 := by rw [hx]; exact xor_byte_lt _ _ hlt32 hby
      have e1 : bits .xor .u32 (sumN s k : Int) (byN s k : Int) = (x : Int) := by rw [hx]; exact u32_xor_nat _ _ hlt32 (by omega)
      have e8 : nAt 8 x = sumN s (k + 1) := by rw [hx]; rfl
      have E8 := Lib.hid e8
      clear hx e8
      go_wp2
      go_loop [3, 5] (fun c i => ∃ j : Nat, j ≤ 8 ∧ i = .int .i64 j ∧ c = .int .u32 (nAt j x : Int)) (fun _ i => 8 - (intOf i).toNat)
      case atStart => exact ⟨0, Nat.zero_le _, rfl, rfl⟩
      case round =>
        obtain ⟨j, hj, rfl, rfl⟩ := hrel
        by_cases hj8 : j < 8
        · have hy := nAt_lt j x hxl
          have hsx := Lib.hid (nAt_succ j x)
          obtain ⟨y, hye⟩ : ∃ y, y = nAt j x := ⟨_, rfl⟩
          rw [← hye] at hy hsx ⊢
          clear hye
          by_cases hodd : y % 2 = 1
          · have ho := Lib.hid (step_odd y hy hodd)
            go_wp2
            go_round
            case rel => exact ⟨j + 1, by omega, by go_num, by rw [hsx.out, ho.out]⟩
            case measure => simp [intOf]; omega
          · have ho := Lib.hid (step_even y (by omega))
            go_wp2
            go_round
            case rel => exact ⟨j + 1, by omega, by go_num, by rw [hsx.out, ho.out]⟩
            case measure => simp [intOf]; omega
        · obtain rfl : j = 8 := by omega
          go_wp2
          go_round
          case rel => exact ⟨k + 1, by omega, by go_num, by rw [E8.out]⟩
          case measure => simp [intOf]; omega
    · obtain rfl : k = s.size := by omega
      go_wp2
      go_ret
      exact ⟨ret_int (crc_right s), rfl⟩
end Go.Proofs.YtioidkbpjkcjeaaGreatDoor
