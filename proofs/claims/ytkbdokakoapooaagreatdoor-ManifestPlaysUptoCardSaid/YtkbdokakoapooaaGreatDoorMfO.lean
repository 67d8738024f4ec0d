/- The document's Same of two manifests. Conditions: those that each theorem names. -/
import Derived.Test.YtkbdokakoapooaaGreatDoorMfN
namespace Go.Proofs.YtkbdokakoapooaaGreatDoor
set_option linter.unusedVariables false
open Go Go.RowKit Go.Shelf Go.Sort
namespace Mf
def sameM (a b : Mn) : Bool := decide (bl a.log = bl b.log) && (decide (a.next = b.next) && (decide (a.seq = b.seq) && (decide (a.segs.length = b.segs.length) && decide (a.segs.map bl = b.segs.map bl))))
theorem sameM_self (a : Mn) : sameM a a = true := by simp [sameM]
theorem below_q {B : Nat} {w w' : World} (h : Below B w w') (n : Nat) : Below B w (w'.drewN n) := ⟨h.os, h.tape, h.output, h.size, h.block⟩
theorem of_cells4 {w : World} {K : Nat} {a b c d : Value} {T : TypeId} (h : w.heap[K]? = some (.cells #[a, b, c, d] T (0, 0))) : w.cell? ⟨K, 0, none⟩ = some a ∧ w.cell? ⟨K, 1, none⟩ = some b ∧ w.cell? ⟨K, 2, none⟩ = some c ∧ w.cell? ⟨K, 3, none⟩ = some d := by
  refine ⟨?_, ?_, ?_, ?_⟩ <;> rw [Lib.cell_of_heap h] <;> rfl
theorem take_map_next {A : List ByteArray} {k : Nat} {x : ByteArray} (h : A[k]? = some x) : (A.take (k + 1)).map bl = (A.take k).map bl ++ [bl x] := by
  rw [List.take_add_one, h]; simp
theorem ne_bool (x y : ByteArray) : (x.toList == y.toList) = decide (bl x = bl y) := str_eq x y
set_option maxHeartbeats 4000000 in
set_option maxRecDepth 100000 in
theorem same_any (a b : Mn) (va vb : Value) (w : World) (ha : MnAt w va a) (hb : MnAt w vb b) (sa : Small a) (sb : Small b) :
    Calls Tryz.prog 35 #[va, vb] w fun e w' => e = .returned (.bool (sameM a b)) ∧ Below w.heap.size w w' := by
  obtain ⟨R, hR⟩ : ∃ R, R = sameM a b := ⟨_, rfl⟩
  rw [← hR]
  obtain ⟨A, l, nx, sq⟩ := a
  obtain ⟨B, l', nx', sq'⟩ := b
  obtain ⟨p, c, rfl, ht⟩ := ha
  obtain ⟨p', c', rfl, ht'⟩ := hb
  have m1 := sa.rows
  have m2 := sb.rows
  dsimp only at *
  unfold sameM at hR
  dsimp only at hR
  have HR := Lib.hid hR
  have HT := Lib.hid ht
  have HT' := Lib.hid ht'
  clear hR ht ht' sa sb
  obtain ⟨n, hn⟩ : ∃ n, n = A.length := ⟨_, rfl⟩
  obtain ⟨n', hn'⟩ : ∃ n, n = B.length := ⟨_, rfl⟩
  rw [← hn] at m1 HT HR ⊢
  rw [← hn'] at m2 HT' HR ⊢
  have HN := Lib.hid hn
  have HN' := Lib.hid hn'
  clear hn hn'
  have hb1 := below_new w (.cells #[.slice p n c, .string l, .int .i64 nx, .int .i64 sq] 61)
  have hx1 := heap_new w (.cells #[.slice p n c, .string l, .int .i64 nx, .int .i64 sq] 61)
  have hb2 := below_new (w.alloc (.cells #[.slice p n c, .string l, .int .i64 nx, .int .i64 sq] 61)) (.cells #[.slice p' n' c', .string l', .int .i64 nx', .int .i64 sq'] 61)
  have hx2 := heap_new (w.alloc (.cells #[.slice p n c, .string l, .int .i64 nx, .int .i64 sq] 61)) (.cells #[.slice p' n' c', .string l', .int .i64 nx', .int .i64 sq'] 61)
  have hs1 : (w.alloc (.cells #[.slice p n c, .string l, .int .i64 nx, .int .i64 sq] 61)).heap.size = w.heap.size + 1 := by simp
  have hx3 := (hb2.block w.heap.size (by rw [hs1]; omega)).trans hx1
  rw [hs1] at hx2
  have HW : Hid (∀ W : World, Below (w.heap.size + 2) ((w.alloc (.cells #[.slice p n c, .string l, .int .i64 nx, .int .i64 sq] 61)).alloc (.cells #[.slice p' n' c', .string l', .int .i64 nx', .int .i64 sq'] 61)) W → W.heap[w.heap.size]? = some (.cells #[.slice p n c, .string l, .int .i64 nx, .int .i64 sq] 61 (0, 0)) ∧ W.heap[w.heap.size + 1]? = some (.cells #[.slice p' n' c', .string l', .int .i64 nx', .int .i64 sq'] 61 (0, 0))) := Lib.hid (fun W hW =>
    ⟨(hW.block _ (by omega)).trans hx3, (hW.block _ (by omega)).trans hx2⟩)
  have HB : Hid (Below w.heap.size w ((w.alloc (.cells #[.slice p n c, .string l, .int .i64 nx, .int .i64 sq] 61)).alloc (.cells #[.slice p' n' c', .string l', .int .i64 nx', .int .i64 sq'] 61))) := Lib.hid (below_then hb1 hb2)
  clear hb1 hx1 hb2 hx2 hs1 hx3
  have no : ∀ (x : Bool), x = false → Hid (R = false) → Ending.returned (Value.bool x) = .returned (.bool R) := fun x h1 h2 => by rw [h2.out, h1]
  obtain ⟨d0, d1, d2, d3⟩ := of_cells4 (HW.out _ (Below.refl _ _)).1
  obtain ⟨e0, e1, e2, e3⟩ := of_cells4 (HW.out _ (Below.refl _ _)).2
  have hll := str_eq l l'
  go_enter Tryz.func35, Tryz.ntmps35
  by_cases q1 : ¬ bl l = bl l'
  · rw [decide_eq_false q1] at hll
    have HX : Hid (R = false) := Lib.hid (by rw [HR.out, decide_eq_false q1]; rfl)
    clear q1
    go_wp2_with fail
    go_ret
    rw [HX.out]; exact ⟨rfl, HB.out⟩
  have q1 := Decidable.not_not.1 q1
  rw [decide_eq_true q1] at hll
  by_cases q2 : ¬ nx = nx'
  · have h2 : (nx != nx') = true := bne_iff_ne.2 q2
    have HX : Hid (R = false) := Lib.hid (by rw [HR.out, decide_eq_false q2]; simp)
    clear q1 q2
    go_wp2_with fail
    go_ret
    rw [HX.out]; exact ⟨rfl, HB.out⟩
  have q2 := Decidable.not_not.1 q2
  subst q2
  by_cases q3 : ¬ sq = sq'
  · have h3 : (sq != sq') = true := bne_iff_ne.2 q3
    have h2 : (nx != nx) = false := bne_self_eq_false _
    have HX : Hid (R = false) := Lib.hid (by rw [HR.out, decide_eq_false q3]; simp)
    clear q1 q3
    go_wp2_with fail
    go_ret
    rw [HX.out]; exact ⟨rfl, HB.out⟩
  have q3 := Decidable.not_not.1 q3
  subst q3
  have h3 : (sq != sq) = false := bne_self_eq_false _
  have h2 : (nx != nx) = false := bne_self_eq_false _
  by_cases q4 : ¬ n = n'
  · have h4 : ((n : Int) != (n' : Int)) = true := bne_iff_ne.2 (by omega)
    have HX : Hid (R = false) := Lib.hid (by rw [HR.out, decide_eq_false q4]; simp)
    clear q1 q4
    go_wp2_with fail
    go_ret
    rw [HX.out]; exact ⟨rfl, HB.out⟩
  have q4 := Decidable.not_not.1 q4
  have h4 : ((n : Int) != (n' : Int)) = false := by rw [q4]; exact bne_self_eq_false _
  have HR2 : Hid (R = decide (A.map bl = B.map bl)) := Lib.hid (by rw [HR.out, decide_eq_true q1, decide_eq_true q4]; simp)
  have HQ4 := Lib.hid q4
  clear q1 q4 HR
  go_wp2_with fail
  generalize (w.alloc (.cells #[.slice p n c, .string l, .int .i64 nx, .int .i64 sq] 61)).alloc (.cells #[.slice p' n' c', .string l', .int .i64 nx, .int .i64 sq] 61) = W0 at *
  clear d0 d1 d2 d3 e0 e1 e2 e3 hll h2 h3 h4
  go_loopw [5] (fun i wr => ∃ k : Nat, k ≤ n ∧ i = .int .i64 k ∧ Hid ((A.take k).map bl = (B.take k).map bl) ∧ Below (w.heap.size + 2) W0 wr) (fun i _ => n - (intOf i).toNat)
  case atStart => exact ⟨0, Nat.zero_le _, rfl, Lib.hid (by simp), Below.refl _ _⟩
  case round =>
    obtain ⟨k, hk, rfl, HA, hb2⟩ := hrel
    have HB2 := Lib.hid hb2
    have HBF : Hid (Below w.heap.size w wr) := Lib.hid (HB.out.trans (hb2.mono (by omega)))
    obtain ⟨d0, d1, d2, d3⟩ := of_cells4 (HW.out wr hb2).1
    obtain ⟨e0, e1, e2, e3⟩ := of_cells4 (HW.out wr hb2).2
    clear hb2
    obtain ⟨wo, rfl⟩ : ∃ wo : World, wo = wr := ⟨_, rfl⟩
    by_cases hlt : k < n
    · have hla : k < A.length := by rw [← HN.out]; exact hlt
      have hlb : k < B.length := by rw [← HN'.out, ← HQ4.out]; exact hlt
      have hlt2 : k < n' := by rw [← HQ4.out]; exact hlt
      obtain ⟨g, off, rfl, hc⟩ := txs_cell HT.out hla
      obtain ⟨g', off', rfl, hc'⟩ := txs_cell HT'.out hlb
      have ca := hc wo HBF.out
      have cb := hc' wo HBF.out
      have hx : A[k]? = some A[k] := List.getElem?_eq_getElem hla
      have hy : B[k]? = some B[k] := List.getElem?_eq_getElem hlb
      generalize A[k] = x at ca hx
      generalize B[k] = y at cb hy
      have HX := Lib.hid (take_map_next hx)
      have HY := Lib.hid (take_map_next hy)
      have hxy := str_eq x y
      clear hc hc' hla hlb hx hy
      by_cases q : bl x = bl y
      · rw [decide_eq_true q] at hxy
        have HNX : Hid ((A.take (k + 1)).map bl = (B.take (k + 1)).map bl) := Lib.hid (by rw [HX.out, HY.out, HA.out, q])
        clear q
        go_wp2_with fail
        go_quiet (fail)
        go_wp2_with fail
        go_roundw
        case rel => exact ⟨k + 1, by omega, congrArg _ (show (k : Int) + 1 = ((k + 1 : Nat) : Int) by omega), HNX, below_q HB2.out _⟩
        case measure =>
          simp only [intOf]; omega
      · rw [decide_eq_false q] at hxy
        have HNX : Hid (R = false) := Lib.hid (by
          rw [HR2.out]
          refine decide_eq_false fun h => q ?_
          have h1 : (A.take (k + 1)).map bl = (B.take (k + 1)).map bl := by rw [List.map_take, List.map_take, h]
          rw [HX.out, HY.out, HA.out] at h1
          simpa using h1)
        clear q
        go_wp2_with fail
        go_quiet (fail)
        go_wp2_with fail
        go_ret
        rw [HNX.out]; exact ⟨rfl, below_q HBF.out _⟩
    · obtain rfl : k = n := by omega
      have HX : Hid (R = true) := Lib.hid (by
        rw [HR2.out]
        have := HA.out
        conv at this => lhs; rw [HN.out]
        rw [show k = B.length from HQ4.out.trans HN'.out, List.take_length, List.take_length] at this
        exact decide_eq_true this)
      go_wp2_with fail
      go_ret
      rw [HX.out]; exact ⟨rfl, HBF.out⟩
end Mf
end Go.Proofs.YtkbdokakoapooaaGreatDoor
