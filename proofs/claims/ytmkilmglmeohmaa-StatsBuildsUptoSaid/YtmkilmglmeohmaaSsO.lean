/- The document's Same, of what is the same. Conditions: those that each theorem names. -/
import Derived.Test.YtmkilmglmeohmaaSsI
import Derived.BigQuiet
namespace Go.Proofs.Ytmkilmglmeohmaa
set_option linter.unusedVariables false
open Go Go.RowKit Go.Sort
namespace Ss
set_option maxHeartbeats 1000000 in
theorem neqE_self (a b : Int) (w : World) : (binOp .neq 39 (.agg #[.int .i64 a, .int .i64 b]) (.agg #[.int .i64 a, .int .i64 b])).run Try.prog w = .ok (.bool false) w := by
  rw [run_neq_struct, run_equalIn_agg _ _ _ _ _ (by kernel_rfl) (by kernel_rfl)]
  have c1 : Try.prog.cellsOf 3 = 1 := by kernel_rfl
  have q1 := fun (d : Nat) (a b : Int) (w : World) => run_equalIn_int (P := Try.prog) w d 3 .i64 .i64 a b Try.underlying3
  simp only [Program.fieldsOf, Try.underlying39]
  simp [Op.eqFields, go_sem, q1, Try.underlying3]
set_option maxHeartbeats 1000000 in
theorem neqB_self (a b c d : Int) (w : World) : (binOp .neq 36 (.agg #[.int .i64 a, .int .i64 b, .int .i64 c, .int .i64 d]) (.agg #[.int .i64 a, .int .i64 b, .int .i64 c, .int .i64 d])).run Try.prog w = .ok (.bool false) w := by
  rw [run_neq_struct, run_equalIn_agg _ _ _ _ _ (by kernel_rfl) (by kernel_rfl)]
  have c1 : Try.prog.cellsOf 3 = 1 := by kernel_rfl
  have q1 := fun (d : Nat) (a b : Int) (w : World) => run_equalIn_int (P := Try.prog) w d 3 .i64 .i64 a b Try.underlying3
  simp only [Program.fieldsOf, Try.underlying36]
  simp [Op.eqFields, go_sem, q1, Try.underlying3]
set_option maxHeartbeats 4000000 in
set_option maxRecDepth 100000 in
theorem same_yes (sm : Int) (B : List Bk) (E : List En) (p1 p2 q1 q2 : Option Addr) (c1 c2 d1 d2 : Nat) (w : World) (hb1 : BksAt w (.slice p1 B.length c1) B) (hb2 : BksAt w (.slice p2 B.length c2) B) (he1 : EnsAt w (.slice q1 E.length d1) E) (he2 : EnsAt w (.slice q2 E.length d2) E) (hbl : B.length ≤ maxLen) (hel : E.length ≤ maxLen) :
    Calls Try.prog 8 #[.agg #[.int .i64 sm, .slice p1 B.length c1, .slice q1 E.length d1], .agg #[.int .i64 sm, .slice p2 B.length c2, .slice q2 E.length d2]] w fun e w' => e = .returned (.bool true) ∧ Below w.heap.size w w' := by
  obtain ⟨w1, hw1⟩ : ∃ w1, w1 = (w.alloc (sO sm (.slice p1 B.length c1) (.slice q1 E.length d1))).alloc (sO sm (.slice p2 B.length c2) (.slice q2 E.length d2)) := ⟨_, rfl⟩
  have hB : Below w.heap.size w w1 := by rw [hw1]; exact (Rk.fresh_alloc w _).alloc (by simp) _
  have z1 : w1.heap[w.heap.size]? = some (.cells #[.int .i64 sm, .slice p1 B.length c1, .slice q1 E.length d1] 27 (0, 0)) := by rw [hw1, Rk.heap_old _ _ (by simp), Rk.heap_last]
  have z2 : w1.heap[w.heap.size + 1]? = some (.cells #[.int .i64 sm, .slice p2 B.length c2, .slice q2 E.length d2] 27 (0, 0)) := by
    have := Rk.heap_last (w.alloc (sO sm (.slice p1 B.length c1) (.slice q1 E.length d1))) (sO sm (.slice p2 B.length c2) (.slice q2 E.length d2))
    rw [show (w.alloc (sO sm (.slice p1 B.length c1) (.slice q1 E.length d1))).heap.size = w.heap.size + 1 by simp] at this
    rw [hw1]
    exact this
  have H1 := Lib.hid (bk_cells (hb1.below hB))
  have H2 := Lib.hid (bk_cells (hb2.below hB))
  have H3 := Lib.hid (en_cells (he1.below hB))
  have H4 := Lib.hid (en_cells (he2.below hB))
  have HB := Lib.hid hB
  have HBL := Lib.hid hbl
  have HEL := Lib.hid hel
  have a0 : w1.cell? ⟨w.heap.size, 0, none⟩ = some (.int .i64 sm) := by rw [Lib.cell_of_heap z1]; rfl
  have a1 : w1.cell? ⟨w.heap.size, 1, none⟩ = some (.slice p1 B.length c1) := by rw [Lib.cell_of_heap z1]; rfl
  have a2 : w1.cell? ⟨w.heap.size, 2, none⟩ = some (.slice q1 E.length d1) := by rw [Lib.cell_of_heap z1]; rfl
  have b0 : w1.cell? ⟨w.heap.size + 1, 0, none⟩ = some (.int .i64 sm) := by rw [Lib.cell_of_heap z2]; rfl
  have b1 : w1.cell? ⟨w.heap.size + 1, 1, none⟩ = some (.slice p2 B.length c2) := by rw [Lib.cell_of_heap z2]; rfl
  have b2 : w1.cell? ⟨w.heap.size + 1, 2, none⟩ = some (.slice q2 E.length d2) := by rw [Lib.cell_of_heap z2]; rfl
  have n1 : (sm != sm) = false := by simp
  clear hb1 hb2 he1 he2 hbl hel hB z1 z2
  obtain ⟨nb, hnb⟩ : ∃ nb, nb = B.length := ⟨_, rfl⟩
  obtain ⟨ne, hne⟩ : ∃ ne, ne = E.length := ⟨_, rfl⟩
  have HNB := Lib.hid hnb
  have HNE := Lib.hid hne
  have n2 : ((nb : Int) != (nb : Int)) = false := by simp
  have n3 : ((ne : Int) != (ne : Int)) = false := by simp
  rw [← hnb] at HBL a1 b1 ⊢
  rw [← hne] at HEL a2 b2 ⊢
  rw [← hnb, ← hne] at hw1
  clear hnb hne
  go_enter Try.func8, Try.ntmps8
  go_wp2_with fail
  rw [← hw1]
  clear hw1
  go_loopw [5] (fun i wr => ∃ k : Nat, k ≤ nb ∧ i = .int .i64 k ∧ ∃ nq, wr = w1.drewN nq) (fun i _ => nb - (intOf i).toNat)
  case atStart => exact ⟨0, Nat.zero_le _, rfl, 0, rfl⟩
  case round =>
    obtain ⟨k, hk, rfl, nq, rfl⟩ := hrel
    have HD : Hid (Below w1.heap.size w1 (w1.drewN nq)) := Lib.hid ⟨rfl, rfl, rfl, Nat.le_refl _, fun _ _ => rfl⟩
    have HNQ : Hid (∀ n, ∃ nq', (w1.drewN nq).drewN n = w1.drewN nq') := Lib.hid (fun n => ⟨nq + n, World.drewN_drewN ..⟩)
    have e1 : (w1.drewN nq).cell? ⟨w.heap.size, 1, none⟩ = some (.slice p1 nb c1) := a1
    have e2 : (w1.drewN nq).cell? ⟨w.heap.size, 2, none⟩ = some (.slice q1 ne d1) := a2
    have g1 : (w1.drewN nq).cell? ⟨w.heap.size + 1, 1, none⟩ = some (.slice p2 nb c2) := b1
    have g2 : (w1.drewN nq).cell? ⟨w.heap.size + 1, 2, none⟩ = some (.slice q2 ne d2) := b2
    by_cases hlt : k < nb
    · have hkb : k < B.length := by rw [← HNB.out]; exact hlt
      obtain ⟨g, off, rfl, hc⟩ := H1.out k (by first | exact hkb | exact hlt)
      obtain ⟨g', off', rfl, hc'⟩ := H2.out k (by first | exact hkb | exact hlt)
      obtain ⟨x0, x1, x2, x3⟩ := hc _ HD.out
      obtain ⟨y0, y1, y2, y3⟩ := hc' _ HD.out
      have hlt' : (k : Int) < (nb : Int) := by omega
      generalize B[k] = x at x0 x1 x2 x3 y0 y1 y2 y3
      have HE := fun W => neqB_self x.1 x.2.1 x.2.2.1 x.2.2.2 W
      obtain ⟨xa, xb, xc, xd⟩ := x
      simp only at x0 x1 x2 x3 y0 y1 y2 y3 HE
      clear hc hc' a0 a1 a2 b0 b1 b2 hkb
      generalize w1.drewN nq = wo at *
      go_wp2_with fail
      go_quiet (fail)
      go_wp2_with fail
      go_roundw
      case rel => exact ⟨k + 1, by omega, congrArg _ (wrap_s HBL.out hlt), HNQ.out _⟩
      case measure =>
        rw [wrap_s HBL.out hlt]
        exact int_less hlt
    · obtain rfl : k = nb := by omega
      clear hlt hk H1 H2
      have HDE : Hid (∃ w9, w9 = w1.drewN nq) := Lib.hid ⟨_, rfl⟩
      go_wp2_with fail
      go_loopw [6] (fun i wr => ∃ k : Nat, k ≤ ne ∧ i = .int .i64 k ∧ ∃ nq, wr = w1.drewN nq) (fun i _ => ne - (intOf i).toNat)
      case atStart => exact ⟨0, Nat.zero_le _, rfl, nq, rfl⟩
      case round =>
        obtain ⟨j, hj, rfl, nq2, rfl⟩ := hrel
        have HD2 : Hid (Below w1.heap.size w1 (w1.drewN nq2)) := Lib.hid ⟨rfl, rfl, rfl, Nat.le_refl _, fun _ _ => rfl⟩
        have HNQ2 : Hid (∀ n, ∃ nq', (w1.drewN nq2).drewN n = w1.drewN nq') := Lib.hid (fun n => ⟨nq2 + n, World.drewN_drewN ..⟩)
        have e2 : (w1.drewN nq2).cell? ⟨w.heap.size, 2, none⟩ = some (.slice q1 ne d1) := a2
        have g2 : (w1.drewN nq2).cell? ⟨w.heap.size + 1, 2, none⟩ = some (.slice q2 ne d2) := b2
        by_cases hlt : j < ne
        · have hje : j < E.length := by rw [← HNE.out]; exact hlt
          obtain ⟨g, off, rfl, hc⟩ := H3.out j (by first | exact hje | exact hlt)
          obtain ⟨g', off', rfl, hc'⟩ := H4.out j (by first | exact hje | exact hlt)
          obtain ⟨x0, x1⟩ := hc _ HD2.out
          obtain ⟨y0, y1⟩ := hc' _ HD2.out
          have hlt' : (j : Int) < (ne : Int) := by omega
          generalize E[j] = x at x0 x1 y0 y1
          have HE := fun W => neqE_self x.1 x.2 W
          obtain ⟨xa, xb⟩ := x
          simp only at x0 x1 y0 y1 HE
          clear hc hc' a0 a1 a2 b0 b1 b2 hje HD HNQ e1 g1
          generalize w1.drewN nq2 = wo at *
          go_wp2_with fail
          go_quiet (fail)
          go_wp2_with fail
          go_roundw
          case rel => exact ⟨j + 1, by omega, congrArg _ (wrap_s HEL.out hlt), HNQ2.out _⟩
          case measure =>
            rw [wrap_s HEL.out hlt]
            exact int_less hlt
        · obtain rfl : j = ne := by omega
          go_wp2_with fail
          go_ret
          exact ⟨rfl, HB.out.trans (HD2.out.mono HB.out.size)⟩
end Ss
end Go.Proofs.Ytmkilmglmeohmaa
