/- topk's Len, Full, Worst, List. Conditions: those that each theorem names. -/
import Derived.Test.YtbgminlajcmomabTkI
import Derived.Test.YtbgminlajcmomabTkE
import Derived.StillTailTactics
namespace Go.Proofs.Ytbgminlajcmomab
set_option linter.unusedVariables false
open Go Go.RowKit Go.Shelf Go.Sort Go.Maps Tk
section
variable {w : World} {base B X M : Nat} {m : Int} {K : Nat} {rv : Value} {R Q : List Ht}
set_option maxHeartbeats 1000000 in
theorem len_any (h : BestAt w base B X M m K rv R Q) : Calls Try.prog 17 #[.pointer (some ⟨B, 0, none⟩)] w fun e w' => e = .returned (.int .i64 R.length) ∧ w' = w := by
  obtain ⟨c0, c1, c2, c3, c4⟩ := h.cells
  obtain ⟨p, c, rfl⟩ := h.form
  clear h
  go_enter Try.func17, Try.ntmps17
  go_wp2_with fail
  go_ret
  exact ⟨rfl, rfl⟩
theorem BestAt.gn {w' : World} (h : BestAt w base B X M m K rv R Q) (k : Gn w w') : BestAt w' base B X M m K rv R Q := h.below k.below
set_option maxHeartbeats 1000000 in
set_option maxRecDepth 100000 in
theorem full_any (h : BestAt w base B X M m K rv R Q) : Calls Try.prog 18 #[.pointer (some ⟨B, 0, none⟩)] w fun e w' => e = .returned (.bool (decide (R.length = K))) ∧ Gn w w' := by
  have mixed : Try.prog.follows .mixedOrders = true := by kernel_rfl
  have hq := fun n os => h.gn (w' := grow (w.drewN n) os) ⟨n, os, rfl⟩
  have HL := Lib.hid (fun n os => (len_any (hq n os)).mono (fun e w' ⟨he, hw⟩ => (⟨he, hw ▸ Gn.refl _⟩ : e = Ending.returned (.int .i64 R.length) ∧ Gn (grow (w.drewN n) os) w')))
  have f1 := fun n os => (hq n os).cells.2.1
  obtain ⟨r, hr⟩ : ∃ r, r = decide (R.length = K) := ⟨_, rfl⟩
  have he : ((R.length : Int) == (K : Int)) = r := by rw [hr, Bool.eq_iff_iff]; simp; omega
  rw [← hr]
  clear hq h hr
  go_enter Try.func18, Try.ntmps18
  go_wp2_with fail
  go_quiet_grown (first | (go_at_call 17; refine Calls.grown_of (HL.out _ _)))
  dsimp only
  have HG : Hid (Gn w (grow (w.drewN nq) osq)) := Lib.hid ⟨nq, osq, rfl⟩
  clear f1
  generalize grow (w.drewN nq) osq = w1 at *
  go_wp2
  go_ret
  exact ⟨rfl, HG.out⟩
set_option maxHeartbeats 1000000 in
set_option maxRecDepth 100000 in
theorem worst_any (h : BestAt w base B X M m K rv R Q) : Calls Try.prog 19 #[.pointer (some ⟨B, 0, none⟩)] w fun e w' => e = .returned (.tuple #[hv (if R.length = 0 then (0, 0) else R[0]!), .bool (decide (R.length ≠ 0))]) ∧ RowKit.Below w.heap.size w w' := by
  have HB := Lib.hid (fun o => fresh_alloc w o)
  have hq := fun o => h.below (fresh_alloc w o)
  have HL := Lib.hid (fun o => len_any (hq o))
  have f3 := fun o => (hq o).cells.2.2.2.1
  by_cases h0 : R.length = 0
  · have hz : ((R.length : Int) == 0) = true := by simp [h0]
    rw [if_pos h0]
    obtain ⟨p, c, rfl⟩ := h.form
    clear h hq
    rw [h0] at HL f3 ⊢
    go_enter Try.func19, Try.ntmps19
    go_wp2_with (go_at_call 17; refine (HL.out _).mono ?_; rintro e w1 ⟨rfl, rfl⟩)
    obtain ⟨d0, d1⟩ := two_cells (heap_last w (hobj (0, 0)))
    refine bodyPost_ret (v := .tuple #[.agg #[.int .i64 0, .int .i64 0], .bool false]) (by simp [results, Try.results19, go_sem, d0, d1]) rfl ⟨rfl, HB.out _⟩
  · have hz : ((R.length : Int) == 0) = false := by rw [beq_eq_false_iff_ne]; omega
    have hp : 0 < R.length := by omega
    rw [if_neg h0]
    obtain ⟨g, cap, rfl, hb, hg, hc⟩ := own_at h.own hp
    obtain ⟨a0, a1⟩ := hCells_at R 0 hp
    have b0 : ∀ o, (w.alloc o).cell? ⟨g, 0, none⟩ = some (.int .i64 (R[0]!).1) := fun o => by
      rw [get!_of hp]; exact hc (w.alloc o) (heap_old w o hg) 0 _ (by omega) a0
    have b1 : ∀ o, (w.alloc o).cell? ⟨g, 1, none⟩ = some (.int .i64 (R[0]!).2) := fun o => by
      rw [get!_of hp]; exact hc (w.alloc o) (heap_old w o hg) 1 _ (by omega) a1
    have hgz : ¬ g = w.heap.size := by omega
    generalize R[0]! = x at *
    obtain ⟨xi, xs⟩ := x
    simp only at b0 b1
    have hpz : (0 : Int) < (R.length : Int) := by omega
    have hdec : decide (R.length ≠ 0) = true := decide_eq_true h0
    rw [hdec]
    clear h hq hc a0 a1 hdec
    generalize R.length = n at *
    go_enter Try.func19, Try.ntmps19
    go_wp2_with (go_at_call 17; refine (HL.out _).mono ?_; rintro e w1 ⟨rfl, rfl⟩)
    obtain ⟨d0, d1⟩ := two_cells (heap_last w (hobj (xi, xs)))
    refine bodyPost_ret (v := .tuple #[.agg #[.int .i64 xi, .int .i64 xs], .bool true]) (by simp [results, Try.results19, go_sem, d0, d1]) rfl ⟨rfl, HB.out _⟩
set_option maxHeartbeats 1000000 in
set_option maxRecDepth 100000 in
theorem list_any (h : BestAt w base B X M m K rv R Q) (hl : R.length * 16 ≤ 140737488355328) : Calls Try.prog 20 #[.pointer (some ⟨B, 0, none⟩)] w fun e w' => ∃ u, e = .returned u ∧ OwnH w' w.heap.size u (srt m R) ∧ RowKit.Below w.heap.size w w' := by
  have mixed : Try.prog.follows .mixedOrders = true := by kernel_rfl
  have h1 := h.gn (Gn.refl w).drew
  obtain ⟨c0, c1, c2, c3, c4⟩ := h.cells
  have HS := Lib.hid (sort_any m R rv w.drew (own_hsP h1.own) hl)
  rw [show sortH m R = srt m R by unfold sortH; rw [if_pos h.kn]] at HS
  obtain ⟨p, c, rfl⟩ := h.form
  clear h h1 c1 c2 c4
  go_enter Try.func20, Try.ntmps20
  go_wp2_with fail
  go_still_tail 9, (by kernel_rfl)
  change wpList _ _ _ _ _ w.drew
  go_wp2_with (go_at_call 8; refine HS.out.mono ?_; rintro e w1 ⟨u, rfl, ho, hb⟩)
  go_ret
  exact ⟨_, rfl, ho, (Gn.refl w).drew.below.trans hb⟩
end
end Go.Proofs.Ytbgminlajcmomab
