/- The reader's call that reads a whole text, and the call Parse. Conditions: those that each theorem names. -/
import Derived.Test.YtdooeedemgmpiaaDoorJsValue
namespace Go.Proofs.YtdooeedemgmpiaaDoor
set_option linter.unusedVariables false
open Go Go.RowKit Js

theorem JAt.drewN {S : Nat → Prop} {w : World} {j : J} {v : Value} (h : JAt S w j v) (n : Nat) : JAt S (w.drewN n) j v := JAt.frame (w := w) (w' := w.drewN n) (fun _ _ h => h) (fun _ _ _ => rfl) (Nat.le_refl _) _ _ h
theorem JAt.drew {S : Nat → Prop} {w : World} {j : J} {v : Value} (h : JAt S w j v) : JAt S w.drew j v := JAt.frame (w := w) (w' := w.drew) (fun _ _ h => h) (fun _ _ _ => rfl) (Nat.le_refl _) _ _ h
theorem JAt.alloc {S : Nat → Prop} {w : World} {j : J} {v : Value} (h : JAt S w j v) (o : Obj) : JAt S (w.alloc o) j v := JAt.frame (w := w) (w' := w.alloc o) (fun _ _ h => h) (fun _ _ hb => Below.heap_alloc _ _ _ hb) (by simp) _ _ h
theorem JAt.five_new {w w' : World} {j : J} {v : Value} (h : JAt (fun b => w.heap.size + 1 ≤ b) w' j v) (x0 x1 x2 x3 x4 : Value) : JAt (fun b => w.heap.size ≤ b) (Go.Proofs.YtdooeedemgmpiaaDoor.five w' w.heap.size x0 x1 x2 x3 x4) j v :=
  JAt.frame (w := w') (fun k _ hk => by omega) (fun k hk _ => five_block (by omega) _ _ _ _ _) (by unfold Go.Proofs.YtdooeedemgmpiaaDoor.five; simp) _ _ h
theorem ResAt.alloc {B : Nat} {w : World} (h : ResAt B w) (o : Obj) : ResAt B (w.alloc o) := (Below.heap_alloc _ _ _ h.lt).trans h
theorem whole_no {l r : Bs} {e : Int} (h : value 32 (skipB l) = .no e r) : whole l = .no e r := by unfold whole; rw [h]
theorem whole_ok {l r : Bs} {j : J} (h : value 32 (skipB l) = .ok j r) (hr : skipB r = []) : whole l = .ok j [] := by unfold whole; rw [h]; simp [hr]
theorem whole_more {l r : Bs} {j : J} (h : value 32 (skipB l) = .ok j r) (hr : skipB r ≠ []) : whole l = .no eJson (skipB r) := by unfold whole; rw [h]; simp [hr]
set_option maxHeartbeats 1000000 in
set_option maxRecDepth 100000 in
theorem whole_any (R : Nat) (s : ByteArray) (l : Bs) (w : World) (h : Rd R s l w) (hs : s.size ≤ 16777215) (G : Gl w) (hR : gN ≤ R) :
    Calls Tryd.prog 17 #[.pointer (some ⟨R, 0, none⟩)] w (ValP R s (whole l) w) := by
  have hs' : s.size ≤ maxLen := by unfold maxLen; omega
  have H := Lib.hid h
  have HLT := Lib.hid h.lt
  have GG := Lib.hid G
  have HR := Lib.hid hR
  clear h G hR
  go_enter Tryd.func17, Tryd.ntmps17
  go_wp2_with fail
  refine (skip_any R s _ l _ (H.out.alloc zero5) hs' (by decide)).mono ?_
  rw [skips_blank]
  rintro e w2 ⟨rfl, hg2, hr2⟩
  have HG2 : Hid (Gr (one' R) w w2) := Lib.hid (((Gr.refl _ w).alloc _).trans hg2)
  have HA2 : Hid (ResAt w.heap.size w2) := Lib.hid (ResAt.gr (w := w.alloc zero5) (heap_alloc_new _ _) hg2 (by have := HLT.out; omega))
  have HSZ : Hid (w.heap.size + 1 ≤ w2.heap.size) := Lib.hid (by have := hg2.size; simpa using this)
  have HV := Lib.hid (value_any 32 (Nat.le_refl _) R s (skipB l) w2 hr2 hs (GG.out.one HG2.out HR.out) HR.out)
  rw [show (33 : Int) - ((32 : Nat) : Int) = 1 from rfl] at HV
  clear hg2 hr2
  go_wp2_with fail
  refine HV.out.mono ?_
  rintro e w4 ⟨v, j, rfl, hj, hjx, hg4, hr4⟩
  have hj' : JAt (fun b => w.heap.size + 1 ≤ b) w4 j v := JAt.frame (fun b _ hb => Nat.le_trans HSZ.out hb) (fun _ _ _ => rfl) (Nat.le_refl _) _ _ hj
  have HG4 : Hid (Gr (one' R) w w4) := Lib.hid (HG2.out.trans hg4)
  have HA4 : Hid (ResAt w.heap.size w4) := Lib.hid (HA2.out.gr hg4 (by have := HLT.out; omega))
  clear hj hg4
  have hS := value_sound 32 (skipB l)
  obtain ⟨np, nc, lp, lc, rfl, -, -⟩ := hj'.five
  generalize hy : j.names.length = y1 at hj' ⊢
  generalize hz : j.list.length = y2 at hj' ⊢
  generalize hk : j.kind = q1 at hj' ⊢
  generalize hm : j.num = q2 at hj' ⊢
  generalize ht : j.text = q3 at hj' ⊢
  clear hy hz hk hm ht
  have HJ := Lib.hid hj'
  clear hj'
  cases hx : value 32 (skipB l) with
  | no e r =>
    rw [hx] at hr4 hS
    have hE : isErr e := hS.err e r rfl
    have he : ¬ e = 0 := by unfold isErr at hE; omega
    have HR4 : Hid (Rd R s r w4) := Lib.hid hr4
    have HN := Lib.hid (whole_no hx)
    have d0 := fun o => (HA4.out.alloc o).cells.1
    have d1 := fun o => (HA4.out.alloc o).cells.2.1
    have d2 := fun o => (HA4.out.alloc o).cells.2.2.1
    have d3 := fun o => (HA4.out.alloc o).cells.2.2.2.1
    have d4 := fun o => (HA4.out.alloc o).cells.2.2.2.2.1
    have k0 := fun o => (HA4.out.alloc o).cells.2.2.2.2.2.1
    have k1 := fun o => (HA4.out.alloc o).cells.2.2.2.2.2.2.1
    have k2 := fun o => (HA4.out.alloc o).cells.2.2.2.2.2.2.2.1
    have k3 := fun o => (HA4.out.alloc o).cells.2.2.2.2.2.2.2.2.1
    have k4 := fun o => (HA4.out.alloc o).cells.2.2.2.2.2.2.2.2.2
    clear hr4 hS hE hx hjx
    simp only [Js.R.err]
    go_wp2_with fail
    refine bodyPost_ret (v := .tuple #[.agg #[.int .i64 0, .int .i64 0, .string ⟨#[]⟩, .slice none 0 0, .slice none 0 0], .int .i64 e]) (by simp [results, Tryd.results17, go_sem, d0, d1, d2, d3, d4]) rfl ?_
    rw [HN.out]
    exact val_done (x := .no e r) (JAt.leaf _ _ 0 0 ⟨#[]⟩) (HG4.out.alloc _) (HR4.out.alloc _) HLT.out (fun j0 r h => nomatch h)
  | ok j0 r =>
    have hj0 : j = j0 := hjx j0 r hx
    subst hj0
    rw [hx] at hr4
    have HR4 : Hid (Rd R s r w4) := Lib.hid hr4
    have HX := Lib.hid hx
    clear hr4 hS hx hjx
    simp only [Js.R.err]
    go_wp2_with fail
    obtain ⟨o, ho⟩ : ∃ o, o = Obj.cells #[.int .i64 q1, .int .i64 q2, .string q3, .slice np y1 nc, .slice lp y2 lc] 25 := ⟨_, rfl⟩
    rw [← ho]
    refine (skip_any R s _ r _ (HR4.out.alloc o) hs' (by decide)).mono ?_
    rw [skips_blank]
    rintro e w6 ⟨rfl, hg6, hr6⟩
    have HG6 : Hid (Gr (one' R) w w6) := Lib.hid ((HG4.out.alloc o).trans hg6)
    have HA6 : ResAt w.heap.size w6 := (HA4.out.alloc o).gr hg6 (by have := HLT.out; omega)
    have HB6 : w6.heap[w4.heap.size]? = some o := (hg6.block _ (by simp) (fun hx => by have := HR4.out.lt; unfold one' at hx; omega)).trans (heap_alloc_new _ _)
    rw [ho] at HB6
    have HJ6 := Lib.hid (JAt.frame (S' := fun b => w.heap.size + 1 ≤ b) (w' := w6) (fun b _ hb => hb) (fun b hb hlt => (hg6.block b (by simp; omega) (fun hx => by have := HLT.out; unfold one' at hx; omega)).trans (Below.heap_alloc _ _ _ hlt)) (Nat.le_trans (by simp) hg6.size) _ _ HJ.out)
    have e0 : w6.cell? ⟨w4.heap.size, 0, none⟩ = some (.int .i64 q1) := by simp [World.cell?, HB6]
    have e1 : w6.cell? ⟨w4.heap.size, 1, none⟩ = some (.int .i64 q2) := by simp [World.cell?, HB6]
    have e2 : w6.cell? ⟨w4.heap.size, 2, none⟩ = some (.string q3) := by simp [World.cell?, HB6]
    have e3 : w6.cell? ⟨w4.heap.size, 3, none⟩ = some (.slice np y1 nc) := by simp [World.cell?, HB6]
    have e4 : w6.cell? ⟨w4.heap.size, 4, none⟩ = some (.slice lp y2 lc) := by simp [World.cell?, HB6]
    clear HB6 ho
    have HR6 := Lib.hid hr6
    obtain ⟨c0, c1, f1⟩ := hr6.cells
    obtain ⟨d0, d1, d2, d3, d4, k0, k1, k2, k3, k4⟩ := HA6.cells
    have hle := hr6.le
    clear hg6 hr6 HA6 f1
    by_cases hn : skipB r = []
    · have HN := Lib.hid (whole_ok HX.out hn)
      rw [hn] at c1 HR6
      rw [show s.size - ([] : Bs).length = s.size from rfl] at c1
      clear hn hle
      go_wp2
      go_quiet (fail)
      go_wp2
      refine bodyPost_ret (v := .tuple #[.agg #[.int .i64 q1, .int .i64 q2, .string q3, .slice np y1 nc, .slice lp y2 lc], .int .i64 0]) (by simp [results, Tryd.results17, go_sem, d0, d1, d2, d3, d4]) rfl ?_
      rw [HN.out]
      exact val_done (x := .ok j []) (HJ6.out.drewN _) (HG6.out.drewN _) (HR6.out.drewN _) HLT.out (fun j0 r h => by injection h)
    · have HN := Lib.hid (whole_more HX.out hn)
      have hpos : 0 < (skipB r).length := by
        cases hq : skipB r with
        | nil => exact absurd hq hn
        | cons c l => simp
      generalize hk : s.size - (skipB r).length = k at c1
      have hk1 : (k : Int) < s.size := by omega
      clear hn hle hk
      go_wp2
      go_quiet (fail)
      go_wp2
      refine bodyPost_ret (v := .tuple #[.agg #[.int .i64 0, .int .i64 0, .string ⟨#[]⟩, .slice none 0 0, .slice none 0 0], .int .i64 30]) (by simp [results, Tryd.results17, go_sem, d0, d1, d2, d3, d4]) rfl ?_
      rw [HN.out]
      exact val_done (x := .no eJson (skipB r)) (JAt.leaf _ _ 0 0 ⟨#[]⟩) (HG6.out.drewN _) (HR6.out.drewN _) HLT.out (fun j0 r h => nomatch h)
theorem Rd.new (s : ByteArray) (w : World) : Rd w.heap.size s s.data.toList (w.alloc (.cells #[.string s, .int .i64 0] 44)) := by
  have e : s.data.toList.length = s.size := by simp
  refine ⟨by rw [e]; simp, Nat.le_of_eq e, ?_⟩
  rw [e, Nat.sub_self]
  exact heap_alloc_new _ _
def ParseP (s : ByteArray) (w : World) (e : Ending) (w' : World) : Prop :=
  ∃ v, e = .returned (.tuple #[v, .int .i64 (parse s).2.1, .int .i64 (parse s).2.2]) ∧ JAt (fun b => w.heap.size ≤ b) w' (parse s).1 v ∧ Gr none' w w'
theorem parse_no {s : ByteArray} {r : Bs} {e : Int} (h : whole s.data.toList = .no e r) : parse s = (zero, ((s.size - r.length : Nat) : Int), e) := by unfold parse; rw [h]
theorem parse_ok {s : ByteArray} {r : Bs} {j : J} (h : whole s.data.toList = .ok j r) : parse s = (j, 0, 0) := by unfold parse; rw [h]
theorem all_sound (l : Bs) (e : Int) (r : Bs) (h : whole l = .no e r) : isErr e := by
  unfold whole at h
  cases hx : value 32 (skipB l) with
  | no e' r' => rw [hx] at h; injection h with h1 h2; rw [← h1]; exact (value_sound 32 (skipB l)).err e' r' hx
  | ok j r' =>
    rw [hx] at h
    simp only at h
    split at h
    · cases h
    · injection h with h1 h2; rw [← h1]; exact err_json
set_option maxHeartbeats 1000000 in
set_option maxRecDepth 100000 in
theorem parse_any (s : ByteArray) (w : World) (hs : s.size ≤ 16777215) (G : Gl w) :
    Calls Tryd.prog 13 #[.string s] w (ParseP s w) := by
  have hs' : s.size ≤ maxLen := by unfold maxLen; omega
  have HV := Lib.hid (whole_any (w.heap.size + 1) s s.data.toList ((w.alloc zero5).alloc (.cells #[.string s, .int .i64 0] 44)) (by have := Rd.new s (w.alloc zero5); simpa using this) hs ((G.alloc _).alloc _) (by have := G.size; omega))
  have HA : Hid (ResAt w.heap.size ((w.alloc zero5).alloc (.cells #[.string s, .int .i64 0] 44))) := Lib.hid (ResAt.alloc (heap_alloc_new _ _) _)
  clear G
  unfold zero5 at HV HA
  go_enter Tryd.func13, Tryd.ntmps13
  go_wp2_with fail
  refine HV.out.mono ?_
  rintro e w4 ⟨v, j, rfl, hj, hjx, hg4, hr4⟩
  have HA4 : Hid (ResAt w.heap.size w4) := Lib.hid (HA.out.gr hg4 (by omega))
  have HG4 : Hid (Gr none' w w4) := Lib.hid ((((Gr.refl none' w).alloc zero5).alloc _).trans' hg4 (fun b hb hx => by unfold one' at hx; unfold none'; omega))
  have hj' : JAt (fun b => w.heap.size + 1 ≤ b) w4 j v := JAt.frame (fun b _ hb => by simp at hb; omega) (fun _ _ _ => rfl) (Nat.le_refl _) _ _ hj
  have HLT : Hid (w.heap.size + 1 < w4.heap.size) := Lib.hid hr4.lt
  clear hj hg4
  obtain ⟨np, nc, lp, lc, rfl, -, -⟩ := hj'.five
  generalize hy : j.names.length = y1 at hj' ⊢
  generalize hz : j.list.length = y2 at hj' ⊢
  generalize hk : j.kind = q1 at hj' ⊢
  generalize hm : j.num = q2 at hj' ⊢
  generalize ht : j.text = q3 at hj' ⊢
  clear hy hz hk hm ht
  have HJ := Lib.hid hj'
  clear hj'
  have d0 := fun o => (HA4.out.alloc o).cells.1
  have d1 := fun o => (HA4.out.alloc o).cells.2.1
  have d2 := fun o => (HA4.out.alloc o).cells.2.2.1
  have d3 := fun o => (HA4.out.alloc o).cells.2.2.2.1
  have d4 := fun o => (HA4.out.alloc o).cells.2.2.2.2.1
  have k0 := fun o => (HA4.out.alloc o).cells.2.2.2.2.2.1
  have k1 := fun o => (HA4.out.alloc o).cells.2.2.2.2.2.2.1
  have k2 := fun o => (HA4.out.alloc o).cells.2.2.2.2.2.2.2.1
  have k3 := fun o => (HA4.out.alloc o).cells.2.2.2.2.2.2.2.2.1
  have k4 := fun o => (HA4.out.alloc o).cells.2.2.2.2.2.2.2.2.2
  cases hx : whole s.data.toList with
  | no e r =>
    rw [hx] at hr4
    have hE : isErr e := all_sound _ e r hx
    have he : ¬ e = 0 := by unfold isErr at hE; omega
    have HN := Lib.hid (parse_no hx)
    have c0 := fun o => (hr4.alloc o).cells.1
    have c1 := fun o => (hr4.alloc o).cells.2.1
    simp only [Js.R.rest] at c1
    generalize hk : ((s.size - r.length : Nat) : Int) = k at c1 HN
    clear hr4 hE hx hjx hk
    simp only [Js.R.err]
    go_wp2
    go_region_held3 (fun x => x.cell? ⟨w.heap.size + 1, 1, none⟩ = some (.int .i64 k)) (go_keep) (fail)
    go_wp2
    refine bodyPost_ret (v := .tuple #[.agg #[.int .i64 0, .int .i64 0, .string ⟨#[]⟩, .slice none 0 0, .slice none 0 0], .int .i64 k, .int .i64 e]) (by simp [results, Tryd.results13, go_sem, d0, d1, d2, d3, d4]) rfl ?_
    refine ⟨_, by rw [HN.out], ?_, ((HG4.out.alloc _).five (Nat.le_refl _) _ _ _ _ _).drew⟩
    rw [HN.out]
    exact JAt.drew (JAt.leaf _ _ 0 0 ⟨#[]⟩)
  | ok j0 r =>
    have hj0 : j = j0 := hjx j0 r hx
    subst hj0
    have HN := Lib.hid (parse_ok hx)
    clear hr4 hx hjx
    simp only [Js.R.err]
    go_wp2
    refine bodyPost_ret (v := .tuple #[.agg #[.int .i64 q1, .int .i64 q2, .string q3, .slice np y1 nc, .slice lp y2 lc], .int .i64 0, .int .i64 0]) (by simp [results, Tryd.results13, go_sem, d0, d1, d2, d3, d4]) rfl ?_
    refine ⟨_, by rw [HN.out], ?_, (HG4.out.alloc _).five (Nat.le_refl _) _ _ _ _ _⟩
    rw [HN.out]
    exact JAt.five_new (HJ.out.alloc _) _ _ _ _ _
end Go.Proofs.YtdooeedemgmpiaaDoor
