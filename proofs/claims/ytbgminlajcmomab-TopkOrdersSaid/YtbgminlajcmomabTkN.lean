/- Add's steps; a best that is none; the law's awake. Conditions: those that each theorem names. -/
import Derived.Test.YtbgminlajcmomabTkM
namespace Go.Proofs.Ytbgminlajcmomab
set_option linter.unusedVariables false
open Go Go.RowKit Go.Shelf Go.Sort Go.Maps Tk
section
variable {w w' : World} {base B X M : Nat} {m : Int} {K : Nat} {rv : Value} {R : List Ht}
theorem st_base (H : BestAt w base B X M m K rv R R) : ∀ b, St B M rv b → base ≤ b := by
  rintro b (rfl | rfl | h)
  · exact H.bB
  · exact H.bM
  · exact (H.own.lt b h).1
theorem st_lt (H : BestAt w base B X M m K rv R R) : ∀ b, St B M rv b → b < w.heap.size := by
  rintro b (rfl | rfl | h)
  · exact H.ltB
  · exact H.ltM
  · exact (H.own.lt b h).2
theorem best_below (H : BestAt w base B X M m K rv R R) (g : Gr (St B M rv) w w') (hb : base ≤ w.heap.size) : RowKit.Below base w w' :=
  g.below (fun b hb h => absurd (st_base H b h) (Nat.not_le.2 hb)) hb
theorem add_step (h : Ht) (H : BestAt w base B X M m K rv R R) (ok : OkH h) (hl : (R.length + 1) * 16 ≤ 140737488355328) (hbase : base ≤ w.heap.size) {A A' : List Ht} {r : Bool} (hA : srt m R = A) (hA' : addW m K A h = (A', r)) :
    Calls Try.prog 16 #[.pointer (some ⟨B, 0, none⟩), hv h] w fun e w' => e = .returned (.bool r) ∧ ∃ rv' R', BestAt w' base B X M m K rv' R' R' ∧ srt m R' = A' ∧ Gr (St B M rv) w w' ∧ ∀ b, b < w.heap.size → St B M rv' b → St B M rv b := by
  refine (add_any h H ok hl hbase).mono ?_
  rintro e w' ⟨rv', R', rfl, H', hs, hg, hst⟩
  subst hA
  rw [hA'] at hs ⊢
  exact ⟨rfl, rv', R', H', hs, hg, hst⟩
theorem srt_len {A : List Ht} (h : srt m R = A) : R.length = A.length := by rw [← h, (srt_perm m R).length_eq]
end
/-! ### A best that is none -/
theorem len_nil (w : World) : Calls Try.prog 17 #[.pointer none] w fun e w' => e = .returned (.int .i64 0) ∧ w' = w := by
  go_enter Try.func17, Try.ntmps17
  go_wp2_with fail
  go_ret
  exact ⟨rfl, rfl⟩
set_option maxRecDepth 100000 in
theorem full_nil (w : World) : Calls Try.prog 18 #[.pointer none] w fun e w' => e = .returned (.bool false) ∧ RowKit.Below w.heap.size w w' := by
  have mixed : Try.prog.follows .mixedOrders = true := by kernel_rfl
  go_enter Try.func18, Try.ntmps18
  go_wp2_with fail
  go_region
  go_wp2_with fail
  go_ret
  exact ⟨rfl, (Gn.refl w).drew.below⟩
set_option maxRecDepth 100000 in
theorem worst_nil (w : World) : Calls Try.prog 19 #[.pointer none] w fun e w' => e = .returned (.tuple #[hv (0, 0), .bool false]) ∧ RowKit.Below w.heap.size w w' := by
  have HB := Lib.hid (fun o => fresh_alloc w o)
  have HL := Lib.hid (fun W => len_nil W)
  go_enter Try.func19, Try.ntmps19
  go_wp2_with (go_at_call 17; refine (HL.out _).mono ?_; rintro e w1 ⟨rfl, rfl⟩)
  obtain ⟨d0, d1⟩ := two_cells (heap_last w (hobj (0, 0)))
  exact bodyPost_ret (v := .tuple #[.agg #[.int .i64 0, .int .i64 0], .bool false]) (by simp [results, Try.results19, go_sem, d0, d1]) rfl ⟨rfl, HB.out _⟩
theorem list_nil (w : World) : Calls Try.prog 20 #[.pointer none] w fun e w' => e = .returned (.slice none 0 0) ∧ w' = w := by
  go_enter Try.func20, Try.ntmps20
  go_wp2_with fail
  go_ret
  exact ⟨rfl, rfl⟩
theorem add_nil (h : Ht) (w : World) : Calls Try.prog 16 #[.pointer none, hv h] w fun e w' => e = .returned (.bool false) ∧ RowKit.Below w.heap.size w w' := by
  have HB := Lib.hid (fun o => fresh_alloc w o)
  obtain ⟨hi, hs⟩ := h
  go_enter Try.func16, Try.ntmps16
  go_wp2_with fail
  go_ret
  exact ⟨rfl, HB.out _⟩
/-! ### awake -/
theorem ok_small (a b : Int) (h : (Lit.int .i64 a).wf = true) (h' : (Lit.int .i64 b).wf = true) : OkH (a, b) := ⟨h, h'⟩
theorem two_hits (w : World) (a b : Ht) (W : World) (hW : W = w.alloc (.cells #[.int .i64 a.1, .int .i64 a.2, .int .i64 b.1, .int .i64 b.2] 23)) : HsAt W (.slice (some ⟨w.heap.size, 0, none⟩) 2 2) [a, b] := by
  subst hW
  have hl := heap_last w (.cells #[.int .i64 a.1, .int .i64 a.2, .int .i64 b.1, .int .i64 b.2] 23)
  refine .inr ⟨w.heap.size, 0, 2, rfl, by simp, fun Y hY j hj => ?_⟩
  have hh := hY.trans hl
  match j, hj with
  | 0, _ => exact ⟨by rw [Lib.cell_of_heap hh]; rfl, by rw [Lib.cell_of_heap hh]; rfl⟩
  | 1, _ => exact ⟨by rw [Lib.cell_of_heap hh]; rfl, by rw [Lib.cell_of_heap hh]; rfl⟩
set_option maxHeartbeats 4000000 in
set_option maxRecDepth 100000 in
theorem awake_any (w : World) : Calls Try.prog 13 #[] w fun e w' => e = .returned (.bool true) ∧ RowKit.Below w.heap.size w w' := by
  have HN := Lib.hid (new_any 1 2 w)
  have s0 : srt 1 ([] : List Ht) = [] := by simp [srt]
  have a1 : addW 1 2 ([] : List Ht) (1, 9) = ([(1, 9)], true) := by decide +kernel
  have a2 : addW 1 2 ([(1, 9)] : List Ht) (2, 3) = ([(2, 3), (1, 9)], true) := by decide +kernel
  have a3 : addW 1 2 ([(2, 3), (1, 9)] : List Ht) (3, 5) = ([(2, 3), (3, 5)], true) := by decide +kernel
  have a4 : addW 1 2 ([(2, 3), (3, 5)] : List Ht) (4, 5) = ([(2, 3), (3, 5)], false) := by decide +kernel
  have lt2 : ltH 2 ((0, 2) : Ht) (0, 1) = true := by decide +kernel
  have HA1 := Lib.hid a1
  have HA2 := Lib.hid a2
  have HA3 := Lib.hid a3
  have HA4 := Lib.hid a4
  have HS0 := Lib.hid s0
  have HLT := Lib.hid (fun W => less_any 2 (0, 2) (0, 1) W)
  rw [lt2] at HLT
  clear a1 a2 a3 a4 s0 lt2
  go_enter Try.func13, Try.ntmps13
  go_wp2_with fail
  refine HN.out.mono ?_
  rintro e w1 ⟨hc, hb⟩
  rcases hc with ⟨_, _, hx⟩ | ⟨hn, _⟩
  · obtain ⟨B, X, M, rfl, H⟩ := hx (by decide)
    have HB1 := Lib.hid hb
    have H1 : BestAt w1 w.heap.size B X M 1 2 (.slice none 0 0) [] [] := H
    have C1 := Lib.hid (add_step (1, 9) H1 ⟨by decide, by decide⟩ (by decide) hb.size HS0.out HA1.out)
    have HH1 := Lib.hid H1
    clear hx H hb H1
    go_wp2_with fail
    refine C1.out.mono ?_
    rintro e w2 ⟨rfl, rv2, R2, H2, s2, g2, -⟩
    have HB2 := Lib.hid (HB1.out.trans (best_below HH1.out g2 HB1.out.size))
    have C2 := Lib.hid (add_step (2, 3) H2 ⟨by decide, by decide⟩ (by rw [srt_len s2]; decide) HB2.out.size s2 HA2.out)
    have HH2 := Lib.hid H2
    clear H2 s2 g2
    go_wp2_with fail
    refine C2.out.mono ?_
    rintro e w3 ⟨rfl, rv3, R3, H3, s3, g3, -⟩
    have HB3 := Lib.hid (HB2.out.trans (best_below HH2.out g3 HB2.out.size))
    have C3 := Lib.hid (add_step (3, 5) H3 ⟨by decide, by decide⟩ (by rw [srt_len s3]; decide) HB3.out.size s3 HA3.out)
    have HH3 := Lib.hid H3
    clear H3 s3 g3
    go_wp2_with fail
    refine C3.out.mono ?_
    rintro e w4 ⟨rfl, rv4, R4, H4, s4, g4, -⟩
    have HB4 := Lib.hid (HB3.out.trans (best_below HH3.out g4 HB3.out.size))
    have C4 := Lib.hid (list_any H4 (by rw [srt_len s4]; decide))
    have HH4 := Lib.hid H4
    have HS4 := Lib.hid s4
    clear H4 s4 g4
    go_wp2_with fail
    refine C4.out.mono ?_
    rintro e w5 ⟨u, rfl, ho, hb5⟩
    rw [HS4.out] at ho
    have HB5 := Lib.hid (HB4.out.trans (hb5.mono HB4.out.size))
    have HU := Lib.hid (own_hits ho)
    have H5 := Lib.hid (HH4.out.below hb5)
    have hb6 := fresh_alloc w5 (.cells #[.int .i64 2, .int .i64 3, .int .i64 3, .int .i64 5] 23)
    have C5 := Lib.hid (same_any [(2, 3), (3, 5)] [(2, 3), (3, 5)] _ _ _ (HU.out.below hb6) (two_hits w5 (2, 3) (3, 5) _ rfl) (by decide))
    rw [show decide (([(2, 3), (3, 5)] : List Ht) = [(2, 3), (3, 5)]) = true by decide] at C5
    have HB6 := Lib.hid (HB5.out.trans (hb6.mono HB5.out.size))
    have H6 := Lib.hid (H5.out.below hb6)
    clear ho hb5 hb6
    go_wp2_with fail
    refine C5.out.mono ?_
    rintro e w7 ⟨rfl, g7⟩
    have HB7 := Lib.hid (HB6.out.trans (g7.below.mono HB6.out.size))
    have H7 := Lib.hid (H6.out.gn g7)
    have C6 := Lib.hid (add_step (4, 5) H7.out ⟨by decide, by decide⟩ (by rw [srt_len HS4.out]; decide) HB7.out.size HS4.out HA4.out)
    clear g7
    go_wp2_with fail
    refine C6.out.mono ?_
    rintro e w8 ⟨rfl, rv8, R8, H8, s8, g8, -⟩
    have HB8 := Lib.hid (HB7.out.trans (best_below H7.out g8 HB7.out.size))
    have C7 := Lib.hid (full_any H8)
    rw [decide_eq_true (show R8.length = 2 by rw [srt_len s8]; rfl)] at C7
    clear H8 s8 g8
    go_wp2_with fail
    refine C7.out.mono ?_
    rintro e w9 ⟨rfl, g9⟩
    have HB9 := Lib.hid (HB8.out.trans (g9.below.mono HB8.out.size))
    clear g9
    go_wp2_with fail
    refine (HLT.out _).mono ?_
    rintro e w10 ⟨rfl, g10⟩
    have HB10 := Lib.hid (HB9.out.trans (g10.below.mono HB9.out.size))
    clear g10
    go_wp2_with fail
    go_ret
    exact ⟨rfl, HB10.out⟩
  · exact absurd ⟨by decide, by decide⟩ hn
end Go.Proofs.Ytbgminlajcmomab
