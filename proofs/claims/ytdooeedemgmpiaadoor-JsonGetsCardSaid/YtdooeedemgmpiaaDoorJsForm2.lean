/- The call formed at numbers, texts, objects; the call Check. Conditions: those that each theorem names. -/
import Derived.Test.YtdooeedemgmpiaaDoorJsFormed
namespace Go.Proofs.YtdooeedemgmpiaaDoor
set_option linter.unusedVariables false
open Go Go.RowKit Js

set_option maxHeartbeats 2000000 in
set_option maxRecDepth 100000 in
theorem formed_int (n : Int) (t : ByteArray) (ns : List ByteArray) (l : List J) : FormedOk (.mk 3 n t ns l) := by
  intro S v w h hfit G
  unfold JAt at h
  obtain ⟨np, nc, lp, lc, rfl, hn, hk⟩ := h
  unfold Fits at hfit
  obtain ⟨h1, h2, h3, h4, h5⟩ := hfit
  have HE : Hid (Js.formed (.mk 3 n t ns l) = (decide (-9007199254740991 ≤ n) && decide (n ≤ 9007199254740991) && decide (t = ByteArray.empty) && ns.isEmpty && l.isEmpty)) := Lib.hid (by rw [Js.formed]; rfl)
  rw [empty_toList, isEmpty_len, isEmpty_len'] at HE
  clear hn hk G h4 h5
  by_cases g1 : -9007199254740991 ≤ n
  · rw [decide_eq_true g1] at HE
    by_cases g2 : n ≤ 9007199254740991
    · rw [decide_eq_true g2] at HE
      go_enter Tryd.func22, Tryd.ntmps22
      go_wp2_with fail
      have b0 := heap_alloc_new w (.cells #[.int .i64 3, .int .i64 n, .string t, .slice np ns.length nc, .slice lp l.length lc] 25)
      go_wp2
      go_region_held3 (fun x => x.cell? ⟨w.heap.size, 0, none⟩ = some (.int .i64 3) ∧ x.cell? ⟨w.heap.size, 1, none⟩ = some (.int .i64 n) ∧ x.cell? ⟨w.heap.size, 2, none⟩ = some (.string t) ∧ x.cell? ⟨w.heap.size, 3, none⟩ = some (.slice np ns.length nc) ∧ x.cell? ⟨w.heap.size, 4, none⟩ = some (.slice lp l.length lc)) (go_keep) (fail)
      have HG5 : ∀ o : Obj, Gr none' w ((w.alloc o).alloc o).drew := fun o => (((Gr.refl _ w).alloc _).alloc _).drew
      have HG6 : ∀ (o : Obj) x i, Gr none' w (((w.alloc o).alloc o).drew.setCell ⟨w.heap.size + 1, i, none⟩ x) := fun o x i => Gr.setCell (S := none') (a := ⟨w.heap.size + 1, i, none⟩) (HG5 o) (fun h => absurd h (by show ¬ w.heap.size + 1 < w.heap.size; omega)) x
      have H5 := Lib.hid HG5
      have H6 := Lib.hid HG6
      clear HG5 HG6
      go_wp2_with fail
      all_goals go_ret
      all_goals refine ⟨?_, by first | exact H5.out _ | exact H6.out _ _ _ | exact (((Gr.refl _ w).alloc _).alloc _).drew⟩
      all_goals rw [HE.out]
      all_goals (show Ending.returned (Value.bool _) = Ending.returned (Value.bool _))
      all_goals (refine congrArg (fun b => Ending.returned (Value.bool b)) ?_)
      all_goals first | (simp [*]; done) | (simp_all; done) | (simp_all; rw [Bool.eq_iff_iff]; cases l <;> simp <;> omega)
    · rw [decide_eq_false g2] at HE
      go_enter Tryd.func22, Tryd.ntmps22
      go_wp2_with fail
      have b0 := heap_alloc_new w (.cells #[.int .i64 3, .int .i64 n, .string t, .slice np ns.length nc, .slice lp l.length lc] 25)
      go_wp2
      go_region_held3 (fun x => x.cell? ⟨w.heap.size, 0, none⟩ = some (.int .i64 3) ∧ x.cell? ⟨w.heap.size, 1, none⟩ = some (.int .i64 n) ∧ x.cell? ⟨w.heap.size, 2, none⟩ = some (.string t) ∧ x.cell? ⟨w.heap.size, 3, none⟩ = some (.slice np ns.length nc) ∧ x.cell? ⟨w.heap.size, 4, none⟩ = some (.slice lp l.length lc)) (go_keep) (fail)
      have HG5 : ∀ o : Obj, Gr none' w ((w.alloc o).alloc o).drew := fun o => (((Gr.refl _ w).alloc _).alloc _).drew
      have HG6 : ∀ (o : Obj) x i, Gr none' w (((w.alloc o).alloc o).drew.setCell ⟨w.heap.size + 1, i, none⟩ x) := fun o x i => Gr.setCell (S := none') (a := ⟨w.heap.size + 1, i, none⟩) (HG5 o) (fun h => absurd h (by show ¬ w.heap.size + 1 < w.heap.size; omega)) x
      have H5 := Lib.hid HG5
      have H6 := Lib.hid HG6
      clear HG5 HG6
      go_wp2_with fail
      all_goals go_ret
      all_goals refine ⟨?_, by first | exact H5.out _ | exact H6.out _ _ _ | exact (((Gr.refl _ w).alloc _).alloc _).drew⟩
      all_goals rw [HE.out]
      all_goals (show Ending.returned (Value.bool _) = Ending.returned (Value.bool _))
      all_goals (refine congrArg (fun b => Ending.returned (Value.bool b)) ?_)
      all_goals first | (simp [*]; done) | (simp_all; done) | (simp_all; rw [Bool.eq_iff_iff]; cases l <;> simp <;> omega)
  · rw [decide_eq_false g1] at HE
    go_enter Tryd.func22, Tryd.ntmps22
    go_wp2_with fail
    have b0 := heap_alloc_new w (.cells #[.int .i64 3, .int .i64 n, .string t, .slice np ns.length nc, .slice lp l.length lc] 25)
    go_wp2
    go_region_held3 (fun x => x.cell? ⟨w.heap.size, 0, none⟩ = some (.int .i64 3) ∧ x.cell? ⟨w.heap.size, 1, none⟩ = some (.int .i64 n) ∧ x.cell? ⟨w.heap.size, 2, none⟩ = some (.string t) ∧ x.cell? ⟨w.heap.size, 3, none⟩ = some (.slice np ns.length nc) ∧ x.cell? ⟨w.heap.size, 4, none⟩ = some (.slice lp l.length lc)) (go_keep) (fail)
    have HG5 : ∀ o : Obj, Gr none' w ((w.alloc o).alloc o).drew := fun o => (((Gr.refl _ w).alloc _).alloc _).drew
    have HG6 : ∀ (o : Obj) x i, Gr none' w (((w.alloc o).alloc o).drew.setCell ⟨w.heap.size + 1, i, none⟩ x) := fun o x i => Gr.setCell (S := none') (a := ⟨w.heap.size + 1, i, none⟩) (HG5 o) (fun h => absurd h (by show ¬ w.heap.size + 1 < w.heap.size; omega)) x
    have H5 := Lib.hid HG5
    have H6 := Lib.hid HG6
    clear HG5 HG6
    go_wp2_with fail
    all_goals go_ret
    all_goals refine ⟨?_, by first | exact H5.out _ | exact H6.out _ _ _ | exact (((Gr.refl _ w).alloc _).alloc _).drew⟩
    all_goals rw [HE.out]
    all_goals (show Ending.returned (Value.bool _) = Ending.returned (Value.bool _))
    all_goals (refine congrArg (fun b => Ending.returned (Value.bool b)) ?_)
    all_goals first | (simp [*]; done) | (simp_all; done) | (simp_all; rw [Bool.eq_iff_iff]; cases l <;> simp <;> omega)
/-- A world behind formed's beginning: what came in lies in two blocks. -/
structure FmW (w : World) (c0 c1 c2 c3 c4 : Value) (x : World) : Prop where
  gr : Gr none' w x
  b0 : x.heap[w.heap.size]? = some (.cells #[c0, c1, c2, c3, c4] 25 (0, 0))
  b1 : x.heap[w.heap.size + 1]? = some (.cells #[c0, c1, c2, c3, c4] 25 (0, 0))
theorem FmW.new (w : World) (c0 c1 c2 c3 c4 : Value) : FmW w c0 c1 c2 c3 c4 ((w.alloc (.cells #[c0, c1, c2, c3, c4] 25)).alloc (.cells #[c0, c1, c2, c3, c4] 25)).drew := by
  have b1 := heap_alloc_new (w.alloc (.cells #[c0, c1, c2, c3, c4] 25)) (.cells #[c0, c1, c2, c3, c4] 25)
  rw [show (w.alloc (.cells #[c0, c1, c2, c3, c4] 25)).heap.size = w.heap.size + 1 by simp] at b1
  exact ⟨(((Gr.refl _ w).alloc _).alloc _).drew, (Below.heap_alloc _ _ _ (by simp)).trans (heap_alloc_new _ _), b1⟩
theorem FmW.then {w x y : World} {c0 c1 c2 c3 c4 : Value} (h : FmW w c0 c1 c2 c3 c4 x) (g : Gr none' x y) : FmW w c0 c1 c2 c3 c4 y :=
  ⟨h.gr.trans g, (g.block _ (Array.getElem?_eq_some_iff.1 h.b0).1 (fun x => x)).trans h.b0, (g.block _ (Array.getElem?_eq_some_iff.1 h.b1).1 (fun x => x)).trans h.b1⟩
theorem FmW.cells {w x : World} {c0 c1 c2 c3 c4 : Value} (h : FmW w c0 c1 c2 c3 c4 x) :
    (x.cell? ⟨w.heap.size, 0, none⟩ = some c0 ∧ x.cell? ⟨w.heap.size, 1, none⟩ = some c1 ∧ x.cell? ⟨w.heap.size, 2, none⟩ = some c2 ∧ x.cell? ⟨w.heap.size, 3, none⟩ = some c3 ∧ x.cell? ⟨w.heap.size, 4, none⟩ = some c4) ∧
    (x.cell? ⟨w.heap.size + 1, 1, none⟩ = some c1 ∧ x.cell? ⟨w.heap.size + 1, 2, none⟩ = some c2 ∧ x.cell? ⟨w.heap.size + 1, 3, none⟩ = some c3 ∧ x.cell? ⟨w.heap.size + 1, 4, none⟩ = some c4) ∧
    x.frozen? ⟨w.heap.size + 1, 2, none⟩ = false ∧ x.frozen? ⟨w.heap.size + 1, 3, none⟩ = false ∧ x.frozen? ⟨w.heap.size + 1, 4, none⟩ = false := by
  have h0 := h.b0
  have h1 := h.b1
  refine ⟨⟨?_, ?_, ?_, ?_, ?_⟩, ⟨?_, ?_, ?_, ?_⟩, ?_, ?_, ?_⟩ <;> simp [World.cell?, World.frozen?, h0, h1]
theorem FmW.set {w x : World} {c0 c1 c2 c3 c4 : Value} (h : FmW w c0 c1 c2 c3 c4 x) (i : Nat) (u : Value) : Gr none' w (x.setCell ⟨w.heap.size + 1, i, none⟩ u) :=
  Gr.setCell (S := none') (a := ⟨w.heap.size + 1, i, none⟩) h.gr (fun hl => absurd hl (by show ¬ w.heap.size + 1 < w.heap.size; omega)) u
theorem FmW.set2 {w x : World} {c0 c1 c2 c3 c4 : Value} (h : FmW w c0 c1 c2 c3 c4 x) (i j : Nat) (u v : Value) : Gr none' w ((x.setCell ⟨w.heap.size + 1, i, none⟩ u).setCell ⟨w.heap.size + 1, j, none⟩ v) :=
  Gr.setCell (S := none') (a := ⟨w.heap.size + 1, j, none⟩) (h.set i u) (fun hl => absurd hl (by show ¬ w.heap.size + 1 < w.heap.size; omega)) v
theorem Gr.of_below0 {w w' : World} (h : Below w.heap.size w w') : Gr none' w w' := Gr.of_below h fun b h1 h2 => absurd h2 (Nat.not_lt.2 h1)
set_option maxHeartbeats 2000000 in
set_option maxRecDepth 100000 in
theorem formed_text (n : Int) (t : ByteArray) (ns : List ByteArray) (l : List J) : FormedOk (.mk 4 n t ns l) := by
  intro S v w h hfit G
  unfold JAt at h
  obtain ⟨np, nc, lp, lc, rfl, hn, hk⟩ := h
  unfold Fits at hfit
  obtain ⟨h1, h2, h3, h4, h5⟩ := hfit
  have HE : Hid (Js.formed (.mk 4 n t ns l) = (decide (n = 0) && Lib.validD t.data.toList && ns.isEmpty && l.isEmpty)) := Lib.hid (by rw [Js.formed]; rfl)
  rw [isEmpty_len, isEmpty_len'] at HE
  have HV := Lib.hid (fun w G => valid_any t w h1 G)
  have GG := Lib.hid G
  have hF := FmW.new w (.int .i64 4) (.int .i64 n) (.string t) (.slice np ns.length nc) (.slice lp l.length lc)
  have HGG := Lib.hid ((((GG.out.alloc (.cells #[.int .i64 4, .int .i64 n, .string t, .slice np ns.length nc, .slice lp l.length lc] 25)).alloc (.cells #[.int .i64 4, .int .i64 n, .string t, .slice np ns.length nc, .slice lp l.length lc] 25)).drewN 1))
  clear hn hk G h4 h5
  go_enter Tryd.func22, Tryd.ntmps22
  go_wp2_with fail
  have b0 := heap_alloc_new w (.cells #[.int .i64 4, .int .i64 n, .string t, .slice np ns.length nc, .slice lp l.length lc] 25)
  go_wp2
  go_region_held3 (fun x => x.cell? ⟨w.heap.size, 0, none⟩ = some (.int .i64 4) ∧ x.cell? ⟨w.heap.size, 1, none⟩ = some (.int .i64 n) ∧ x.cell? ⟨w.heap.size, 2, none⟩ = some (.string t) ∧ x.cell? ⟨w.heap.size, 3, none⟩ = some (.slice np ns.length nc) ∧ x.cell? ⟨w.heap.size, 4, none⟩ = some (.slice lp l.length lc)) (go_keep) (fail)
  clear b0
  have HF := Lib.hid hF
  clear hF
  go_wp2_with fail
  refine (HV.out _ HGG.out).mono ?_
  rintro e w5 ⟨rfl, hb5⟩
  have HF5 := Lib.hid (HF.out.then (Gr.of_below0 hb5))
  obtain ⟨-, ⟨d1, d2, d3, d4⟩, k2, k3, k4⟩ := HF5.out.cells
  have HS := Lib.hid (HF5.out.set)
  clear hb5
  generalize Lib.validD t.data.toList = b at *
  cases b
  all_goals go_wp2_with fail
  all_goals go_ret
  all_goals refine ⟨?_, HS.out _ _⟩
  all_goals rw [HE.out]
  all_goals (show Ending.returned (Value.bool _) = Ending.returned (Value.bool _))
  all_goals (refine congrArg (fun b => Ending.returned (Value.bool b)) ?_)
  all_goals first | (simp [*]; done) | (simp_all; done) | (simp_all; rw [Bool.eq_iff_iff]; cases l <;> simp <;> omega)
set_option maxHeartbeats 2000000 in
set_option maxRecDepth 100000 in
theorem formed_obj (n : Int) (t : ByteArray) (ns : List ByteArray) (l : List J) (hl : ∀ j ∈ l, FormedOk j) : FormedOk (.mk 6 n t ns l) := by
  intro S v w h hfit G
  unfold JAt at h
  obtain ⟨np, nc, lp, lc, rfl, hn, hk⟩ := h
  unfold Fits at hfit
  obtain ⟨h1, h2, h3, h4, h5⟩ := hfit
  have HE : Hid (Js.formed (.mk 6 n t ns l) = (decide (n = 0) && decide (t = ByteArray.empty) && (ns.all runes && Js.distinct ns) && decide (ns.length = l.length) && Js.formedAll l)) := Lib.hid (by rw [Js.formed]; simp [Bool.and_assoc])
  rw [empty_toList] at HE
  have GG := Lib.hid G
  have hF := FmW.new w (.int .i64 6) (.int .i64 n) (.string t) (.slice np ns.length nc) (.slice lp l.length lc)
  have HGG := Lib.hid ((((GG.out.alloc (.cells #[.int .i64 6, .int .i64 n, .string t, .slice np ns.length nc, .slice lp l.length lc] 25)).alloc (.cells #[.int .i64 6, .int .i64 n, .string t, .slice np ns.length nc, .slice lp l.length lc] 25)).drewN 1))
  have HNM : Hid (∀ w', Gl w' → NamesAt S w' np ns → Calls Tryd.prog 38 #[.slice np ns.length nc] w' fun e w2 => e = .returned (.bool (ns.all runes && Js.distinct ns)) ∧ Gr none' w' w2) := Lib.hid (fun w' G h => named_any S ns np nc w' h h2 h4 G)
  have HAF : Hid (∀ w', Gl w' → KidsAt S w' lp 0 l → Calls Tryd.prog 37 #[.slice lp l.length lc] w' fun e w2 => e = .returned (.bool (Js.formedAll l)) ∧ Gr none' w' w2) := Lib.hid (fun w' G h => all_formed S l hl lp lc w' h h3 h5 G)
  have HN := Lib.hid (fun w' (g : Gr none' w w') => hn.frame (S' := S) (w' := w') (fun _ _ h => h) (fun b _ hb => g.block b hb (fun x => x)) g.size)
  have HK := Lib.hid (fun w' (g : Gr none' w w') => KidsAt.frame (S' := S) (w := w) (w' := w') (fun _ _ h => h) (fun b _ hb => g.block b hb (fun x => x)) g.size lp 0 l hk)
  generalize (ns.all runes && Js.distinct ns) = b1 at *
  generalize Js.formedAll l = b2 at *
  clear hn hk G h4 h5 hl
  go_enter Tryd.func22, Tryd.ntmps22
  go_wp2_with fail
  have b0 := heap_alloc_new w (.cells #[.int .i64 6, .int .i64 n, .string t, .slice np ns.length nc, .slice lp l.length lc] 25)
  go_wp2
  go_region_held3 (fun x => x.cell? ⟨w.heap.size, 0, none⟩ = some (.int .i64 6) ∧ x.cell? ⟨w.heap.size, 1, none⟩ = some (.int .i64 n) ∧ x.cell? ⟨w.heap.size, 2, none⟩ = some (.string t) ∧ x.cell? ⟨w.heap.size, 3, none⟩ = some (.slice np ns.length nc) ∧ x.cell? ⟨w.heap.size, 4, none⟩ = some (.slice lp l.length lc)) (go_keep) (fail)
  clear b0
  have HF := Lib.hid hF
  clear hF
  go_wp2_with fail
  refine (HNM.out _ HGG.out (HN.out _ HF.out.gr)).mono ?_
  rintro e w5 ⟨rfl, hg5⟩
  have HF5 := Lib.hid (HF.out.then hg5)
  have HG5 := Lib.hid (HGG.out.weak hg5)
  obtain ⟨⟨c0, c1, c2, c3, c4⟩, ⟨d1, d2, d3, d4⟩, k2, k3, k4⟩ := HF5.out.cells
  have HS := Lib.hid (HF5.out.set2)
  clear hg5
  cases b1 with
  | false =>
    go_wp2_with fail
    go_ret
    refine ⟨?_, HS.out _ _ _ _⟩
    rw [HE.out]
    show Ending.returned (Value.bool _) = Ending.returned (Value.bool _)
    refine congrArg (fun b => Ending.returned (Value.bool b)) ?_
    first | (simp [*]; done) | (simp_all; done) | (simp_all; rw [Bool.eq_iff_iff]; cases l <;> simp <;> omega)
  | true =>
    by_cases hll : ns.length = l.length
    · have e1 : ((ns.length : Int) == (l.length : Int)) = true := by simp [hll]
      go_wp2_with fail
      refine (HAF.out _ HG5.out (HK.out _ HF5.out.gr)).mono ?_
      rintro e w6 ⟨rfl, hg6⟩
      have HF6 := Lib.hid (HF5.out.then hg6)
      clear c0 c1 c2 c3 c4 d1 d2 d3 d4 k2 k3 k4 HS
      obtain ⟨-, ⟨d1, d2, d3, d4⟩, k2, k3, k4⟩ := HF6.out.cells
      have HS := Lib.hid (HF6.out.set2)
      clear hg6
      cases b2
      all_goals go_wp2_with fail
      all_goals
        go_ret
        refine ⟨?_, HS.out _ _ _ _⟩
        rw [HE.out]
        show Ending.returned (Value.bool _) = Ending.returned (Value.bool _)
        refine congrArg (fun b => Ending.returned (Value.bool b)) ?_
        first | (simp [*]; done) | (simp_all; done) | (simp_all; rw [Bool.eq_iff_iff]; cases l <;> simp <;> omega)
    · have e1 : ((ns.length : Int) == (l.length : Int)) = false := by rw [beq_eq_false_iff_ne]; omega
      go_wp2_with fail
      go_ret
      refine ⟨?_, HS.out _ _ _ _⟩
      rw [HE.out]
      show Ending.returned (Value.bool _) = Ending.returned (Value.bool _)
      refine congrArg (fun b => Ending.returned (Value.bool b)) ?_
      first | (simp [*]; done) | (simp_all; done) | (simp_all; rw [Bool.eq_iff_iff]; cases l <;> simp <;> omega)
set_option maxHeartbeats 2000000 in
set_option maxRecDepth 100000 in
theorem formed_other (k n : Int) (t : ByteArray) (ns : List ByteArray) (l : List J) (q1 : k ≠ 1) (q2 : k ≠ 2) (q3 : k ≠ 3) (q4 : k ≠ 4) (q5 : k ≠ 5) (q6 : k ≠ 6) : FormedOk (.mk k n t ns l) := by
  intro S v w h hfit G
  unfold JAt at h
  obtain ⟨np, nc, lp, lc, rfl, hn, hk⟩ := h
  unfold Fits at hfit
  obtain ⟨h1, h2, h3, h4, h5⟩ := hfit
  have HE : Hid (Js.formed (.mk k n t ns l) = false) := Lib.hid (by rw [Js.formed]; simp [q1, q2, q3, q4, q5, q6])
  have hF := FmW.new w (.int .i64 k) (.int .i64 n) (.string t) (.slice np ns.length nc) (.slice lp l.length lc)
  replace q1 : (k == 1) = false := by simpa using q1
  replace q2 : (k == 2) = false := by simpa using q2
  replace q3 : (k == 3) = false := by simpa using q3
  replace q4 : (k == 4) = false := by simpa using q4
  replace q5 : (k == 5) = false := by simpa using q5
  replace q6 : (k == 6) = false := by simpa using q6
  clear hn hk G h4 h5
  go_enter Tryd.func22, Tryd.ntmps22
  go_wp2_with fail
  have b0 := heap_alloc_new w (.cells #[.int .i64 k, .int .i64 n, .string t, .slice np ns.length nc, .slice lp l.length lc] 25)
  go_wp2
  go_region_held3 (fun x => x.cell? ⟨w.heap.size, 0, none⟩ = some (.int .i64 k) ∧ x.cell? ⟨w.heap.size, 1, none⟩ = some (.int .i64 n) ∧ x.cell? ⟨w.heap.size, 2, none⟩ = some (.string t) ∧ x.cell? ⟨w.heap.size, 3, none⟩ = some (.slice np ns.length nc) ∧ x.cell? ⟨w.heap.size, 4, none⟩ = some (.slice lp l.length lc)) (go_keep) (fail)
  clear b0
  have HF := Lib.hid hF
  clear hF
  go_wp2_with fail
  go_ret
  refine ⟨?_, HF.out.gr⟩
  rw [HE.out]
  rfl
mutual
theorem formed_any : ∀ j, FormedOk j
  | .mk k n t ns l => by
    by_cases q1 : k = 1
    · subst q1; exact formed_null n t ns l
    by_cases q2 : k = 2
    · subst q2; exact formed_bool n t ns l
    by_cases q3 : k = 3
    · subst q3; exact formed_int n t ns l
    by_cases q4 : k = 4
    · subst q4; exact formed_text n t ns l
    by_cases q5 : k = 5
    · subst q5; exact formed_list n t ns l (formed_alls l)
    by_cases q6 : k = 6
    · subst q6; exact formed_obj n t ns l (formed_alls l)
    exact formed_other k n t ns l q1 q2 q3 q4 q5 q6
theorem formed_alls : ∀ l : List J, ∀ j ∈ l, FormedOk j
  | [], _, h => by simp at h
  | a :: l, j, h => by
    rcases List.mem_cons.1 h with h | h
    · rw [h]; exact formed_any a
    · exact formed_alls l j h
end
/-- What Check answers. -/
def CheckP (j : J) (w : World) (e : Ending) (w' : World) : Prop := e = .returned (.int .i64 (Js.check j)) ∧ Gr none' w w'
theorem CheckP.mk {j : J} {w w' : World} {e : Int} (h : Js.check j = e) (g : Gr none' w w') : CheckP j w (.returned (.int .i64 e)) w' := by unfold CheckP; rw [h]; exact ⟨rfl, g⟩
set_option maxHeartbeats 2000000 in
set_option maxRecDepth 100000 in
theorem check_any (S : Nat → Prop) (j : J) (v : Value) (w : World) (h : JAt S w j v) (hf : Fits j) (G : Gl w) :
    Calls Tryd.prog 18 #[v] w (CheckP j w) := by
  obtain ⟨np, nc, lp, lc, hv, -, -⟩ := h.five
  have HFo := Lib.hid (fun w' G h => formed_any j S v w' h hf G)
  have HDe := Lib.hid (fun w' h => deeper_any j 32 S v w' h hf (by omega) (by omega))
  have HJ := Lib.hid (fun w' (g : Gr none' w w') => JAt.frame (S' := S) (w := w) (w' := w') (fun _ _ h => h) (fun b _ hb => g.block b hb (fun x => x)) g.size j v h)
  have GG := Lib.hid G
  have hc0 : Js.formed j = false → Js.check j = 30 := fun h => by unfold Js.check; rw [if_pos h]; rfl
  have hc1 : Js.formed j = true → (32 : Int) < (depth j : Int) → Js.check j = 31 := fun h g => by unfold Js.check; rw [if_neg (by rw [h]; simp), if_pos (by omega)]; rfl
  have hc2 : Js.formed j = true → ¬ (32 : Int) < (depth j : Int) → Js.check j = 0 := fun h g => by unfold Js.check; rw [if_neg (by rw [h]; simp), if_neg (by omega)]
  have HC0 := Lib.hid hc0
  have HC1 := Lib.hid hc1
  have HC2 := Lib.hid hc2
  clear hc0 hc1 hc2
  have hd : ((decide ((32 : Int) < (depth j : Int))) = true ∧ (32 : Int) < (depth j : Int)) ∨ ((decide ((32 : Int) < (depth j : Int))) = false ∧ ¬ (32 : Int) < (depth j : Int)) := by
    by_cases g : (32 : Int) < (depth j : Int)
    · exact .inl ⟨decide_eq_true g, g⟩
    · exact .inr ⟨decide_eq_false g, g⟩
  have HDD := Lib.hid hd
  clear hd
  generalize decide ((32 : Int) < (depth j : Int)) = b2 at *
  generalize Js.formed j = b1 at *
  generalize j.kind = q0 at *
  generalize j.num = q1 at *
  generalize j.text = q2 at *
  generalize j.names.length = q3 at *
  generalize j.list.length = q4 at *
  subst hv
  have b0 := heap_alloc_new w (.cells #[.int .i64 q0, .int .i64 q1, .string q2, .slice np q3 nc, .slice lp q4 lc] 25)
  have HG1 := Lib.hid ((Gr.refl none' w).alloc (.cells #[.int .i64 q0, .int .i64 q1, .string q2, .slice np q3 nc, .slice lp q4 lc] 25))
  clear h hf G
  go_enter Tryd.func18, Tryd.ntmps18
  go_wp2_with fail
  refine (HFo.out _ (GG.out.weak HG1.out) (HJ.out _ HG1.out)).mono ?_
  rintro e w1 ⟨rfl, g1⟩
  have x1 := (g1.block _ (Array.getElem?_eq_some_iff.1 b0).1 (fun x => x)).trans b0
  have HG2 := Lib.hid (HG1.out.trans g1)
  have d0 : w1.cell? ⟨w.heap.size, 0, none⟩ = some (.int .i64 q0) := by simp [World.cell?, x1]
  have d1 : w1.cell? ⟨w.heap.size, 1, none⟩ = some (.int .i64 q1) := by simp [World.cell?, x1]
  have d2 : w1.cell? ⟨w.heap.size, 2, none⟩ = some (.string q2) := by simp [World.cell?, x1]
  have d3 : w1.cell? ⟨w.heap.size, 3, none⟩ = some (.slice np q3 nc) := by simp [World.cell?, x1]
  have d4 : w1.cell? ⟨w.heap.size, 4, none⟩ = some (.slice lp q4 lc) := by simp [World.cell?, x1]
  clear g1 x1 b0
  cases b1 with
  | false =>
    go_wp2_with fail
    go_ret
    exact CheckP.mk (HC0.out trivial) HG2.out
  | true =>
    go_wp2_with fail
    refine (HDe.out _ (HJ.out _ HG2.out)).mono ?_
    rintro e w2 ⟨rfl, g2⟩
    have HG3 := Lib.hid (HG2.out.trans g2)
    clear g2
    rcases HDD.out with ⟨rfl, h⟩ | ⟨rfl, h⟩
    · have HE := Lib.hid (HC1.out trivial h)
      clear h
      go_wp2_with fail
      go_ret
      exact CheckP.mk HE.out HG3.out
    · have HE := Lib.hid (HC2.out trivial h)
      clear h
      go_wp2_with fail
      go_ret
      exact CheckP.mk HE.out HG3.out
end Go.Proofs.YtdooeedemgmpiaaDoor
