/- For any metric and any three hits the law TopkStrict of the document's chapter 7 returns true over the program's own Less and Sort: of two unlike hits just one is better, and the order holds over three. No condition. -/
import Derived.Test.YtbgminlajcmomabRows
import Derived.WalkKit
import Derived.ProofKit
import Derived.OpenShut
import Derived.ShutString
import Derived.ChangeOld
import Derived.Below
import Derived.SizedLaws
import Derived.Test.YtbgminlajcmomabTkArgs
import Derived.Deep.DeepCutAuto
namespace Go.Proofs.Ytbgminlajcmomab.topkStrict
open Go.ChangeShapes Go.WideShapes Go.ChangeAt Go.RowKit Go.Proofs.Ytbgminlajcmomab
open Go.ChangeMaps (open_string shut_string)
open Tk
set_option linter.unusedVariables false

theorem own : ownKnob Try.prog.godebug = none := by kernel_rfl
theorem laidOut : laidOutB Try.prog = true := by kernel_rfl

/-! ### The walk -/
open Go Go.Sort
abbrev obj3 (a b c : Ht) : Obj := .cells #[.int .i64 a.1, .int .i64 a.2, .int .i64 b.1, .int .i64 b.2, .int .i64 c.1, .int .i64 c.2] 42
theorem three (W : World) (a b c : Ht) : ((((W.alloc (hobj a)).alloc (hobj b)).alloc (hobj c)).drew).heap[W.heap.size]? = some (hobj a) ∧ ((((W.alloc (hobj a)).alloc (hobj b)).alloc (hobj c)).drew).heap[W.heap.size + 1]? = some (hobj b) ∧ ((((W.alloc (hobj a)).alloc (hobj b)).alloc (hobj c)).drew).heap[W.heap.size + 1 + 1]? = some (hobj c) := by
  have s1 : (W.alloc (hobj a)).heap.size = W.heap.size + 1 := by simp
  have s2 : ((W.alloc (hobj a)).alloc (hobj b)).heap.size = W.heap.size + 1 + 1 := by simp
  refine ⟨?_, ?_, ?_⟩
  · exact (heap_old ((W.alloc (hobj a)).alloc (hobj b)) _ (by rw [s2]; omega)).trans ((heap_old (W.alloc (hobj a)) _ (by rw [s1]; omega)).trans (heap_last W _))
  · have := heap_last (W.alloc (hobj a)) (hobj b)
    rw [s1] at this
    exact (heap_old ((W.alloc (hobj a)).alloc (hobj b)) _ (by rw [s2]; omega)).trans this
  · have := heap_last ((W.alloc (hobj a)).alloc (hobj b)) (hobj c)
    rw [s2] at this
    exact this
/-- Three boxes. -/
structure Thr (w W : World) (A B C : Nat) (x y z : Ht) : Prop where
  a : W.heap[A]? = some (hobj x)
  b : W.heap[B]? = some (hobj y)
  c : W.heap[C]? = some (hobj z)
  bel : RowKit.Below w.heap.size w W
theorem Thr.gn {w W W' : World} {A B C : Nat} {x y z : Ht} (h : Thr w W A B C x y z) (g : RowKit.Below W.heap.size W W') : Thr w W' A B C x y z :=
  ⟨(g.block A (Array.getElem?_eq_some_iff.1 h.a).1).trans h.a, (g.block B (Array.getElem?_eq_some_iff.1 h.b).1).trans h.b, (g.block C (Array.getElem?_eq_some_iff.1 h.c).1).trans h.c, h.bel.trans (g.mono h.bel.size)⟩
set_option maxHeartbeats 2000000 in
set_option maxRecDepth 100000 in
theorem walk (a0 : Int) (x1 y1 z1 : Ht) (w : World) (w0 : (Lit.int .i64 a0).wf = true) (ox1 : OkH x1) (oy1 : OkH y1) (oz1 : OkH z1) :
    Calls Try.prog 6 #[.int .i64 a0, .agg #[.int .i64 x1.1, .int .i64 x1.2, .int .i64 y1.1, .int .i64 y1.2, .int .i64 z1.1, .int .i64 z1.2]] w fun e w' => e = .returned (.bool true) ∧ Below w.heap.size w w' := by
  have mixed : Try.prog.follows .mixedOrders = true := by kernel_rfl
  obtain ⟨xi, xs⟩ := x1
  obtain ⟨yi, ys⟩ := y1
  obtain ⟨zi, zs⟩ := z1
  have HB0 := Lib.hid (fresh_alloc w (obj3 (xi, xs) (yi, ys) (zi, zs)))
  have hl := heap_last w (obj3 (xi, xs) (yi, ys) (zi, zs))
  have HL := Lib.hid hl
  have hsz : (w.alloc (obj3 (xi, xs) (yi, ys) (zi, zs))).heap.size = w.heap.size + 1 := by simp
  have c0 : ∀ W : World, W.heap[w.heap.size]? = some (obj3 (xi, xs) (yi, ys) (zi, zs)) → W.cell? ⟨w.heap.size, 0, none⟩ = some (.int .i64 xi) ∧ W.cell? ⟨w.heap.size, 1, none⟩ = some (.int .i64 xs) ∧ W.cell? ⟨w.heap.size, 2, none⟩ = some (.int .i64 yi) ∧ W.cell? ⟨w.heap.size, 3, none⟩ = some (.int .i64 ys) ∧ W.cell? ⟨w.heap.size, 4, none⟩ = some (.int .i64 zi) ∧ W.cell? ⟨w.heap.size, 5, none⟩ = some (.int .i64 zs) := fun W hW => by
    refine ⟨?_, ?_, ?_, ?_, ?_, ?_⟩ <;> (rw [Lib.cell_of_heap (fr := (0, 0)) hW]; rfl)
  have s0 := c0 _ hl
  have z1 := fun o => (heap_old (w.alloc (obj3 (xi, xs) (yi, ys) (zi, zs))) o (by simp)).trans hl
  have z2 := fun o o' => (heap_old ((w.alloc (obj3 (xi, xs) (yi, ys) (zi, zs))).alloc o) o' (by simp; omega)).trans (z1 o)
  have z3 := fun o o' o'' => (heap_old (((w.alloc (obj3 (xi, xs) (yi, ys) (zi, zs))).alloc o).alloc o') o'' (by simp; omega)).trans (z2 o o')
  have s1 := fun o => c0 _ (z1 o)
  have s2 := fun o o' => c0 _ (z2 o o')
  have s3 := fun o o' o'' => c0 _ (z3 o o' o'')
  obtain ⟨s00, s01, s02, s03, s04, s05⟩ := s0
  have s10 := fun o => (s1 o).1
  have s11 := fun o => (s1 o).2.1
  have s12 := fun o => (s1 o).2.2.1
  have s13 := fun o => (s1 o).2.2.2.1
  have s14 := fun o => (s1 o).2.2.2.2.1
  have s15 := fun o => (s1 o).2.2.2.2.2
  have s20 := fun o o' => (s2 o o').1
  have s21 := fun o o' => (s2 o o').2.1
  have s22 := fun o o' => (s2 o o').2.2.1
  have s23 := fun o o' => (s2 o o').2.2.2.1
  have s24 := fun o o' => (s2 o o').2.2.2.2.1
  have s25 := fun o o' => (s2 o o').2.2.2.2.2
  have s30 := fun o o' o'' => (s3 o o' o'').1
  have s31 := fun o o' o'' => (s3 o o' o'').2.1
  have s32 := fun o o' o'' => (s3 o o' o'').2.2.1
  have s33 := fun o o' o'' => (s3 o o' o'').2.2.2.1
  have s34 := fun o o' o'' => (s3 o o' o'').2.2.2.2.1
  have s35 := fun o o' o'' => (s3 o o' o'').2.2.2.2.2
  clear s1 s2 s3
  clear hl c0 z1 z2 z3
  have HSZ := Lib.hid hsz
  clear hsz
  go_enter Try.func6, Try.ntmps6
  go_wp2_with fail
  generalize w.alloc (obj3 (xi, xs) (yi, ys) (zi, zs)) = W at *
  go_cut [5, 6, 7] (fun p q r wx => ∃ A B C, p = .pointer (some ⟨A, 0, none⟩) ∧ q = .pointer (some ⟨B, 0, none⟩) ∧ r = .pointer (some ⟨C, 0, none⟩) ∧ Thr w wx A B C (xi, xs) (yi, ys) (zi, zs))
  case first =>
    go_region
    all_goals
      go_wp2_with fail
      go_meet
      refine ⟨_, _, _, rfl, rfl, rfl, ?_, ?_, ?_, ?_⟩
      · first | exact (three W (xi, xs) (yi, ys) (zi, zs)).1 | exact (three W (xi, xs) (zi, zs) (yi, ys)).1 | exact (three W (yi, ys) (xi, xs) (zi, zs)).2.1 | exact (three W (yi, ys) (zi, zs) (xi, xs)).2.2 | exact (three W (zi, zs) (xi, xs) (yi, ys)).2.1 | exact (three W (zi, zs) (yi, ys) (xi, xs)).2.2
      · first | exact (three W (xi, xs) (yi, ys) (zi, zs)).2.1 | exact (three W (xi, xs) (zi, zs) (yi, ys)).2.2 | exact (three W (yi, ys) (xi, xs) (zi, zs)).1 | exact (three W (yi, ys) (zi, zs) (xi, xs)).1 | exact (three W (zi, zs) (xi, xs) (yi, ys)).2.2 | exact (three W (zi, zs) (yi, ys) (xi, xs)).2.1
      · first | exact (three W (xi, xs) (yi, ys) (zi, zs)).2.2 | exact (three W (xi, xs) (zi, zs) (yi, ys)).2.1 | exact (three W (yi, ys) (xi, xs) (zi, zs)).2.2 | exact (three W (yi, ys) (zi, zs) (xi, xs)).2.1 | exact (three W (zi, zs) (xi, xs) (yi, ys)).1 | exact (three W (zi, zs) (yi, ys) (xi, xs)).1
      · exact HB0.out.trans (((((Gn.refl W).alloc _).alloc _).alloc _).drew.below.mono HB0.out.size)
  case rest =>
    obtain ⟨A, B, C, rfl, rfl, rfl, ht⟩ := hcut
    have HT := Lib.hid ht
    clear ht s00 s01 s02 s03 s04 s05 s10 s11 s12 s13 s14 s15 s20 s21 s22 s23 s24 s25 s30 s31 s32 s33 s34 s35
    generalize wc = W2 at *
    have HL := fun (W : World) (h : Thr w W A B C (xi, xs) (yi, ys) (zi, zs)) => And.intro (two_cells h.a) (And.intro (two_cells h.b) (two_cells h.c))
    have HLL := Lib.hid HL
    clear HL
    cases hk : knownB a0 with
    | false =>
      have hn : ¬ (a0 = 1 ∨ a0 = 2 ∨ a0 = 3) := by rw [← known_iff, hk]; simp
      have hx : a0 < 1 ∨ (¬ a0 < 1 ∧ 3 < a0) := by omega
      have HK := Lib.hid hk
      clear hn hk
      rcases hx with hx | ⟨hx, hx'⟩
      all_goals
        obtain ⟨⟨e0, e1⟩, ⟨e2, e3⟩, ⟨e4, e5⟩⟩ := HLL.out W2 HT.out
        go_wp2_with fail
        refine (less_any a0 (xi, xs) (yi, ys) W2).mono ?_
        rintro e w3 ⟨rfl, g3⟩
        rw [ltH_unknown HK.out]
        have HT3 := Lib.hid (HT.out.gn g3.below)
        clear g3 e0 e1 e2 e3 e4 e5
        obtain ⟨⟨e0, e1⟩, ⟨e2, e3⟩, ⟨e4, e5⟩⟩ := HLL.out w3 HT3.out
        have hg4 := fresh_alloc w3 (.cells #[.int .i64 xi, .int .i64 xs, .int .i64 yi, .int .i64 ys] 23)
        have hp4 : HsP (w3.alloc (.cells #[.int .i64 xi, .int .i64 xs, .int .i64 yi, .int .i64 ys] 23)) (.slice (some ⟨w3.heap.size, 0, none⟩) 2 2) [(xi, xs), (yi, ys)] := by
          refine .inr ⟨w3.heap.size, 0, 2, rfl, by simp, fun Y hY j u hj => ?_⟩
          have hh := hY.trans (heap_last w3 (.cells #[.int .i64 xi, .int .i64 xs, .int .i64 yi, .int .i64 ys] 23))
          rw [Nat.zero_add, Lib.cell_of_heap (fr := (0, 0)) hh]
          match j, hj with
          | 0, hj => exact hj
          | 1, hj => exact hj
          | 2, hj => exact hj
          | 3, hj => exact hj
          | j + 4, hj => simp [hCells] at hj
        have HS := Lib.hid (sort_any a0 [(xi, xs), (yi, ys)] _ _ hp4 (by simp))
        rw [show sortH a0 [((xi, xs) : Ht), (yi, ys)] = [] by unfold sortH; rw [HK.out]; rfl] at HS
        have HB4 := Lib.hid (HT3.out.bel.trans (hg4.mono HT3.out.bel.size))
        clear hp4 hg4
        go_wp2_with fail
        refine HS.out.mono ?_
        rintro e w5 ⟨u, rfl, ho, hb⟩
        obtain ⟨p, c, rfl⟩ := own_nil ho
        have HB5 := Lib.hid (HB4.out.trans (hb.mono HB4.out.size))
        clear ho hb e0 e1 e2 e3 e4 e5
        go_wp2_with fail
        refine (awake_any w5).mono ?_
        rintro e w6 ⟨rfl, b6⟩
        have HB6 := Lib.hid (HB5.out.trans (b6.mono HB5.out.size))
        clear b6
        go_wp2_with fail
        go_ret
        exact ⟨rfl, HB6.out⟩
    | true =>
      have hn : a0 = 1 ∨ a0 = 2 ∨ a0 = 3 := known_iff.1 hk
      have h1 : ¬ a0 < 1 := by omega
      have h3 : ¬ 3 < a0 := by omega
      have HK := Lib.hid hk
      clear hn hk
      have hq := fun n os => HT.out.gn (Gn.below (w := W2) (w' := grow (W2.drewN n) os) ⟨n, os, rfl⟩)
      have e0 := fun n os => (HLL.out _ (hq n os)).1.1
      have e1 := fun n os => (HLL.out _ (hq n os)).1.2
      have e2 := fun n os => (HLL.out _ (hq n os)).2.1.1
      have e3 := fun n os => (HLL.out _ (hq n os)).2.1.2
      obtain ⟨f, hf⟩ : ∃ f : Int → Int → Int → Int → Bool, ∀ p q r s, f p q r s = ltH a0 (p, q) (r, s) := ⟨fun p q r s => ltH a0 (p, q) (r, s), fun _ _ _ _ => rfl⟩
      have HC := Lib.hid (fun (p q r s : Int) (W : World) => (less_any a0 (p, q) (r, s) W).mono (fun e w' h => (by rw [hf]; exact h : e = Ending.returned (.bool (f p q r s)) ∧ Gn W w')))
      have fxx : f xi xs xi xs = false := by rw [hf]; exact ltH_irrefl _ _
      have HE := fun W => neqH_run (xi, xs) (yi, ys) W
      simp only at HE
      clear hq
      go_upto_region 4 with fail
      go_cut [56] (fun b wx => b = .bool false ∧ Thr w wx A B C (xi, xs) (yi, ys) (zi, zs))
      case first =>
        by_cases hxy : ((xi, xs) : Ht) = (yi, ys)
        · have g1 : xi = yi := congrArg Prod.fst hxy
          have g2 : xs = ys := congrArg Prod.snd hxy
          subst g1 g2
          rw [decide_eq_true rfl] at HE
          clear hf
          go_wp2_with fail
          go_quiet_grown (first | (go_at_call 9; refine Calls.grown_of (HC.out _ _ _ _ _)))
          dsimp only
          have HT3 := Lib.hid (HT.out.gn (Gn.below (w := W2) (w' := grow (W2.drewN nq) osq) ⟨nq, osq, rfl⟩))
          generalize grow (W2.drewN nq) osq = w3 at *
          go_wp2
          go_meet
          case rel => exact ⟨rfl, HT3.out⟩
        · rw [decide_eq_false hxy] at HE
          cases hb1 : ltH a0 (xi, xs) (yi, ys) with
          | true =>
            have hb2 := ltH_asym hb1
            rw [← hf] at hb1 hb2
            clear hf hxy
            go_wp2_with fail
            go_quiet_grown (first | (go_at_call 9; refine Calls.grown_of (HC.out _ _ _ _ _)))
            dsimp only
            have HT3 := Lib.hid (HT.out.gn (Gn.below (w := W2) (w' := grow (W2.drewN nq) osq) ⟨nq, osq, rfl⟩))
            generalize grow (W2.drewN nq) osq = w3 at *
            go_wp2
            go_meet
            case rel => exact ⟨rfl, HT3.out⟩
          | false =>
            have hb2 : ltH a0 (yi, ys) (xi, xs) = true := by
              cases h : ltH a0 (yi, ys) (xi, xs) with
              | true => rfl
              | false => exact absurd (ltH_both HK.out _ _ hb1 h) hxy
            rw [← hf] at hb1 hb2
            clear hf hxy
            go_wp2_with fail
            go_quiet_grown (first | (go_at_call 9; refine Calls.grown_of (HC.out _ _ _ _ _)))
            dsimp only
            have HT3 := Lib.hid (HT.out.gn (Gn.below (w := W2) (w' := grow (W2.drewN nq) osq) ⟨nq, osq, rfl⟩))
            generalize grow (W2.drewN nq) osq = w3 at *
            go_wp2
            go_meet
            case rel => exact ⟨rfl, HT3.out⟩
      case rest =>
        obtain ⟨rfl, ht3⟩ := hcut
        have HT3 := Lib.hid ht3
        clear ht3 e0 e1 e2 e3 HC HE fxx hf f
        generalize wc = w3 at *
        have HD1 := Lib.hid (fun W => less_any a0 (xi, xs) (yi, ys) W)
        have HD2 := Lib.hid (fun W => less_any a0 (yi, ys) (zi, zs) W)
        have HD3 := Lib.hid (fun W => less_any a0 (xi, xs) (zi, zs) W)
        have htr := (swo a0).trans (xi, xs) (yi, ys) (zi, zs)
        obtain ⟨l1, hl1⟩ : ∃ l1, l1 = ltH a0 (xi, xs) (yi, ys) := ⟨_, rfl⟩
        obtain ⟨l2, hl2⟩ : ∃ l2, l2 = ltH a0 (yi, ys) (zi, zs) := ⟨_, rfl⟩
        obtain ⟨l3, hl3⟩ : ∃ l3, l3 = ltH a0 (xi, xs) (zi, zs) := ⟨_, rfl⟩
        rw [← hl1] at HD1
        rw [← hl2] at HD2
        rw [← hl3] at HD3
        have htr' : l1 = true → l2 = true → l3 = true := fun p q => hl3.trans (htr (hl1.symm.trans p) (hl2.symm.trans q))
        clear htr hl1 hl2 hl3
        obtain ⟨⟨e0, e1⟩, ⟨e2, e3⟩, ⟨e4, e5⟩⟩ := HLL.out w3 HT3.out
        go_wp2_with fail
        refine (HD1.out w3).mono ?_
        rintro e w4 ⟨rfl, g4⟩
        have HT4 := Lib.hid (HT3.out.gn g4.below)
        clear g4 e0 e1 e2 e3 e4 e5
        cases l1 with
        | false =>
          go_wp2_with fail
          refine (awake_any w4).mono ?_
          rintro e w6 ⟨rfl, b6⟩
          have HB6 := Lib.hid (HT4.out.bel.trans (b6.mono HT4.out.bel.size))
          clear b6
          go_wp2_with fail
          go_ret
          exact ⟨rfl, HB6.out⟩
        | true =>
          obtain ⟨⟨e0, e1⟩, ⟨e2, e3⟩, ⟨e4, e5⟩⟩ := HLL.out w4 HT4.out
          go_wp2_with fail
          refine (HD2.out w4).mono ?_
          rintro e w5 ⟨rfl, g5⟩
          have HT5 := Lib.hid (HT4.out.gn g5.below)
          clear g5 e0 e1 e2 e3 e4 e5
          cases l2 with
          | false =>
            go_wp2_with fail
            refine (awake_any w5).mono ?_
            rintro e w6 ⟨rfl, b6⟩
            have HB6 := Lib.hid (HT5.out.bel.trans (b6.mono HT5.out.bel.size))
            clear b6
            go_wp2_with fail
            go_ret
            exact ⟨rfl, HB6.out⟩
          | true =>
            have h3 : l3 = true := by simpa using htr'
            subst h3
            obtain ⟨⟨e0, e1⟩, ⟨e2, e3⟩, ⟨e4, e5⟩⟩ := HLL.out w5 HT5.out
            go_wp2_with fail
            refine (HD3.out w5).mono ?_
            rintro e w6 ⟨rfl, g6⟩
            have HT6 := Lib.hid (HT5.out.gn g6.below)
            clear g6 e0 e1 e2 e3 e4 e5
            go_wp2_with fail
            refine (awake_any w6).mono ?_
            rintro e w7 ⟨rfl, b7⟩
            have HB7 := Lib.hid (HT6.out.bel.trans (b7.mono HT6.out.bel.size))
            clear b7
            go_wp2_with fail
            go_ret
            exact ⟨rfl, HB7.out⟩

/-! ### The row -/
set_option maxRecDepth 100000 in
theorem lifted (os : Os) (started : os.Started) (H : Type) (enc : TypeId × Value → H) :
    ReturnsInHanded {} Try.checked os 6 .any (Rows.topkStrictSpec.pre6 enc Try.prog Try.f6 Rows.topkStrictRow.domain false) (Rows.topkStrictSpec.post enc Try.prog Try.f6 false true false false) := by
  refine returnsInHanded_of_change_sized (C := Try.checked) own started (by kernel_rfl) Try.func6
    (ChangeSpec.witness6 (enc := enc) (C := Try.checked) false ⟨#[], #[.int .i64 0, .agg #[.int .i64 0, .int .i64 0, .int .i64 0, .int .i64 0, .int .i64 0, .int .i64 0]], []⟩ 8 (by kernel_rfl) (by kernel_rfl) (by kernel_rfl) (by kernel_rfl)) ?_
  intro W base args ds gs before hval0 hW hcnd hsz0 _
  have hval : ∀ (j : Nat) t v, Try.f6.params[j]? = some t → args[j]? = some v → Value.okWide Try.prog W .any base t v := hval0
  have hW' := hW
  obtain ⟨p, q, hA0, hV, rfl, hfz, hnd⟩ := hW
  have hA : DataW.TrodAll enc Try.prog W 0 (fun _ => true) true Try.f6.params.toList args.toList ds p := hA0
  have hsz : (DataW.weightsEach Try.prog (Try.f6.params.toList ++ Rows.topkStrictSpec.plain.varTypes Try.prog) (ds ++ gs)).all (· ≤ reachBytes) = true := hsz0
  rw [Try.params6] at hA hval hsz
  obtain ⟨v0, vs0, d0, ds0, p0, q0, hargs, rfl, rfl, h0, r0⟩ := trodAll_cons hA
  obtain ⟨v1, vs1, d1, ds1, p1, q1, rfl, rfl, rfl, h1, r1⟩ := trodAll_cons r0
  obtain ⟨rfl, rfl, rfl⟩ := trodAll_nil r1
  obtain rfl : args = #[v0, v1] := by cases args; simp_all
  obtain ⟨rfl, rfl⟩ := trodVars_none hV
  obtain ⟨a0, rfl, rfl, rfl, w0⟩ := open_int Try.underlying3 (hval 0 3 v0 rfl rfl) h0
  have k1 := h1
  have lt1 : ∀ x ∈ p1, x.block < W.heap.size := by obtain ⟨m, hm⟩ := k1; exact DataW.trod_lt m _ _ _ hm
  obtain ⟨x1, y1, z1, rfl, ox1, oy1, oz1⟩ := open_hits3 (hval 1 42 v1 rfl rfl) h1
  clear hA0 hval0
  refine (walk a0 x1 y1 z1 W w0 ox1 oy1 oz1).mono fun e W' ⟨he, bel⟩ => ?_
  subst he
  exact ⟨_, rfl, _, _, _, [], _, [], hW', trodAll_mk1 (shut_bool Try.underlying4 _), (trodAll_cons_mk (shut_int Try.underlying3 w0) (trodAll_cons_mk (Below.trod laidOut (by kernel_rfl) (of_decide_eq_true (by kernel_rfl)) k1 bel lt1) trodAll_mk0)), rfl, bel.frame _, fun h => by cases h⟩

theorem over : Rows.topkStrictRow.holds Try.pinned (OpenSpec.ofChange Rows.topkStrictSpec) :=
  OpenClaim.holds_of_wide 6 Try.f6 rfl rfl rfl rfl rfl rfl rfl ⟨rfl, rfl, rfl, rfl, rfl⟩ rfl rfl rfl rfl rfl (by kernel_rfl) Try.func6 (by kernel_rfl)
    (of_decide_eq_true (by kernel_rfl)) (by unfold Func.isWrapper; first | (rw [if_pos (by decide +kernel)]; kernel_rfl) | (rw [if_neg (by decide +kernel)]; exact ⟨rfl, rfl⟩))
    (fun os started H enc _ => lifted os started H enc)

/-- The statement. -/
theorem proved : Rows.TopkStrictSaid := over
#print axioms proved
end Go.Proofs.Ytbgminlajcmomab.topkStrict
