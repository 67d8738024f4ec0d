/- For any metric, any two hits and any row of hits the law TopkOrders of the document's chapter 7 returns true over the program's own Less and Sort: which of two hits is better, any hits sorted, the list as it was. No condition. -/
import Derived.Test.YtbgminlajcmomabRows
import Derived.WalkKit
import Derived.ProofKit
import Derived.OpenShut
import Derived.ShutString
import Derived.ChangeOld
import Derived.Below
import Derived.SizedLaws
import Derived.Test.YtbgminlajcmomabTkArgs
import Derived.Deep.DeepCutAuto
namespace Go.Proofs.Ytbgminlajcmomab.topkOrders
open Go.ChangeShapes Go.WideShapes Go.ChangeAt Go.RowKit Go.Proofs.Ytbgminlajcmomab
open Go.ChangeMaps (open_string shut_string)
open Tk
set_option linter.unusedVariables false

theorem own : ownKnob Try.prog.godebug = none := by kernel_rfl
theorem laidOut : laidOutB Try.prog = true := by kernel_rfl

/-! ### The walk -/
open Go Go.Sort
abbrev obj2 (a b : Ht) : Obj := .cells #[.int .i64 a.1, .int .i64 a.2, .int .i64 b.1, .int .i64 b.2] 24
/-- Two boxes. -/
structure Tw (w W : World) (A B : Nat) (x y : Ht) : Prop where
  a : W.heap[A]? = some (hobj x)
  b : W.heap[B]? = some (hobj y)
  bel : RowKit.Below w.heap.size w W
theorem two_of (W : World) (a b : Ht) : (((W.alloc (hobj a)).alloc (hobj b)).drew).heap[W.heap.size]? = some (hobj a) ∧ (((W.alloc (hobj a)).alloc (hobj b)).drew).heap[W.heap.size + 1]? = some (hobj b) := by
  have s1 : (W.alloc (hobj a)).heap.size = W.heap.size + 1 := by simp
  refine ⟨(heap_old (W.alloc (hobj a)) _ (by rw [s1]; omega)).trans (heap_last W _), ?_⟩
  have := heap_last (W.alloc (hobj a)) (hobj b)
  rw [s1] at this
  exact this
theorem Tw.gn {w W W' : World} {A B : Nat} {x y : Ht} (h : Tw w W A B x y) (g : RowKit.Below W.heap.size W W') : Tw w W' A B x y :=
  ⟨(g.block A (Array.getElem?_eq_some_iff.1 h.a).1).trans h.a, (g.block B (Array.getElem?_eq_some_iff.1 h.b).1).trans h.b, h.bel.trans (g.mono h.bel.size)⟩
/-- Two rows of one's own, apart. -/
def SortsP (W4 : World) (L : List Ht) (p q : Value) (wx : World) : Prop :=
  OwnH wx W4.heap.size p L ∧ OwnH wx W4.heap.size q L ∧ (∀ g, p.ownBlock = some g → q.ownBlock ≠ some g) ∧ RowKit.Below W4.heap.size W4 wx
theorem sorts_done {W4 W5 w5 w6 : World} {L : List Ht} {u1 u2 : Value} (h2 : OwnH w6 w5.heap.size u2 L) (b2 : RowKit.Below w5.heap.size w5 w6) (h1 : OwnH w5 W5.heap.size u1 L) (b1 : RowKit.Below W5.heap.size W5 w5) (h0 : RowKit.Below W4.heap.size W4 W5) : SortsP W4 L u1 u2 w6 := by
  have hs := h0.size
  have hs5 := b1.size
  refine ⟨own_keep (Go.Joins.ownsRow_le h1 hs) (fun g e hg => b2.block g hg), Go.Joins.ownsRow_le h2 (Nat.le_trans hs hs5), fun g e1 e2 => ?_, (h0.trans (b1.mono hs)).trans (b2.mono (Nat.le_trans hs hs5))⟩
  have a := (h1.lt g e1).2
  have b := (h2.lt g e2).1
  omega
theorem sortH_len (m : Int) (l : List Ht) : (sortH m l).length ≤ l.length := by
  unfold sortH
  split
  · exact Nat.le_of_eq (srt_perm m l).length_eq
  · exact Nat.zero_le _
/-- A row that is spoilt, and apart from it a row that stays. -/
def SpoilP (W4 : World) (L L' : List Ht) (p q : Value) (wx : World) : Prop :=
  L'.length = L.length ∧ wx.ownsRow 0 23 2 p L.length (hCells L') ∧ OwnH wx W4.heap.size q L ∧ (∀ g, p.ownBlock = some g → W4.heap.size ≤ g ∧ q.ownBlock ≠ some g) ∧ RowKit.Below W4.heap.size W4 wx
theorem SpoilP.set {W4 wx : World} {L L' : List Ht} {g cap : Nat} {q : Value} (h : SpoilP W4 L L' (.slice (some ⟨g, 0, none⟩) L.length cap) q wx) (j : Nat) (x : Ht) :
    SpoilP W4 L (L'.set j x) (.slice (some ⟨g, 0, none⟩) L.length cap) q ((wx.setCell ⟨g, j * 2, none⟩ (.int .i64 x.1)).setCell ⟨g, j * 2 + 1, none⟩ (.int .i64 x.2)) := by
  obtain ⟨hl, ho, hq, hap, hb⟩ := h
  have how : OwnH wx 0 (.slice (some ⟨g, 0, none⟩) L'.length cap) L' := by show World.ownsRow _ _ _ _ _ _ _; rw [hl]; exact ho
  have hs := own_set (v := .bool true) how j x
  have hg : Gr (one' g) wx ((wx.setCell ⟨g, j * 2, none⟩ (.int .i64 x.1)).setCell ⟨g, j * 2 + 1, none⟩ (.int .i64 x.2)) := gr_set (gr_set (Gr.refl _ _) _ _) _ _
  obtain ⟨hg1, hg2⟩ := hap g rfl
  refine ⟨by simpa using hl, ?_, own_keep hq (fun g' e hg' => hg.block g' hg' (fun e2 => hg2 (by rw [e, show g' = g from e2]))), fun g' e => hap g' e, hb.trans (hg.below (fun b hb2 e => by have : b = g := e; omega) hb.size)⟩
  have h2 : World.ownsRow _ _ _ _ _ _ _ := hs
  rw [List.length_set, hl] at h2
  exact h2
theorem hsP_at {w : World} {v : Value} {L : List Ht} (h : HsP w v L) : HsAt w v L := by
  rcases h with ⟨rfl, c, rfl⟩ | ⟨g, off, c, rfl, hg, hc⟩
  · exact .inl ⟨rfl, _, _, rfl⟩
  · exact .inr ⟨g, off, c, rfl, hg, fun W hW j hj => ⟨hc W hW _ _ (hCells_at L j hj).1, hc W hW _ _ (hCells_at L j hj).2⟩⟩
theorem given_hsP {W : World} {base c : Nat} {p : Option Addr} {L : List Ht} {x : Ht} (h : OwnH W base (.slice p (L.length + 1) c) (L ++ [x])) : HsP W (.slice p L.length c) L := by
  have hl : (L ++ [x]).length = L.length + 1 := by simp
  obtain ⟨g, cap, e, hb, hg, hc⟩ := own_at h (by rw [hl]; omega)
  rw [hl] at e hc
  injection e with e1 e2 e3
  subst e1
  refine .inr ⟨g, 0, c, rfl, hg, fun Y hY j u hj => ?_⟩
  have hj2 : j < (hCells L).length := (List.getElem?_eq_some_iff.1 hj).1
  have hj3 := hCells_len L
  rw [Nat.zero_add]
  exact hc Y hY j u (by omega) (by rw [hCells_add, List.getElem?_append_left hj2]; exact hj)
set_option maxHeartbeats 2000000 in
set_option maxRecDepth 100000 in
theorem walk (a0 : Int) (x1 y1 : Ht) (v2 : Value) (l2 : List Ht) (w : World) (w0 : (Lit.int .i64 a0).wf = true) (ox1 : OkH x1) (oy1 : OkH y1) (wf2 : HsAt w v2 l2) (s2 : l2.length * 16 ≤ 140737488351232) (ok2 : ∀ y ∈ l2, OkH y) :
    Calls Try.prog 3 #[.int .i64 a0, .agg #[.int .i64 x1.1, .int .i64 x1.2, .int .i64 y1.1, .int .i64 y1.2], v2] w fun e w' => e = .returned (.bool true) ∧ Below w.heap.size w w' := by
  have mixed : Try.prog.follows .mixedOrders = true := by kernel_rfl
  obtain ⟨xi, xs⟩ := x1
  obtain ⟨yi, ys⟩ := y1
  have HB0 := Lib.hid (fresh_alloc w (obj2 (xi, xs) (yi, ys)))
  have hl := heap_last w (obj2 (xi, xs) (yi, ys))
  have c0 : ∀ W : World, W.heap[w.heap.size]? = some (obj2 (xi, xs) (yi, ys)) → W.cell? ⟨w.heap.size, 0, none⟩ = some (.int .i64 xi) ∧ W.cell? ⟨w.heap.size, 1, none⟩ = some (.int .i64 xs) ∧ W.cell? ⟨w.heap.size, 2, none⟩ = some (.int .i64 yi) ∧ W.cell? ⟨w.heap.size, 3, none⟩ = some (.int .i64 ys) := fun W hW => by
    refine ⟨?_, ?_, ?_, ?_⟩ <;> (rw [Lib.cell_of_heap (fr := (0, 0)) hW]; rfl)
  have z1 := fun o => (heap_old (w.alloc (obj2 (xi, xs) (yi, ys))) o (by simp)).trans hl
  have z2 := fun o o' => (heap_old ((w.alloc (obj2 (xi, xs) (yi, ys))).alloc o) o' (by simp; omega)).trans (z1 o)
  obtain ⟨s00, s01, s02, s03⟩ := c0 _ hl
  have s10 := fun o => (c0 _ (z1 o)).1
  have s11 := fun o => (c0 _ (z1 o)).2.1
  have s12 := fun o => (c0 _ (z1 o)).2.2.1
  have s13 := fun o => (c0 _ (z1 o)).2.2.2
  have s20 := fun o o' => (c0 _ (z2 o o')).1
  have s21 := fun o o' => (c0 _ (z2 o o')).2.1
  have s22 := fun o o' => (c0 _ (z2 o o')).2.2.1
  have s23 := fun o o' => (c0 _ (z2 o o')).2.2.2
  have HL := Lib.hid wf2
  have HN := Lib.hid s2
  have hm : l2.length ≤ maxLen := by unfold maxLen; omega
  have HM := Lib.hid hm
  obtain ⟨pp, cc, rfl⟩ := wf2.form
  clear hl c0 z1 z2 wf2 s2 ok2 hm
  go_enter Try.func3, Try.ntmps3
  go_wp2_with fail
  generalize w.alloc (obj2 (xi, xs) (yi, ys)) = W at *
  go_cut [7, 8] (fun p q wx => ∃ A B, p = .pointer (some ⟨A, 0, none⟩) ∧ q = .pointer (some ⟨B, 0, none⟩) ∧ Tw w wx A B (xi, xs) (yi, ys))
  case first =>
    go_region
    all_goals
      go_wp2_with fail
      go_meet
      refine ⟨_, _, rfl, rfl, ?_, ?_, ?_⟩
      · first | exact (two_of W (xi, xs) (yi, ys)).1 | exact (two_of W (yi, ys) (xi, xs)).2
      · first | exact (two_of W (xi, xs) (yi, ys)).2 | exact (two_of W (yi, ys) (xi, xs)).1
      · exact HB0.out.trans ((((Gn.refl W).alloc _).alloc _).drew.below.mono HB0.out.size)
  case rest =>
    obtain ⟨A, B, rfl, rfl, ht⟩ := hcut
    have HT := Lib.hid ht
    clear ht s00 s01 s02 s03 s10 s11 s12 s13 s20 s21 s22 s23
    generalize wc = W2 at *
    obtain ⟨v1, W3, happ1, ho1, hg1⟩ := append_hits0 (base := W2.heap.size) (HL.out.below HT.out.bel) (by have := HN.out; omega) (Nat.le_refl _)
    have hb1 : RowKit.Below W2.heap.size W2 W3 := (Below.refl _ W2).grown hg1 (Nat.le_refl _) (fun k hk => by cases hk)
    obtain ⟨v2, W4, happ2, ho2, hb2, p2, q2, rfl⟩ := push_hit (-77, 0) ho1 (by have := HN.out; omega) hb1.size
    have HT4 := Lib.hid (HT.out.gn (hb1.trans hb2))
    have HO4 := Lib.hid ho2
    have HA1 := Lib.hid happ1
    have HA2 := Lib.hid happ2
    obtain ⟨p1, c1, rfl⟩ := (own_hits ho1).form
    clear happ1 happ2 ho1 ho2 hg1 hb1 hb2
    go_wp2_with (at_builtin; first | (refine wpList_append_run rfl _ _ _ _ rfl _ _ (.slice p1 l2.length c1) W3 rfl rfl (fun ty => HA1.out ty) ?_; clear HA1) | (refine wpList_append_run rfl _ _ _ _ rfl _ _ (.slice p2 (l2.length + 1) q2) W4 rfl rfl (fun ty => HA2.out ty) ?_; clear HA2))
    have HGS := Lib.hid (given_hsP HO4.out)
    have HCS := Lib.hid (fun (x : World) (b : RowKit.Below W4.heap.size W4 x) => sort_any a0 l2 _ x (HGS.out.below b) (by have := HN.out; omega))
    have HS4 : Hid (l2.length ≤ q2) := Lib.hid (by
      rcases HO4.out.2 with ⟨e, _⟩ | ⟨g, cap, cur, e, _, _, h, _⟩
      · injection e with _ e2 _
        omega
      · injection e with _ _ e3
        subst e3
        simp only [List.length_append, List.length_singleton] at h
        omega)
    have hq : (l2.length : Int) ≤ (q2 : Int) := by have := HS4.out; omega
    have hq0 : (0 : Int) ≤ (l2.length : Int) := by omega
    have KEEP : ∀ {x y : World}, RowKit.Below W4.heap.size W4 x → RowKit.Below x.heap.size x y → RowKit.Below W4.heap.size W4 y := fun h g => h.trans (g.mono h.size)
    have hS0 : RowKit.Below W4.heap.size W4 W4.drew := (Gn.refl W4).drew.below
    go_upto_region 3 with fail
    go_cut [10, 11] (fun p q wx => SortsP W4 (sortH a0 l2) p q wx)
    case first =>
      go_region_held3 (fun x => RowKit.Below W4.heap.size W4 x) (first | assumption | exact KEEP (by assumption) (by assumption) | go_keep)
        (first | (go_at_call 8; refine (HCS.out _ (by assumption)).mono ?_; rintro e wk ⟨u, rfl, ho, hb⟩))
      all_goals
        go_wp2_with fail
        go_meet
        exact sorts_done (by assumption) (by assumption) (by assumption) (by assumption) (by assumption)
    case rest =>
      obtain ⟨hox, hoy, hap, hbb⟩ := hcut
      have hsl := sortH_len a0 l2
      have HO44 := HO4.out
      obtain ⟨px, cx, rfl⟩ := (own_hits hox).form
      have HSO := Lib.hid (sort_alike a0 l2)
      generalize sortH a0 l2 = S at *
      have hsp : SpoilP W4 S S (.slice px S.length cx) u11 wc := ⟨rfl, Go.Joins.ownsRow_le hox (Nat.zero_le _), hoy, fun g e => ⟨(hox.lt g e).1, hap g e⟩, hbb⟩
      have HSP0 := Lib.hid hsp
      have hnl : S.length ≤ maxLen := Nat.le_trans hsl HM.out
      have HNL := Lib.hid hnl
      have HSL := Lib.hid hsl
      clear hsp hox hoy hap hbb hsl hnl hS0 HCS KEEP HO44
      go_wp2_with fail
      go_loopw [12] (fun i wx => ∃ (j : Nat) (L' : List Ht), i = .int .i64 j ∧ j ≤ S.length ∧ Hid (SpoilP W4 S L' (.slice px S.length cx) u11 wx)) (fun i _ => S.length - (intOf i).toNat)
      case atStart => exact ⟨0, S, rfl, Nat.zero_le _, HSP0⟩
      case round =>
        obtain ⟨j, L', rfl, hj, HSP⟩ := hrel
        by_cases hlt2 : j < S.length
        · generalize wr = wx at *
          obtain ⟨hl', how, -⟩ := HSP.out
          obtain ⟨g, cap, e, -⟩ := own_at how (by omega)
          injection e with e1 e2 e3
          clear e2
          subst e1
          subst e3
          have how' : OwnH wx 0 (.slice (some ⟨g, 0, none⟩) L'.length cx) L' := by show World.ownsRow _ _ _ _ _ _ _; rw [hl']; exact how
          have q0 : wx.cell? ⟨g, j * 2, none⟩ = some (.int .i64 (L'[j]!).1) := by rw [get!_of (by omega)]; exact (how'.cellAt _ (by omega)).trans (hCells_at L' j (by omega)).1
          have q1 : wx.cell? ⟨g, j * 2 + 1, none⟩ = some (.int .i64 (L'[j]!).2) := by rw [get!_of (by omega)]; exact (how'.cellAt _ (by omega)).trans (hCells_at L' j (by omega)).2
          have z0 := how'.frozenAt (j * 2)
          have z1 := how'.frozenAt (j * 2 + 1)
          have HS0 := Lib.hid (HSP.out.set j (-78, 0))
          clear how how' hl'
          go_wp2_with fail
          go_roundw
          case rel => exact ⟨j + 1, _, congrArg _ (wrap_s HNL.out hlt2), by omega, HS0⟩
          case measure =>
            rw [wrap_s HNL.out hlt2]
            exact int_less hlt2
        · obtain rfl : j = S.length := by omega
          generalize wr = w5 at *
          obtain ⟨-, -, hoy, -, hbb⟩ := HSP.out
          obtain ⟨gg, capg, e, -, hgg, hcg⟩ := own_at HO4.out (by simp)
          have hll : (l2 ++ [((-77 : Int), (0 : Int))]).length = l2.length + 1 := by simp
          rw [hll] at e
          injection e with e1 e2 e3
          clear e2
          subst e1
          subst e3
          have hc77 : ∀ W : World, W.heap[gg]? = W4.heap[gg]? → W.cell? ⟨gg, l2.length * 2, none⟩ = some (.int .i64 (-77)) := fun W hW => hcg W hW _ _ (by rw [hll]; omega) (by
            have := (hCells_at (l2 ++ [((-77 : Int), (0 : Int))]) l2.length (by rw [hll]; omega)).1
            simpa using this)
          have CELL : ∀ x, RowKit.Below w5.heap.size w5 x → x.cell? ⟨A, 0, none⟩ = some (.int .i64 xi) ∧ x.cell? ⟨A, 1, none⟩ = some (.int .i64 xs) ∧ x.cell? ⟨B, 0, none⟩ = some (.int .i64 yi) ∧ x.cell? ⟨B, 1, none⟩ = some (.int .i64 ys) ∧ x.cell? ⟨gg, l2.length * 2, none⟩ = some (.int .i64 (-77)) ∧ RowKit.Below w5.heap.size w5 x := fun x b => by
            have b4 : RowKit.Below W4.heap.size W4 x := hbb.trans (b.mono hbb.size)
            have t := HT4.out.gn b4
            obtain ⟨a0, a1⟩ := two_cells t.a
            obtain ⟨b0, b1⟩ := two_cells t.b
            exact ⟨a0, a1, b0, b1, hc77 x (b4.block gg hgg), b⟩
          have KEEP : ∀ {x y : World}, (x.cell? ⟨A, 0, none⟩ = some (.int .i64 xi) ∧ x.cell? ⟨A, 1, none⟩ = some (.int .i64 xs) ∧ x.cell? ⟨B, 0, none⟩ = some (.int .i64 yi) ∧ x.cell? ⟨B, 1, none⟩ = some (.int .i64 ys) ∧ x.cell? ⟨gg, l2.length * 2, none⟩ = some (.int .i64 (-77)) ∧ RowKit.Below w5.heap.size w5 x) → RowKit.Below x.heap.size x y → (y.cell? ⟨A, 0, none⟩ = some (.int .i64 xi) ∧ y.cell? ⟨A, 1, none⟩ = some (.int .i64 xs) ∧ y.cell? ⟨B, 0, none⟩ = some (.int .i64 yi) ∧ y.cell? ⟨B, 1, none⟩ = some (.int .i64 ys) ∧ y.cell? ⟨gg, l2.length * 2, none⟩ = some (.int .i64 (-77)) ∧ RowKit.Below w5.heap.size w5 y) := fun {x y} h b => CELL y (h.2.2.2.2.2.trans (b.mono h.2.2.2.2.2.size))
          have BEL : ∀ {x : World}, (x.cell? ⟨A, 0, none⟩ = some (.int .i64 xi) ∧ x.cell? ⟨A, 1, none⟩ = some (.int .i64 xs) ∧ x.cell? ⟨B, 0, none⟩ = some (.int .i64 yi) ∧ x.cell? ⟨B, 1, none⟩ = some (.int .i64 ys) ∧ x.cell? ⟨gg, l2.length * 2, none⟩ = some (.int .i64 (-77)) ∧ RowKit.Below w5.heap.size w5 x) → RowKit.Below w5.heap.size w5 x := fun h => h.2.2.2.2.2
          have hS0 := CELL w5.drew (Gn.refl w5).drew.below
          obtain ⟨r, hr⟩ : ∃ r, r = ltH a0 (xi, xs) (yi, ys) := ⟨_, rfl⟩
          have C1 : Hid (∀ x, Calls Try.prog 9 #[.int .i64 a0, .agg #[.int .i64 xi, .int .i64 xs], .agg #[.int .i64 yi, .int .i64 ys]] x fun e w' => e = .returned (.bool r) ∧ RowKit.Below x.heap.size x w') := Lib.hid (fun x => by
            rw [hr]
            exact (less_any a0 (xi, xs) (yi, ys) x).mono fun e w' h => ⟨h.1, h.2.below⟩)
          have C2 : Hid (∀ x, Calls Try.prog 10 #[.int .i64 a0, .agg #[.int .i64 xi, .int .i64 xs], .agg #[.int .i64 yi, .int .i64 ys]] x fun e w' => e = .returned (.bool r) ∧ RowKit.Below x.heap.size x w') := Lib.hid (fun x => by
            rw [hr]
            exact (rless_any a0 (xi, xs) (yi, ys) x).mono fun e w' h => ⟨h.1, h.2.below⟩)
          have C3 : Hid (∀ x, RowKit.Below w5.heap.size w5 x → Calls Try.prog 12 #[.int .i64 a0, .slice pp l2.length cc] x fun e w' => ∃ u, e = .returned u ∧ OwnH w' x.heap.size u S ∧ RowKit.Below x.heap.size x w') := Lib.hid (fun x b => by
            have hx := rsort_any a0 l2 (.slice pp l2.length cc) x (HL.out.below (HT4.out.bel.trans ((hbb.trans (b.mono hbb.size)).mono HT4.out.bel.size))) (by have := HN.out; omega)
            rw [HSO.out] at hx
            exact hx)
          have C4 : Hid (∀ x u, RowKit.Below w5.heap.size w5 x → HsAt x u S → Calls Try.prog 11 #[u11, u] x fun e w' => e = .returned (.bool true) ∧ RowKit.Below x.heap.size x w') := Lib.hid (fun x u b hu => by
            have hx := same_any S S u11 u x ((own_hits hoy).below b) hu HNL.out
            rw [decide_eq_true rfl] at hx
            exact hx.mono fun e w' h => ⟨h.1, h.2.below⟩)
          have C5 : Hid (∀ x, RowKit.Below w5.heap.size w5 x → Calls Try.prog 11 #[.slice (some ⟨gg, 0, none⟩) l2.length q2, .slice pp l2.length cc] x fun e w' => e = .returned (.bool true) ∧ RowKit.Below x.heap.size x w') := Lib.hid (fun x b => by
            have b4 : RowKit.Below W4.heap.size W4 x := hbb.trans (b.mono hbb.size)
            have hx := same_any l2 l2 _ _ x ((hsP_at HGS.out).below b4) (HL.out.below (HT4.out.bel.trans (b4.mono HT4.out.bel.size))) HM.out
            rw [decide_eq_true rfl] at hx
            exact hx.mono fun e w' h => ⟨h.1, h.2.below⟩)
          have hidx : (l2.length : Int) < ((l2.length + 1 : Nat) : Int) := by omega
          have HB5 := Lib.hid (HT4.out.bel.trans (hbb.mono HT4.out.bel.size))
          clear hc77 hcg hll hgg hoy hbb CELL hr HSP HSO HSP0 HSL HGS HO4 HT HT4 HL
          generalize l2.length + 1 = N1 at *
          go_wp2_with fail
          cases r
          all_goals
            go_region_held3 (fun x => x.cell? ⟨A, 0, none⟩ = some (.int .i64 xi) ∧ x.cell? ⟨A, 1, none⟩ = some (.int .i64 xs) ∧ x.cell? ⟨B, 0, none⟩ = some (.int .i64 yi) ∧ x.cell? ⟨B, 1, none⟩ = some (.int .i64 ys) ∧ x.cell? ⟨gg, l2.length * 2, none⟩ = some (.int .i64 (-77)) ∧ RowKit.Below w5.heap.size w5 x) (first | assumption | exact KEEP (by assumption) hb | go_keep)
              (first
                | (go_at_call 9; refine (C1.out _).mono ?_; rintro e wk ⟨rfl, hb⟩)
                | (go_at_call 10; refine (C2.out _).mono ?_; rintro e wk ⟨rfl, hb⟩)
                | (go_at_call 12; refine (C3.out _ (BEL (by assumption))).mono ?_; rintro e wk ⟨u, rfl, ho, hb⟩)
                | (go_at_call 11; refine (C4.out _ _ (BEL (by assumption)) (own_hits (by assumption))).mono ?_; clear C4; rintro e wk ⟨rfl, hb⟩)
                | (go_at_call 11; refine (C5.out _ (BEL (by assumption))).mono ?_; rintro e wk ⟨rfl, hb⟩)
                | (go_at_call 13; refine (awake_any _).mono ?_; rintro e wk ⟨rfl, hb⟩))
          all_goals
            go_wp2_with fail
            go_ret
            exact ⟨rfl, HB5.out.trans ((BEL (by assumption)).mono HB5.out.size)⟩

/-! ### The row -/
set_option maxRecDepth 100000 in
theorem lifted (os : Os) (started : os.Started) (H : Type) (enc : TypeId × Value → H) :
    ReturnsInHanded {} Try.checked os 3 .any (Rows.topkOrdersSpec.pre6 enc Try.prog Try.f3 Rows.topkOrdersRow.domain false) (Rows.topkOrdersSpec.post enc Try.prog Try.f3 false true false false) := by
  refine returnsInHanded_of_change_sized (C := Try.checked) own started (by kernel_rfl) Try.func3
    (ChangeSpec.witness6 (enc := enc) (C := Try.checked) false ⟨#[], #[.int .i64 0, .agg #[.int .i64 0, .int .i64 0, .int .i64 0, .int .i64 0], .slice none 0 0], []⟩ 8 (by kernel_rfl) (by kernel_rfl) (by kernel_rfl) (by kernel_rfl)) ?_
  intro W base args ds gs before hval0 hW hcnd hsz0 _
  have hval : ∀ (j : Nat) t v, Try.f3.params[j]? = some t → args[j]? = some v → Value.okWide Try.prog W .any base t v := hval0
  have hW' := hW
  obtain ⟨p, q, hA0, hV, rfl, hfz, hnd⟩ := hW
  have hA : DataW.TrodAll enc Try.prog W 0 (fun _ => true) true Try.f3.params.toList args.toList ds p := hA0
  have hsz : (DataW.weightsEach Try.prog (Try.f3.params.toList ++ Rows.topkOrdersSpec.plain.varTypes Try.prog) (ds ++ gs)).all (· ≤ reachBytes) = true := hsz0
  rw [Try.params3] at hA hval hsz
  obtain ⟨v0, vs0, d0, ds0, p0, q0, hargs, rfl, rfl, h0, r0⟩ := trodAll_cons hA
  obtain ⟨v1, vs1, d1, ds1, p1, q1, rfl, rfl, rfl, h1, r1⟩ := trodAll_cons r0
  obtain ⟨v2, vs2, d2, ds2, p2, q2, rfl, rfl, rfl, h2, r2⟩ := trodAll_cons r1
  obtain ⟨rfl, rfl, rfl⟩ := trodAll_nil r2
  obtain rfl : args = #[v0, v1, v2] := by cases args; simp_all
  obtain ⟨rfl, rfl⟩ := trodVars_none hV
  obtain ⟨a0, rfl, rfl, rfl, w0⟩ := open_int Try.underlying3 (hval 0 3 v0 rfl rfl) h0
  have k1 := h1
  have lt1 : ∀ x ∈ p1, x.block < W.heap.size := by obtain ⟨m, hm⟩ := k1; exact DataW.trod_lt m _ _ _ hm
  obtain ⟨x1, y1, rfl, ox1, oy1⟩ := open_hits2 (hval 1 24 v1 rfl rfl) h1
  have k2 := h2
  have lt2 : ∀ x ∈ p2, x.block < W.heap.size := by obtain ⟨m, hm⟩ := k2; exact DataW.trod_lt m _ _ _ hm
  obtain ⟨a2, len2, cap2, rfl⟩ := okWide_slice Try.underlying25 (hval 2 25 v2 rfl rfl)
  obtain ⟨fuel2, hf2⟩ := h2
  obtain ⟨u2, l2, hcs2, wf2, ok2, hd2⟩ := open_hits hf2
  obtain rfl : u2 = .slice a2 len2 cap2 := by have hc := hcs2; simp [Value.cells] at hc; exact hc.symm
  have s2 := sized_hits hsz (j := 2) rfl rfl hd2
  clear hA0 hval0
  refine (walk a0 x1 y1 (.slice a2 len2 cap2) l2 W w0 ox1 oy1 wf2 s2 ok2).mono fun e W' ⟨he, bel⟩ => ?_
  subst he
  exact ⟨_, rfl, _, _, _, [], _, [], hW', trodAll_mk1 (shut_bool Try.underlying4 _), (trodAll_cons_mk (shut_int Try.underlying3 w0) (trodAll_cons_mk (Below.trod laidOut (by kernel_rfl) (of_decide_eq_true (by kernel_rfl)) k1 bel lt1) (trodAll_cons_mk (Below.trod laidOut (by kernel_rfl) (of_decide_eq_true (by kernel_rfl)) k2 bel lt2) trodAll_mk0))), rfl, bel.frame _, fun h => by cases h⟩

theorem over : Rows.topkOrdersRow.holds Try.pinned (OpenSpec.ofChange Rows.topkOrdersSpec) :=
  OpenClaim.holds_of_wide 3 Try.f3 rfl rfl rfl rfl rfl rfl rfl ⟨rfl, rfl, rfl, rfl, rfl⟩ rfl rfl rfl rfl rfl (by kernel_rfl) Try.func3 (by kernel_rfl)
    (of_decide_eq_true (by kernel_rfl)) (by unfold Func.isWrapper; first | (rw [if_pos (by decide +kernel)]; kernel_rfl) | (rw [if_neg (by decide +kernel)]; exact ⟨rfl, rfl⟩))
    (fun os started H enc _ => lifted os started H enc)

/-- The statement. -/
theorem proved : Rows.TopkOrdersSaid := over
#print axioms proved
end Go.Proofs.Ytbgminlajcmomab.topkOrders
