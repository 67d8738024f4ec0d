/- payload's Same over points. Conditions: those that each theorem names. -/
import Derived.Test.YtifghohaelmjjaaDoorPlSm
namespace Go.Proofs.YtifghohaelmjjaaDoor
set_option linter.unusedVariables false
open Go Go.RowKit Go.Shelf Pl
theorem two_cells {w : World} {g : Nat} {a b : Value} {T : TypeId} (h : w.heap[g]? = some (.cells #[a, b] T (0, 0))) : w.cell? ⟨g, 0, none⟩ = some a ∧ w.cell? ⟨g, 1, none⟩ = some b := by
  constructor <;> rw [Lib.cell_of_heap h] <;> rfl
theorem two_boxes (w : World) (a b c d : Value) (T : TypeId) :
    (((w.alloc (.cells #[a, b] T)).alloc (.cells #[c, d] T)).cell? ⟨w.heap.size, 0, none⟩ = some a ∧ ((w.alloc (.cells #[a, b] T)).alloc (.cells #[c, d] T)).cell? ⟨w.heap.size, 1, none⟩ = some b) ∧
    (((w.alloc (.cells #[a, b] T)).alloc (.cells #[c, d] T)).cell? ⟨w.heap.size + 1, 0, none⟩ = some c ∧ ((w.alloc (.cells #[a, b] T)).alloc (.cells #[c, d] T)).cell? ⟨w.heap.size + 1, 1, none⟩ = some d) ∧
    Below w.heap.size w ((w.alloc (.cells #[a, b] T)).alloc (.cells #[c, d] T)) := by
  have h1 := heap_last (w.alloc (.cells #[a, b] T)) (.cells #[c, d] T)
  rw [show (w.alloc (.cells #[a, b] T)).heap.size = w.heap.size + 1 by simp] at h1
  refine ⟨two_cells ((heap_old _ _ (by simp)).trans (heap_last _ _)), two_cells h1, (fresh_alloc w _).alloc (by simp) _⟩
set_option maxHeartbeats 1000000 in
set_option maxRecDepth 100000 in
theorem sameVec_any (x y : Vec) (u v : Value) (w : World) (hu : IntsAt w u x.v) (hv : IntsAt w v y.v) (hx : x.v.length ≤ maxLen) (hy : y.v.length ≤ maxLen) :
    Calls Tryd.prog 67 #[.agg #[.string x.name, u], .agg #[.string y.name, v]] w fun e w' => e = .returned (.bool (isB (x = y))) ∧ Below w.heap.size w w' := by
  obtain ⟨xn, xv⟩ := x
  obtain ⟨yn, yv⟩ := y
  simp only at hu hv hx hy ⊢
  have HE := Lib.hid (fun W (g : Below w.heap.size w W) => equalInts_any xv yv u v W (hu.below g) (hv.below g) hx hy)
  have hsplit : isB ((⟨xn, xv⟩ : Vec) = ⟨yn, yv⟩) = ((xn.toList == yn.toList) && isB (xv = yv)) := isB_of (by simp only [Bool.and_eq_true, nm_eq, isB_iff, Vec.mk.injEq])
  rw [hsplit]
  clear hsplit
  obtain ⟨p1, c1, rfl, -⟩ := hu.form
  obtain ⟨p2, c2, rfl, -⟩ := hv.form
  clear hu hv hx hy
  obtain ⟨⟨a0, a1⟩, ⟨b0, b1⟩, hbe⟩ := two_boxes w (.string xn) (.slice p1 xv.length c1) (.string yn) (.slice p2 yv.length c2) 59
  have HB := Lib.hid hbe
  clear hbe
  generalize isB (xv = yv) = r at *
  generalize xv.length = m1 at *
  generalize yv.length = m2 at *
  go_enter Tryd.func67, Tryd.ntmps67
  cases hn : xn.toList == yn.toList with
  | true =>
    go_wp2_with fail
    refine (HE.out _ HB.out).mono ?_
    rintro e w2 ⟨rfl, b2⟩
    have HB2 := Lib.hid (HB.out.trans (b2.mono HB.out.size))
    clear b2 a0 a1 b0 b1
    go_wp2_with fail
    go_ret
    exact ⟨by simp, HB2.out⟩
  | false =>
    go_wp2_with fail
    go_ret
    exact ⟨by simp, HB.out⟩
theorem sameVec_enters : ∀ args w, (callFunc 67 args).run Tryd.prog w = .ok (.enter 67 args) w := enters_of Tryd.func67 (by kernel_rfl) rfl
set_option maxHeartbeats 2000000 in
set_option maxRecDepth 100000 in
theorem equalVecs_any (a b : List Vec) (u v : Value) (w : World) (hu : VecsAt w u a) (hv : VecsAt w v b) (ha : VecsOk a) (hb : VecsOk b) :
    Calls Tryd.prog 66 #[u, v, .func (.func 67) #[] #[]] w fun e w' => e = .returned (.bool (isB (a = b))) ∧ Below w.heap.size w w' := by
  have hg := sameVec_enters
  by_cases hl : a.length = b.length
  · rcases hu with ⟨rfl, q, c, rfl⟩ | ⟨b1, o1, c1, S1, rfl, hb1, hc1, hi1⟩
    · obtain rfl : b = [] := by cases b with | nil => rfl | cons _ _ => simp at hl
      obtain ⟨p2, c2, rfl⟩ := hv.form
      rw [isB_yes rfl]
      clear hv
      go_enter Tryd.func66, Tryd.ntmps66
      go_wp2
      go_loop [17] (fun i => i = .int .i64 0) (fun _ => 0)
      case atStart => rfl
      case round =>
        subst hrel
        go_wp2
        go_ret
        exact ⟨rfl, Below.refl _ _⟩
    · rcases hv with ⟨rfl, q, c, rfl⟩ | ⟨b2, o2, c2, S2, rfl, hb2, hc2, hi2⟩
      · obtain rfl : a = [] := by cases a with | nil => rfl | cons _ _ => simp at hl
        rw [isB_yes rfl]
        go_enter Tryd.func66, Tryd.ntmps66
        go_wp2
        go_loop [17] (fun i => i = .int .i64 0) (fun _ => 0)
        case atStart => rfl
        case round =>
          subst hrel
          go_wp2
          go_ret
          exact ⟨rfl, Below.refl _ _⟩
      · have H1 := Lib.hid hc1
        have H2 := Lib.hid hc2
        have I1 := Lib.hid hi1
        have I2 := Lib.hid hi2
        have HL := Lib.hid hl
        have HS := Lib.hid (room_len ha.1)
        have LA := Lib.hid ha.2
        have LB := Lib.hid hb.2
        have G1 := Lib.hid hb1
        have G2 := Lib.hid hb2
        obtain ⟨r, hr⟩ : ∃ r, r = isB (a = b) := ⟨_, rfl⟩
        rw [← hr]
        have HR := Lib.hid hr
        clear hc1 hc2 hi1 hi2 ha hb hr hb1 hb2
        rw [← hl]
        clear hl
        go_enter Tryd.func66, Tryd.ntmps66
        go_wp2
        go_loopw [17] (fun i wr => ∃ k : Nat, k ≤ a.length ∧ i = .int .i64 k ∧ Hid (a.take k = b.take k) ∧ Below w.heap.size w wr) (fun i _ => a.length - (intOf i).toNat)
        case atStart => exact ⟨0, Nat.zero_le _, rfl, Lib.hid rfl, Below.refl _ _⟩
        case round =>
          obtain ⟨k, hk, rfl, HT, hq⟩ := hrel
          have HQ := Lib.hid hq
          clear hq
          by_cases hlt : k < a.length
          · have hlt2 : k < b.length := HL.out ▸ hlt
            obtain ⟨g0, g1⟩ := H1.out wr (HQ.out.block b1 G1.out) k hlt
            have hrow2 : ∀ o, _ := fun o => H2.out (wr.alloc o) ((heap_old wr o (Nat.lt_of_lt_of_le G2.out HQ.out.size)).trans (HQ.out.block b2 G2.out)) k hlt2
            have hin1 := (I1.out k hlt).below HQ.out
            have hin2 := (I2.out k hlt2).below HQ.out
            have hs1 := (LA.out _ (List.getElem_mem hlt)).2
            have hs2 := (LB.out _ (List.getElem_mem hlt2)).2
            have HX := Lib.hid (List.getElem?_eq_getElem hlt)
            have HY := Lib.hid (List.getElem?_eq_getElem hlt2)
            generalize a[k] = x at *
            generalize b[k] = y at *
            obtain ⟨xn, xv⟩ := x
            obtain ⟨yn, yv⟩ := y
            simp only at g0 g1 hrow2 hin1 hin2 hs1 hs2
            generalize S1 k = sv1 at *
            generalize S2 k = sv2 at *
            obtain ⟨p1, q1, rfl, -⟩ := hin1.form
            obtain ⟨p2, q2, rfl, -⟩ := hin2.form
            have h0 := fun o => (hrow2 o).1
            have h1 := fun o => (hrow2 o).2
            obtain ⟨⟨d0, d1⟩, ⟨e0, e1⟩, hbe⟩ := two_boxes wr (.string xn) (.slice p1 xv.length q1) (.string yn) (.slice p2 yv.length q2) 59
            have HC := Lib.hid (sameVec_any ⟨xn, xv⟩ ⟨yn, yv⟩ _ _ _ (hin1.below hbe) (hin2.below hbe) (room_len hs1) (room_len hs2))
            have HBE := Lib.hid hbe
            clear hrow2 hin1 hin2 hs1 hs2 hbe
            by_cases hxy : (⟨xn, xv⟩ : Vec) = ⟨yn, yv⟩
            · rw [isB_yes hxy] at HC
              go_wp2_with fail
              refine HC.out.mono ?_
              rintro e w2 ⟨rfl, b3⟩
              have HB2 := Lib.hid (HQ.out.trans ((HBE.out.trans (b3.mono HBE.out.size)).mono HQ.out.size))
              clear b3 d0 d1 e0 e1 g0 g1 h0 h1
              go_wp2_with fail
              go_roundw
              case rel => exact ⟨k + 1, by omega, congrArg _ (wrap_s HS.out hlt), Lib.hid (take_next HX.out HY.out HT.out hxy), HB2.out⟩
              case measure =>
                rw [wrap_s HS.out hlt]
                exact int_less hlt
            · rw [isB_no hxy] at HC
              have HF : Hid (r = false) := Lib.hid (by rw [HR.out]; exact isB_no fun e => by subst e; exact hxy (Option.some.inj (HX.out.symm.trans HY.out)))
              go_wp2_with fail
              refine HC.out.mono ?_
              rintro e w2 ⟨rfl, b3⟩
              have HB2 := Lib.hid (HQ.out.trans ((HBE.out.trans (b3.mono HBE.out.size)).mono HQ.out.size))
              clear b3 d0 d1 e0 e1 g0 g1 h0 h1
              go_wp2_with fail
              go_ret
              exact ⟨by rw [HF.out]; rfl, HB2.out⟩
          · obtain rfl : k = a.length := by omega
            have HF : Hid (r = true) := Lib.hid (by rw [HR.out]; exact isB_yes (take_all HL.out HT.out))
            go_wp2_with fail
            go_ret
            exact ⟨by rw [HF.out]; rfl, HQ.out⟩
  · obtain ⟨p1, c1, rfl⟩ := hu.form
    obtain ⟨p2, c2, rfl⟩ := hv.form
    rw [isB_no (fun e : a = b => hl (by rw [e]))]
    have hl' : ((a.length : Int) == (b.length : Int)) = false := by simp; omega
    have hl2 : ((a.length : Int) != (b.length : Int)) = true := by simp; omega
    clear hu hv ha hb
    generalize a.length = n at *
    generalize b.length = m at *
    go_enter Tryd.func66, Tryd.ntmps66
    go_wp2_with fail
    go_ret
    exact ⟨rfl, Below.refl _ _⟩
end Go.Proofs.YtifghohaelmjjaaDoor
