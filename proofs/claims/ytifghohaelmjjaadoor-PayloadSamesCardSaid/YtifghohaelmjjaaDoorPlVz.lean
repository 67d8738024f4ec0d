/- The walk of PayloadValues. Conditions: those that the theorem names. -/
import Derived.Test.YtifghohaelmjjaaDoorPlVw
import Derived.Deep.RegionHeld3
namespace Go.Proofs.YtifghohaelmjjaaDoor
set_option linter.unusedVariables false
open Go Go.RowKit Go.Shelf Pl
/-- Two values in two blocks. -/
def TwoV (w : World) (k n : Int) (t : Nm) (k' n' : Int) (t' : Nm) (x : World) : Prop :=
  x.cell? ⟨w.heap.size, 0, none⟩ = some (.int .i64 k) ∧ x.cell? ⟨w.heap.size, 1, none⟩ = some (.int .i64 n) ∧ x.cell? ⟨w.heap.size, 2, none⟩ = some (.string t) ∧
  x.cell? ⟨w.heap.size + 1, 0, none⟩ = some (.int .i64 k') ∧ x.cell? ⟨w.heap.size + 1, 1, none⟩ = some (.int .i64 n') ∧ x.cell? ⟨w.heap.size + 1, 2, none⟩ = some (.string t') ∧
  Below w.heap.size w x ∧ w.heap.size + 2 ≤ x.heap.size
theorem TwoV.then {w x y : World} {k n k' n' : Int} {t t' : Nm} (h : TwoV w k n t k' n' t' x) (hb : Below x.heap.size x y) : TwoV w k n t k' n' t' y := by
  obtain ⟨h0, h1, h2, h3, h4, h5, h6, h7⟩ := h
  have c : ∀ g j v, g < w.heap.size + 2 → x.cell? ⟨g, j, none⟩ = v → y.cell? ⟨g, j, none⟩ = v := fun g j v hg e => by
    rw [← e]; exact World.cell?_of_block (w := x) (hb.block g (by omega))
  exact ⟨c _ _ _ (by omega) h0, c _ _ _ (by omega) h1, c _ _ _ (by omega) h2, c _ _ _ (by omega) h3, c _ _ _ (by omega) h4, c _ _ _ (by omega) h5, h6.trans (hb.mono h6.size), Nat.le_trans h7 hb.size⟩
def namesL : List Nm := [⟨#[97]⟩, ⟨#[98]⟩, ⟨#[99, 105, 116, 121]⟩, ⟨#[111, 112, 101, 110]⟩, ⟨#[]⟩]
theorem names_cells {w1 W2 : World} (h : w1.alloc (.cells #[.string ⟨#[97]⟩, .string ⟨#[98]⟩, .string ⟨#[99, 105, 116, 121]⟩, .string ⟨#[111, 112, 101, 110]⟩, .string ⟨#[]⟩] 9) = W2) :
    ∀ W : World, Below W2.heap.size W2 W → ∀ j, (hj : j < 5) → W.cell? ⟨w1.heap.size, j, none⟩ = some (.string (namesL[j]'hj)) := by
  subst h
  intro W hW j hj
  have hl := heap_last w1 (.cells #[.string ⟨#[97]⟩, .string ⟨#[98]⟩, .string ⟨#[99, 105, 116, 121]⟩, .string ⟨#[111, 112, 101, 110]⟩, .string ⟨#[]⟩] 9)
  have hb := hW.block w1.heap.size (by simp)
  rw [Lib.cell_of_heap (hb.trans hl)]
  have : j = 0 ∨ j = 1 ∨ j = 2 ∨ j = 3 ∨ j = 4 := by omega
  rcases this with rfl | rfl | rfl | rfl | rfl <;> rfl
set_option maxHeartbeats 4000000 in
set_option maxRecDepth 100000 in
theorem values_walk (k n : Int) (t : Nm) (k' n' : Int) (t' : Nm) (v : Value) (L : List Fld) (w : World) (G : Gp w) (h : FldsAt w v L) (hl : FldsOk L) :
    Calls Tryd.prog 6 #[.agg #[.int .i64 k, .int .i64 n, .string t], .agg #[.int .i64 k', .int .i64 n', .string t'], v] w fun e w' => e = .returned (.bool true) ∧ Below w.heap.size w w' := by
  have z := heap_last w (.cells #[.int .i64 k, .int .i64 n, .string t] 51)
  obtain ⟨a0, a1, a2⟩ := cells3_new z (.cells #[.int .i64 k', .int .i64 n', .string t'] 51)
  have z2 := heap_last (w.alloc (.cells #[.int .i64 k, .int .i64 n, .string t] 51)) (.cells #[.int .i64 k', .int .i64 n', .string t'] 51)
  rw [show (w.alloc (.cells #[.int .i64 k, .int .i64 n, .string t] 51)).heap.size = w.heap.size + 1 by simp] at z2
  obtain ⟨b0, b1, b2⟩ := cells3_of z2
  have HB := Lib.hid ((fresh_alloc w (.cells #[.int .i64 k, .int .i64 n, .string t] 51)).alloc (by simp) (.cells #[.int .i64 k', .int .i64 n', .string t'] 51))
  have HZ : Hid (w.heap.size + 2 ≤ ((w.alloc (.cells #[.int .i64 k, .int .i64 n, .string t] 51)).alloc (.cells #[.int .i64 k', .int .i64 n', .string t'] 51)).heap.size) := Lib.hid (by simp)
  clear z z2
  obtain ⟨F, hF⟩ : ∃ F, F = fun (k n : Int) (t : Nm) (k' n' : Int) (t' : Nm) => cmpV ⟨k, n, t⟩ ⟨k', n', t'⟩ := ⟨_, rfl⟩
  have H1 := Lib.hid (fun k n t k' n' t' W => compare_is k n k' n' t t' W)
  have H2 := Lib.hid (fun k n t k' n' t' W => rcompare_any k n k' n' t t' W)
  have hneg : wrap64 (-(cmpV ⟨k, n, t⟩ ⟨k', n', t'⟩)) = cmpV ⟨k', n', t'⟩ ⟨k, n, t⟩ := by
    rw [cmpV_turned ⟨k, n, t⟩ ⟨k', n', t'⟩]
    have := cmpV_bd ⟨k, n, t⟩ ⟨k', n', t'⟩
    unfold wrap64; omega
  have hneg2 : IntKind.i64.wrap (-(cmpV ⟨k, n, t⟩ ⟨k', n', t'⟩)) = cmpV ⟨k', n', t'⟩ ⟨k, n, t⟩ := by
    rw [cmpV_turned ⟨k, n, t⟩ ⟨k', n', t'⟩]
    have := cmpV_bd ⟨k, n, t⟩ ⟨k', n', t'⟩
    unfold IntKind.wrap; simp [IntKind.bits, IntKind.signed]; omega
  have hzero := cmpV_zero ⟨k, n, t⟩ ⟨k', n', t'⟩
  have HQ := fun W => eql_run k n k' n' t t' W
  rw [← hzero] at HQ
  have e1 : ∀ k n t k' n' t', cmpV ⟨k, n, t⟩ ⟨k', n', t'⟩ = F k n t k' n' t' := fun k n t k' n' t' => by rw [hF]
  simp only [e1] at H1 H2 hneg hneg2 HQ
  clear hzero e1 hF
  have HG := Lib.hid G
  have HL := Lib.hid h
  have HLO := Lib.hid hl
  have HW := Lib.hid (fun (x : World) (hx : TwoV w k n t k' n' t' x) => awake_yes x (G.fresh hx.2.2.2.2.2.2.1))
  clear G h hl
  go_enter Tryd.func6, Tryd.ntmps6
  go_wp2_with fail
  generalize (w.alloc (.cells #[.int .i64 k, .int .i64 n, .string t] 51)).alloc (.cells #[.int .i64 k', .int .i64 n', .string t'] 51) = W0 at *
  have hbd := HB.out.drew
  have hS0 : W0.drew.cell? ⟨w.heap.size, 0, none⟩ = some (.int .i64 k) ∧ W0.drew.cell? ⟨w.heap.size, 1, none⟩ = some (.int .i64 n) ∧ W0.drew.cell? ⟨w.heap.size, 2, none⟩ = some (.string t) ∧ W0.drew.cell? ⟨w.heap.size + 1, 0, none⟩ = some (.int .i64 k') ∧ W0.drew.cell? ⟨w.heap.size + 1, 1, none⟩ = some (.int .i64 n') ∧ W0.drew.cell? ⟨w.heap.size + 1, 2, none⟩ = some (.string t') ∧ Below w.heap.size w W0.drew ∧ w.heap.size + 2 ≤ W0.drew.heap.size := ⟨a0, a1, a2, b0, b1, b2, hbd, HZ.out⟩
  clear a0 a1 a2 b0 b1 b2 hbd HB HZ
  go_region_held3 (fun x => x.cell? ⟨w.heap.size, 0, none⟩ = some (.int .i64 k) ∧ x.cell? ⟨w.heap.size, 1, none⟩ = some (.int .i64 n) ∧ x.cell? ⟨w.heap.size, 2, none⟩ = some (.string t) ∧ x.cell? ⟨w.heap.size + 1, 0, none⟩ = some (.int .i64 k') ∧ x.cell? ⟨w.heap.size + 1, 1, none⟩ = some (.int .i64 n') ∧ x.cell? ⟨w.heap.size + 1, 2, none⟩ = some (.string t') ∧ Below w.heap.size w x ∧ w.heap.size + 2 ≤ x.heap.size)
    (first | assumption | exact TwoV.then (by assumption) hb | go_keep)
    (first
      | (go_at_call 21; refine (H1.out _ _ _ _ _ _ _).mono ?_; rintro e w1 ⟨rfl, hb⟩)
      | (go_at_call 22; refine (H2.out _ _ _ _ _ _ _).mono ?_; rintro e w1 ⟨rfl, hb⟩)
      | (go_at_call 15; refine (HW.out _ (by assumption)).mono ?_; rintro e w1 ⟨rfl, hb⟩))
  have hh : TwoV w k n t k' n' t' w1 := by assumption
  have HB1 := Lib.hid hh.2.2.2.2.2.2.1
  clear hS0 hneg hneg2 HQ H1 H2 HW hh
  generalize (F k n t k' n' t' == 0) = bz at *
  go_wp2_with fail
  generalize hW2 : World.alloc w1 _ = W2
  have hn := names_cells hW2
  have HB2 : Hid (Below w.heap.size w W2) := Lib.hid (by rw [← hW2]; exact HB1.out.alloc HB1.out.size _)
  have HNM := Lib.hid hn
  go_loopw [8] (fun i wr => ∃ j : Nat, j ≤ 5 ∧ i = .int .i64 j ∧ Below W2.heap.size W2 wr) (fun i _ => 5 - (intOf i).toNat)
  case atStart => exact ⟨0, by omega, rfl, Below.refl _ _⟩
  case round =>
    obtain ⟨j, hj, rfl, hb⟩ := hrel
    have HBR := Lib.hid (HB2.out.trans (hb.mono HB2.out.size))
    have HBJ := Lib.hid hb
    by_cases hlt : j < 5
    · have hcell := HNM.out wr hb j hlt
      have HNJ := Lib.hid (fun W (hW : Below W2.heap.size W2 W) => HNM.out W hW j hlt)
      have hlt' : (j : Int) < 5 := by omega
      generalize namesL[j] = s at *
      have hr : ∃ r, r = gotV (getL L s) := ⟨_, rfl⟩
      have hform : ∃ kd nn tt ok, gotV (getL L s) = .tuple #[.agg #[.int .i64 kd, .int .i64 nn, .string tt], .bool ok] := by
        cases getL L s with
        | none => exact ⟨_, _, _, _, rfl⟩
        | some x => exact ⟨_, _, _, _, rfl⟩
      obtain ⟨kd, nn, tt, ok, hgot⟩ := hform
      have HGET := Lib.hid (get_any L v s wr (HL.out.below HBR.out) HLO.out)
      have HRGET := Lib.hid (fun (x : World) (hx : Below w.heap.size w x) => rget_any L v s x (HL.out.below hx) HLO.out)
      rw [hgot] at HGET HRGET
      clear hgot hb hr HNM
      obtain ⟨wo, rfl⟩ : ∃ wo : World, wo = wr := ⟨_, rfl⟩
      go_wp2_with fail
      refine HGET.out.mono ?_
      rintro e w3 ⟨rfl, hb3⟩
      have HB3 := Lib.hid (HBR.out.trans (hb3.mono HBR.out.size))
      have HJ3 := Lib.hid (HBJ.out.trans (hb3.mono HBJ.out.size))
      have hcell2 : ∀ o, (w3.alloc o).cell? ⟨w1.heap.size, j, none⟩ = some (.string s) := fun o => HNJ.out _ (HJ3.out.alloc HJ3.out.size o)
      have HRG := Lib.hid (fun o => HRGET.out (w3.alloc o) (HB3.out.alloc HB3.out.size o))
      obtain ⟨p0, p1, p2⟩ := cells3_of (heap_last w3 (.cells #[.int .i64 kd, .int .i64 nn, .string tt] 51))
      have hsz3 : w3.heap.size < (w3.alloc (.cells #[.int .i64 kd, .int .i64 nn, .string tt] 51)).heap.size := by simp
      have HSZ3 := Lib.hid hsz3
      have P0 := Lib.hid p0
      have P1 := Lib.hid p1
      have P2 := Lib.hid p2
      have HA3 := Lib.hid (HB3.out.alloc HB3.out.size (.cells #[.int .i64 kd, .int .i64 nn, .string tt] 51))
      have HAJ3 := Lib.hid (HJ3.out.alloc HJ3.out.size (.cells #[.int .i64 kd, .int .i64 nn, .string tt] 51))
      clear hb3 HGET hcell hsz3 p0 p1 p2
      go_wp2_with fail
      refine (HRG.out _).mono ?_
      rintro e w4 ⟨rfl, hb4⟩
      generalize w3.alloc (.cells #[.int .i64 kd, .int .i64 nn, .string tt] 51) = w3' at *
      have old : ∀ i v, w3'.cell? ⟨w3.heap.size, i, none⟩ = v → ∀ o, (w4.alloc o).cell? ⟨w3.heap.size, i, none⟩ = v := fun i v hv o => by
        rw [← hv]
        exact World.cell?_of_block (w := w3') ((heap_old w4 o (Nat.lt_of_lt_of_le HSZ3.out hb4.size)).trans (hb4.block _ HSZ3.out))
      have d0 := old _ _ P0.out
      have d1 := old _ _ P1.out
      have d2 := old _ _ P2.out
      obtain ⟨e0, e1, e2⟩ := cells3_of (heap_last w4 (.cells #[.int .i64 kd, .int .i64 nn, .string tt] 51))
      have HB4 := Lib.hid (HA3.out.trans (hb4.mono HA3.out.size))
      have HJ4 := Lib.hid (HAJ3.out.trans (hb4.mono HAJ3.out.size))
      clear old P0 P1 P2 hb4 hcell2 HRG HNJ HRGET HSZ3
      go_wp2_with fail
      go_roundw
      case rel => exact ⟨j + 1, by omega, by go_num, HJ4.out.alloc HJ4.out.size _⟩
      case measure => simp [intOf]; omega
    · obtain rfl : j = 5 := by omega
      obtain ⟨wo, rfl⟩ : ∃ wo : World, wo = wr := ⟨_, rfl⟩
      clear hb
      go_wp2_with fail
      go_ret
      exact ⟨rfl, HBR.out⟩
end Go.Proofs.YtifghohaelmjjaaDoor
