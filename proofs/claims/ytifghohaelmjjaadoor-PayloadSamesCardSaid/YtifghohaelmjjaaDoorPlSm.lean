/- Whether two points are the same: payload's Same. Conditions: those that each theorem names. -/
import Derived.Test.YtifghohaelmjjaaDoorPlVw
import Derived.Deep.QuietTactic
namespace Go.Proofs.YtifghohaelmjjaaDoor
set_option linter.unusedVariables false
open Go Go.RowKit Go.Shelf Pl
/-- Is it so? -/
noncomputable def isB (p : Prop) : Bool := @decide p (Classical.propDecidable p)
theorem isB_yes {p : Prop} (h : p) : isB p = true := by unfold isB; exact @decide_eq_true p (Classical.propDecidable p) h
theorem isB_no {p : Prop} (h : ¬ p) : isB p = false := by unfold isB; exact @decide_eq_false p (Classical.propDecidable p) h
theorem isB_iff {p : Prop} : isB p = true ↔ p := by
  constructor
  · intro h; unfold isB at h; exact @of_decide_eq_true p (Classical.propDecidable p) h
  · exact isB_yes
theorem isB_of {p : Prop} {b : Bool} (h : b = true ↔ p) : isB p = b := by
  cases b with
  | true => exact isB_yes (h.mp rfl)
  | false => exact isB_no fun c => by have := h.mpr c; cases this
theorem nm_eq {a b : Nm} : (a.toList == b.toList) = true ↔ a = b := by
  rw [Go.ByteArray.toList_eq, Go.ByteArray.toList_eq]
  constructor
  · intro h
    have h2 : a.data.toList = b.data.toList := by simpa using h
    cases a; cases b
    simp only at h2
    rw [Array.toList_inj.mp h2]
  · rintro rfl; simp
theorem nm_eq' {a b : Nm} : a.toList = b.toList ↔ a = b := by rw [← nm_eq]; simp
theorem eqV_iff {a b : Val} : eqV a b = true ↔ a = b := by
  obtain ⟨k, n, t⟩ := a
  obtain ⟨k', n', t'⟩ := b
  simp only [eqV, eqT, Bool.and_eq_true, beq_iff_eq, nm_eq', Val.mk.injEq]
def eqF (f g : Fld) : Bool := (f.name.toList == g.name.toList) && eqV f.val g.val
theorem eqF_iff {f g : Fld} : eqF f g = true ↔ f = g := by
  obtain ⟨a, x⟩ := f
  obtain ⟨b, y⟩ := g
  simp only [eqF, Bool.and_eq_true, nm_eq, eqV_iff, Fld.mk.injEq]
set_option maxHeartbeats 1000000 in
/-- '!=' of two fields. -/
theorem neqF_run (a b : Nm) (k n k' n' : Int) (t t' : Nm) (w : World) : (binOp .neq 61 (.agg #[.string a, .int .i64 k, .int .i64 n, .string t]) (.agg #[.string b, .int .i64 k', .int .i64 n', .string t'])).run Tryd.prog w = .ok (.bool (!(eqF ⟨a, ⟨k, n, t⟩⟩ ⟨b, ⟨k', n', t'⟩⟩))) w := by
  rw [run_neq_struct, run_equalIn_agg _ _ _ _ _ (by kernel_rfl) (by kernel_rfl)]
  have c1 : Tryd.prog.cellsOf 3 = 1 := by kernel_rfl
  have c2 : Tryd.prog.cellsOf 9 = 1 := by kernel_rfl
  have c3 : Tryd.prog.cellsOf 51 = 3 := by kernel_rfl
  have q1 := fun (d : Nat) (a b : Int) (w : World) => run_equalIn_int (P := Tryd.prog) w d 3 .i64 .i64 a b Tryd.underlying3
  have q2 := fun (d : Nat) (a b : Nm) (w : World) => run_equalIn_string (P := Tryd.prog) w d 9 a b Tryd.underlying9
  have q3 := fun (d : Nat) (xs ys : Array Value) (w : World) => run_equalIn_agg (P := Tryd.prog) w d 51 xs ys (by kernel_rfl) (by kernel_rfl)
  simp only [Program.fieldsOf, Tryd.underlying61, Tryd.underlying51] at q3 ⊢
  unfold eqF eqV eqT
  cases h0 : a.toList == b.toList
  · simp [Op.eqFields, go_sem, q1, q2, q3, h0, Tryd.underlying3, Tryd.underlying9, Tryd.underlying51]
  · by_cases h1 : k = k'
    · subst h1
      by_cases h2 : n = n'
      · subst h2
        cases h3 : t.toList == t'.toList <;> simp [Op.eqFields, go_sem, q1, q2, q3, h0, h3, Tryd.underlying3, Tryd.underlying9, Tryd.underlying51]
      · simp [Op.eqFields, go_sem, q1, q2, q3, h0, h2, Tryd.underlying3, Tryd.underlying9, Tryd.underlying51]
    · simp [Op.eqFields, go_sem, q1, q2, q3, h0, h1, Tryd.underlying3, Tryd.underlying9, Tryd.underlying51]
/-- Only the tape has turned. -/
def Qt (w w' : World) : Prop := w'.heap = w.heap ∧ Below w.heap.size w w'
theorem Qt.refl (w : World) : Qt w w := ⟨rfl, Below.refl _ _⟩
theorem Qt.drewN {w w' : World} (h : Qt w w') (n : Nat) : Qt w (w'.drewN n) := ⟨h.1, h.2.trans ⟨rfl, rfl, rfl, Nat.le_refl _, fun _ _ => rfl⟩⟩
theorem Qt.block {w w' : World} (h : Qt w w') (g : Nat) : w'.heap[g]? = w.heap[g]? := by rw [h.1]
theorem take_next {α} {a b : List α} {k : Nat} {x y : α} (hx : a[k]? = some x) (hy : b[k]? = some y) (h : a.take k = b.take k) (e : x = y) : a.take (k + 1) = b.take (k + 1) := by
  rw [List.take_add_one, List.take_add_one, hx, hy, h, e]
theorem take_all {α} {a b : List α} (hl : a.length = b.length) (h : a.take a.length = b.take a.length) : a = b := by
  rw [List.take_length, hl, List.take_length] at h; exact h
set_option maxHeartbeats 1000000 in
theorem equalInts_any (a b : List Int) (u v : Value) (w : World) (hu : IntsAt w u a) (hv : IntsAt w v b) (ha : a.length ≤ maxLen) (hb : b.length ≤ maxLen) :
    Calls Tryd.prog 98 #[u, v] w fun e w' => e = .returned (.bool (isB (a = b))) ∧ Below w.heap.size w w' := by
  by_cases hl : a.length = b.length
  · rcases hu with ⟨rfl, q, c, rfl⟩ | ⟨b1, o1, c1, rfl, hb1, hc1⟩
    · obtain rfl : b = [] := by cases b with | nil => rfl | cons _ _ => simp at hl
      obtain ⟨p2, c2, rfl, -⟩ := hv.form
      rw [isB_yes rfl]
      clear hv
      go_enter Tryd.func98, Tryd.ntmps98
      go_wp2
      go_loop [13] (fun i => i = .int .i64 0) (fun _ => 0)
      case atStart => rfl
      case round =>
        subst hrel
        go_wp2
        go_ret
        exact ⟨rfl, Below.refl _ _⟩
    · rcases hv with ⟨rfl, q, c, rfl⟩ | ⟨b2, o2, c2, rfl, hb2, hc2⟩
      · obtain rfl : a = [] := by cases a with | nil => rfl | cons _ _ => simp at hl
        rw [isB_yes rfl]
        go_enter Tryd.func98, Tryd.ntmps98
        go_wp2
        go_loop [13] (fun i => i = .int .i64 0) (fun _ => 0)
        case atStart => rfl
        case round =>
          subst hrel
          go_wp2
          go_ret
          exact ⟨rfl, Below.refl _ _⟩
      · have H1 := Lib.hid hc1
        have H2 := Lib.hid hc2
        have HL := Lib.hid hl
        have HS := Lib.hid ha
        obtain ⟨r, hr⟩ : ∃ r, r = isB (a = b) := ⟨_, rfl⟩
        rw [← hr]
        have HR := Lib.hid hr
        clear hc1 hc2 ha hb hr
        rw [← hl]
        clear hl
        go_enter Tryd.func98, Tryd.ntmps98
        go_wp2
        go_loopw [13] (fun i wr => ∃ k : Nat, k ≤ a.length ∧ i = .int .i64 k ∧ Hid (a.take k = b.take k) ∧ Qt w wr) (fun i _ => a.length - (intOf i).toNat)
        case atStart => exact ⟨0, Nat.zero_le _, rfl, Lib.hid rfl, Qt.refl _⟩
        case round =>
          obtain ⟨k, hk, rfl, HT, hq⟩ := hrel
          have HQ := Lib.hid hq
          clear hq
          obtain ⟨wo, rfl⟩ : ∃ wo : World, wo = wr := ⟨_, rfl⟩
          by_cases hlt : k < a.length
          · have hlt2 : k < b.length := HL.out ▸ hlt
            have g1 := H1.out wo (HQ.out.block _) k hlt
            have g2 := H2.out wo (HQ.out.block _) k hlt2
            have HX := Lib.hid (List.getElem?_eq_getElem hlt)
            have HY := Lib.hid (List.getElem?_eq_getElem hlt2)
            generalize a[k] = x at *
            generalize b[k] = y at *
            by_cases hxy : x = y
            · subst hxy
              go_wp2
              go_quiet (fail)
              go_wp2
              go_roundw
              case rel => exact ⟨k + 1, by omega, congrArg _ (wrap_s HS.out hlt), Lib.hid (take_next HX.out HY.out HT.out rfl), HQ.out.drewN _⟩
              case measure =>
                rw [wrap_s HS.out hlt]
                exact int_less hlt
            · have HF : Hid (r = false) := Lib.hid (by rw [HR.out]; exact isB_no fun e => by subst e; exact hxy (Option.some.inj (HX.out.symm.trans HY.out)))
              go_wp2
              go_quiet (fail)
              go_wp2
              go_ret
              exact ⟨by rw [HF.out]; rfl, (HQ.out.drewN _).2⟩
          · obtain rfl : k = a.length := by omega
            have HF : Hid (r = true) := Lib.hid (by rw [HR.out]; exact isB_yes (take_all HL.out HT.out))
            go_wp2
            go_ret
            exact ⟨by rw [HF.out]; rfl, HQ.out.2⟩
  · obtain ⟨p1, c1, rfl, -⟩ := hu.form
    obtain ⟨p2, c2, rfl, -⟩ := hv.form
    rw [isB_no (fun e : a = b => hl (by rw [e]))]
    have hl' : ((a.length : Int) == (b.length : Int)) = false := by simp; omega
    have hl2 : ((a.length : Int) != (b.length : Int)) = true := by simp; omega
    clear hu hv
    generalize a.length = n at *
    generalize b.length = m at *
    go_enter Tryd.func98, Tryd.ntmps98
    go_wp2_with fail
    go_ret
    exact ⟨rfl, Below.refl _ _⟩
set_option maxHeartbeats 1000000 in
theorem equalFlds_any (a b : List Fld) (u v : Value) (w : World) (hu : FldsAt w u a) (hv : FldsAt w v b) (ha : a.length ≤ maxLen) (hb : b.length ≤ maxLen) :
    Calls Tryd.prog 68 #[u, v] w fun e w' => e = .returned (.bool (isB (a = b))) ∧ Below w.heap.size w w' := by
  by_cases hl : a.length = b.length
  · rcases hu with ⟨rfl, q, c, rfl⟩ | ⟨b1, o1, c1, rfl, hb1, hc1⟩
    · obtain rfl : b = [] := by cases b with | nil => rfl | cons _ _ => simp at hl
      obtain ⟨p2, c2, rfl⟩ := hv.form
      rw [isB_yes rfl]
      clear hv
      go_enter Tryd.func68, Tryd.ntmps68
      go_wp2
      go_loop [13] (fun i => i = .int .i64 0) (fun _ => 0)
      case atStart => rfl
      case round =>
        subst hrel
        go_wp2
        go_ret
        exact ⟨rfl, Below.refl _ _⟩
    · rcases hv with ⟨rfl, q, c, rfl⟩ | ⟨b2, o2, c2, rfl, hb2, hc2⟩
      · obtain rfl : a = [] := by cases a with | nil => rfl | cons _ _ => simp at hl
        rw [isB_yes rfl]
        go_enter Tryd.func68, Tryd.ntmps68
        go_wp2
        go_loop [13] (fun i => i = .int .i64 0) (fun _ => 0)
        case atStart => rfl
        case round =>
          subst hrel
          go_wp2
          go_ret
          exact ⟨rfl, Below.refl _ _⟩
      · have H1 := Lib.hid hc1
        have H2 := Lib.hid hc2
        have HL := Lib.hid hl
        have HS := Lib.hid ha
        obtain ⟨r, hr⟩ : ∃ r, r = isB (a = b) := ⟨_, rfl⟩
        rw [← hr]
        have HR := Lib.hid hr
        clear hc1 hc2 ha hb hr
        rw [← hl]
        clear hl
        go_enter Tryd.func68, Tryd.ntmps68
        go_wp2
        go_loopw [13] (fun i wr => ∃ k : Nat, k ≤ a.length ∧ i = .int .i64 k ∧ Hid (a.take k = b.take k) ∧ Qt w wr) (fun i _ => a.length - (intOf i).toNat)
        case atStart => exact ⟨0, Nat.zero_le _, rfl, Lib.hid rfl, Qt.refl _⟩
        case round =>
          obtain ⟨k, hk, rfl, HT, hq⟩ := hrel
          have HQ := Lib.hid hq
          clear hq
          obtain ⟨wo, rfl⟩ : ∃ wo : World, wo = wr := ⟨_, rfl⟩
          by_cases hlt : k < a.length
          · have hlt2 : k < b.length := HL.out ▸ hlt
            obtain ⟨g0, g1, g2, g3⟩ := H1.out wo (HQ.out.block _) k hlt
            obtain ⟨h0, h1, h2, h3⟩ := H2.out wo (HQ.out.block _) k hlt2
            have HX := Lib.hid (List.getElem?_eq_getElem hlt)
            have HY := Lib.hid (List.getElem?_eq_getElem hlt2)
            generalize a[k] = x at *
            generalize b[k] = y at *
            obtain ⟨xn, xk, xi, xt⟩ := x
            obtain ⟨yn, yk, yi, yt⟩ := y
            simp only at g0 g1 g2 g3 h0 h1 h2 h3
            have HE := fun W => neqF_run xn yn xk xi yk yi xt yt W
            by_cases hxy : (⟨xn, ⟨xk, xi, xt⟩⟩ : Fld) = ⟨yn, ⟨yk, yi, yt⟩⟩
            · rw [eqF_iff.mpr hxy] at HE
              go_wp2
              go_quiet (fail)
              go_wp2
              go_roundw
              case rel => exact ⟨k + 1, by omega, congrArg _ (wrap_s HS.out hlt), Lib.hid (take_next HX.out HY.out HT.out hxy), HQ.out.drewN _⟩
              case measure =>
                rw [wrap_s HS.out hlt]
                exact int_less hlt
            · have hne : eqF ⟨xn, ⟨xk, xi, xt⟩⟩ ⟨yn, ⟨yk, yi, yt⟩⟩ = false := by rw [← Bool.not_eq_true, eqF_iff]; exact hxy
              rw [hne] at HE
              have HF : Hid (r = false) := Lib.hid (by rw [HR.out]; exact isB_no fun e => by subst e; exact hxy (Option.some.inj (HX.out.symm.trans HY.out)))
              go_wp2
              go_quiet (fail)
              go_wp2
              go_ret
              exact ⟨by rw [HF.out]; rfl, (HQ.out.drewN _).2⟩
          · obtain rfl : k = a.length := by omega
            have HF : Hid (r = true) := Lib.hid (by rw [HR.out]; exact isB_yes (take_all HL.out HT.out))
            go_wp2
            go_ret
            exact ⟨by rw [HF.out]; rfl, HQ.out.2⟩
  · obtain ⟨p1, c1, rfl⟩ := hu.form
    obtain ⟨p2, c2, rfl⟩ := hv.form
    rw [isB_no (fun e : a = b => hl (by rw [e]))]
    have hl' : ((a.length : Int) == (b.length : Int)) = false := by simp; omega
    have hl2 : ((a.length : Int) != (b.length : Int)) = true := by simp; omega
    clear hu hv
    generalize a.length = n at *
    generalize b.length = m at *
    go_enter Tryd.func68, Tryd.ntmps68
    go_wp2_with fail
    go_ret
    exact ⟨rfl, Below.refl _ _⟩
end Go.Proofs.YtifghohaelmjjaaDoor
