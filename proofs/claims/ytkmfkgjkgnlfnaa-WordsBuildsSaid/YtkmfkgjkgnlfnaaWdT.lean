/- The document's Same of values; the law's ids, city; an index that is none. Conditions: those that each theorem names. -/
import Derived.Test.YtkmfkgjkgnlfnaaWdV
import Derived.Test.YtkmfkgjkgnlfnaaWdBw
namespace Go.Proofs.Ytkmfkgjkgnlfnaa
set_option linter.unusedVariables false
namespace Wd
open Go Go.RowKit Go.Shelf Go.Sort Go.Maps Pq Pq.Pl Rk Ids
/-! ### Same -/
theorem neqV_run (x y : Val) (w : World) : (binOp .neq 24 (vv x) (vv y)).run Try.prog w = .ok (.bool (!decide (x = y))) w := by
  obtain ⟨k, n, t⟩ := x
  obtain ⟨k', n', t'⟩ := y
  rw [← eqV_is, run_neq_struct, run_equalIn_agg _ _ _ _ _ (by kernel_rfl) (by kernel_rfl)]
  simp only [Program.fieldsOf, Try.underlying24]
  have c1 : Try.prog.cellsOf 3 = 1 := by kernel_rfl
  have c2 : Try.prog.cellsOf 9 = 1 := by kernel_rfl
  have q1 := fun (d : Nat) (a b : Int) (w : World) => run_equalIn_int (P := Try.prog) w d 3 .i64 .i64 a b Try.underlying3
  have q2 := fun (d : Nat) (a b : Nm) (w : World) => run_equalIn_string (P := Try.prog) w d 9 a b Try.underlying9
  unfold eqV eqT
  by_cases h1 : k = k'
  · subst h1
    by_cases h2 : n = n'
    · subst h2
      cases h3 : t.toList == t'.toList <;> simp [Op.eqFields, go_sem, q1, q2, h3]
    · simp [Op.eqFields, go_sem, q1, q2, h2]
  · simp [Op.eqFields, go_sem, q1, q2, h1]
theorem take_nextV {a b : List Val} {k : Nat} {x y : Val} (hx : a[k]? = some x) (hy : b[k]? = some y) (h : a.take k = b.take k) (e : x = y) : a.take (k + 1) = b.take (k + 1) := by
  rw [List.take_add_one, List.take_add_one, h, hx, hy, e]
/-- A row of values: its cells. -/
theorem val_at {w : World} {v : Value} {L : List Val} (h : RowAt encV 3 w v L) (h0 : 0 < L.length) : ∃ g off c, v = .slice (some ⟨g, off, none⟩) L.length c ∧ g < w.heap.size ∧ ∀ W : World, W.heap[g]? = w.heap[g]? → ∀ k (hk : k < L.length),
    W.cell? ⟨g, off + k * 3, none⟩ = some (.int .i64 (L[k]).kind) ∧ W.cell? ⟨g, off + k * 3 + 1, none⟩ = some (.int .i64 (L[k]).n) ∧ W.cell? ⟨g, off + k * 3 + 2, none⟩ = some (.string (L[k]).text) := by
  rcases h with ⟨rfl, _⟩ | ⟨g, off, c, rfl, hg, hc⟩
  · simp at h0
  · exact ⟨g, off, c, rfl, hg, fun W hW k hk => ⟨hc W hW k hk 0 _ rfl, hc W hW k hk 1 _ rfl, hc W hW k hk 2 _ rfl⟩⟩
set_option maxHeartbeats 2000000 in
set_option maxRecDepth 100000 in
theorem rsame_any (a b : List Val) (u v : Value) (w : World) (hu : RowAt encV 3 w u a) (hv : RowAt encV 3 w v b) (ha : a.length ≤ maxLen) :
    Calls Try.prog 15 #[u, v] w fun e w' => e = .returned (.bool (decide (a = b))) ∧ Below w.heap.size w w' := by
  by_cases hl : a.length = b.length
  · have HU := Lib.hid hu
    have HV := Lib.hid hv
    have HL := Lib.hid hl
    have HS := Lib.hid ha
    obtain ⟨p1, c1, rfl⟩ := hu.form
    obtain ⟨p2, c2, rfl⟩ := hv.form
    obtain ⟨r, hr⟩ : ∃ r, r = decide (a = b) := ⟨_, rfl⟩
    rw [← hr]
    have HR := Lib.hid hr
    clear ha hr hu hv
    rw [← hl]
    clear hl
    go_enter Try.func15, Try.ntmps15
    go_wp2
    go_loopw [5] (fun i wr => ∃ k : Nat, k ≤ a.length ∧ i = .int .i64 k ∧ Hid (a.take k = b.take k) ∧ Dr w wr) (fun i _ => a.length - (RowKit.intOf i).toNat)
    case atStart => exact ⟨0, Nat.zero_le _, rfl, Lib.hid rfl, Dr.refl _⟩
    case round =>
      obtain ⟨k, hk, rfl, HT, hq⟩ := hrel
      have HQ := Lib.hid hq
      clear hq
      obtain ⟨wo, rfl⟩ : ∃ wo : World, wo = wr := ⟨_, rfl⟩
      by_cases hlt : k < a.length
      · have hlt2 : k < b.length := HL.out ▸ hlt
        obtain ⟨g1, o1, c1', e1, _, hc1⟩ := val_at HU.out (by omega)
        obtain ⟨g2, o2, c2', e2, _, hc2⟩ := val_at HV.out (by omega)
        injection e1 with e1 x1 y1
        injection e2 with e2 x2 y2
        subst e1; subst e2
        clear x1 y1 x2 y2
        obtain ⟨a0, a1, a2⟩ := hc1 wo (HQ.out.block g1) k hlt
        obtain ⟨b0, b1, b2⟩ := hc2 wo (HQ.out.block g2) k hlt2
        have HX := Lib.hid (List.getElem?_eq_getElem hlt)
        have HY := Lib.hid (List.getElem?_eq_getElem hlt2)
        clear hc1 hc2
        generalize a[k] = x at *
        generalize b[k] = y at *
        have HE := fun W => neqV_run x y W
        obtain ⟨xk, xn, xt⟩ := x
        obtain ⟨yk, yn, yt⟩ := y
        simp only at a0 a1 a2 b0 b1 b2 HE
        by_cases hxy : (⟨xk, xn, xt⟩ : Val) = ⟨yk, yn, yt⟩
        · rw [decide_eq_true hxy] at HE
          go_wp2
          go_quiet (fail)
          go_wp2
          go_roundw
          case rel => exact ⟨k + 1, by omega, congrArg _ (wrap_s HS.out hlt), Lib.hid (take_nextV HX.out HY.out HT.out hxy), HQ.out.drewN _⟩
          case measure =>
            rw [wrap_s HS.out hlt]
            exact int_lessV hlt
        · rw [decide_eq_false hxy] at HE
          have HF : Hid (r = false) := Lib.hid (by rw [HR.out]; exact decide_eq_false fun e => by subst e; exact hxy (Option.some.inj (HX.out.symm.trans HY.out)))
          go_wp2
          go_quiet (fail)
          go_wp2
          go_ret
          exact ⟨by rw [HF.out]; rfl, (HQ.out.drewN _).2⟩
      · obtain rfl : k = a.length := by omega
        have HF : Hid (r = true) := Lib.hid (by
          rw [HR.out]
          refine decide_eq_true ?_
          have h := HT.out
          rwa [List.take_length, HL.out, List.take_length] at h)
        go_wp2
        go_ret
        exact ⟨by rw [HF.out]; rfl, HQ.out.2⟩
  · obtain ⟨p1, c1, rfl⟩ := hu.form
    obtain ⟨p2, c2, rfl⟩ := hv.form
    rw [decide_eq_false (fun e : a = b => hl (by rw [e]))]
    have hl' : ((a.length : Int) == (b.length : Int)) = false := by simp; omega
    have hl2 : ((a.length : Int) != (b.length : Int)) = true := by simp; omega
    clear hu hv
    generalize a.length = n at *
    generalize b.length = m at *
    go_enter Try.func15, Try.ntmps15
    go_wp2_with fail
    go_ret
    exact ⟨rfl, Below.refl _ _⟩
/-! ### ids -/
set_option maxHeartbeats 1000000 in
theorem ids_any (a b : List Int) (u v : Value) (w : World) (hu : Go.Proofs.Ytkmfkgjkgnlfnaa.IntsAt w u a) (hv : Go.Proofs.Ytkmfkgjkgnlfnaa.IntsAt w v b) (ha : a.length ≤ maxLen) (hb : b.length ≤ maxLen) :
    Calls Try.prog 10 #[u, v] w fun e w' => e = .returned (.bool (eqB a b)) ∧ Below w.heap.size w w' := by
  have H := Lib.hid (sameRef_any a b u v w hu hv ha hb)
  clear hu hv ha hb
  go_enter Try.func10, Try.ntmps10
  go_wp2_with (go_at_call 30; refine H.out.mono ?_; rintro e w1 ⟨rfl, hb⟩; have HB := Lib.hid hb; clear hb)
  go_ret
  exact ⟨rfl, HB.out⟩
/-! ### An index that is none -/
set_option maxHeartbeats 1000000 in
set_option maxRecDepth 100000 in
theorem len_nil (w : World) : Calls Try.prog 18 #[.pointer none] w fun e w' => e = .returned (.int .i64 0) ∧ Below w.heap.size w w' := by
  have HB := Lib.hid (Rk.fresh_alloc w (.mapIter none 0 #[] 0))
  have HLS := Lib.hid (lists_nil w)
  have hr := run_range_nilMap (P := Try.prog) w 57 24 37 Try.underlying57
  have hn := fun ty => run_next_nilMap (P := Try.prog) w ty 0 0 #[]
  go_enter Try.func18, Try.ntmps18
  go_wp2_with (go_at_call 32; refine HLS.out.mono ?_; rintro e w1 ⟨rfl, rfl⟩)
  go_loopw [3] (fun v wr => v = .int .i64 0 ∧ wr = w.alloc (.mapIter none 0 #[] 0)) (fun _ _ => 0)
  case atStart => exact ⟨rfl, rfl⟩
  case round =>
    obtain ⟨rfl, rfl⟩ := hrel
    go_wp2_with fail
    go_ret
    exact ⟨rfl, HB.out⟩
set_option maxHeartbeats 1000000 in
set_option maxRecDepth 100000 in
theorem any_nil (w : World) : Calls Try.prog 13 #[.pointer none] w fun e w' => e = .returned (.slice none 0 0) ∧ Below w.heap.size w w' := by
  have HB := Lib.hid (Rk.fresh_alloc w (.mapIter none 0 #[] 0))
  have HLS := Lib.hid (lists_nil w)
  have hr := run_range_nilMap (P := Try.prog) w 57 24 37 Try.underlying57
  have hn := fun ty => run_next_nilMap (P := Try.prog) w ty 0 0 #[]
  go_enter Try.func13, Try.ntmps13
  go_wp2_with (go_at_call 32; refine HLS.out.mono ?_; rintro e w1 ⟨rfl, rfl⟩)
  go_loopw [3] (fun v wr => v = .slice none 0 0 ∧ wr = w.alloc (.mapIter none 0 #[] 0)) (fun _ _ => 0)
  case atStart => exact ⟨rfl, rfl⟩
  case round =>
    obtain ⟨rfl, rfl⟩ := hrel
    have HST := Lib.hid (fun W => Try.slices_Sort_int_none none 0 W)
    go_wp2_with (go_at_call 34; refine (HST.out _).mono ?_; rintro e w2 ⟨rfl, rfl⟩)
    go_ret
    exact ⟨rfl, HB.out⟩
set_option maxHeartbeats 1000000 in
set_option maxRecDepth 100000 in
theorem values_nil (w : World) : Calls Try.prog 16 #[.pointer none] w fun e w' => e = .returned (.slice none 0 0) ∧ Below w.heap.size w w' := by
  have HB := Lib.hid (Rk.fresh_alloc w (.mapIter none 0 #[] 0))
  have HLS := Lib.hid (lists_nil w)
  have hr := run_range_nilMap (P := Try.prog) w 57 24 37 Try.underlying57
  have hn := fun ty => run_next_nilMap (P := Try.prog) w ty 0 0 #[]
  go_enter Try.func16, Try.ntmps16
  go_wp2_with (go_at_call 32; refine HLS.out.mono ?_; rintro e w1 ⟨rfl, rfl⟩)
  go_loopw [3] (fun v wr => v = .slice none 0 0 ∧ wr = w.alloc (.mapIter none 0 #[] 0)) (fun _ _ => 0)
  case atStart => exact ⟨rfl, rfl⟩
  case round =>
    obtain ⟨rfl, rfl⟩ := hrel
    have HST := Lib.hid (fun W => AnyF.slices_SortFunc_none { Try.sortV with } none 0 (.func (.func 36) #[] #[]) W)
    change Hid (∀ W, Calls Try.prog 35 _ _ _) at HST
    go_wp2_with (go_at_call 35; refine (HST.out _).mono ?_; rintro e w2 ⟨rfl, rfl⟩)
    go_ret
    exact ⟨rfl, HB.out⟩
set_option maxHeartbeats 4000000 in
set_option maxRecDepth 100000 in
theorem find_nil (v : Val) (hv : OkV v) (w : World) : Calls Try.prog 11 #[.pointer none, vv v] w fun e w' => e = .returned (.slice none 0 0) ∧ Below w.heap.size w w' := by
  obtain ⟨l, hl⟩ := key_val v hv
  have hlk := look_none (e := 37) val_keyed Try.underlying57 (z := .slice none 0 0) zero_ints hl false
  have HB := Lib.hid (Rk.fresh_alloc w (vobj v))
  have HLS := Lib.hid (fun W => lists_nil W)
  have HCL := Lib.hid (fun W => Try.slices_Clone_int_nil 0 0 W)
  obtain ⟨d0, d1, d2⟩ := cells3_of (Pq.heap_last w (vobj v))
  obtain ⟨vk, vn, vt⟩ := v
  simp only at d0 d1 d2 hlk
  clear hv hl
  go_enter Try.func11, Try.ntmps11
  go_wp2_with fail
  generalize w.alloc (vobj ⟨vk, vn, vt⟩) = W0 at *
  have hS : W0.drew.cell? ⟨w.heap.size, 0, none⟩ = some (.int .i64 vk) ∧ W0.drew.cell? ⟨w.heap.size, 1, none⟩ = some (.int .i64 vn) ∧ W0.drew.cell? ⟨w.heap.size, 2, none⟩ = some (.string vt) := ⟨d0, d1, d2⟩
  have hq := hlk W0.drew
  clear d0 d1 d2 hlk
  go_region_held3 (fun x => x.cell? ⟨w.heap.size, 0, none⟩ = some (.int .i64 vk) ∧ x.cell? ⟨w.heap.size, 1, none⟩ = some (.int .i64 vn) ∧ x.cell? ⟨w.heap.size, 2, none⟩ = some (.string vt))
    (assumption)
    (first
      | (go_at_call 32; refine (HLS.out _).mono ?_; rintro e w1 ⟨rfl, rfl⟩)
      | (go_at_call 31; refine (HCL.out _).mono ?_; rintro e w3 ⟨rfl, rfl⟩))
  have HF := Lib.hid HB.out.drew
  clear hS hq HB
  go_wp2_with fail
  go_ret
  exact ⟨rfl, HF.out⟩
end Wd
end Go.Proofs.Ytkmfkgjkgnlfnaa
