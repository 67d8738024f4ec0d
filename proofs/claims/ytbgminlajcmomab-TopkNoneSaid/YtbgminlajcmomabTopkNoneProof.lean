/- For any hit the law TopkNone of the document's chapter 7 returns true over the program's own Best: a best that is none keeps nothing and has nothing. No condition. -/
import Derived.Test.YtbgminlajcmomabRows
import Derived.WalkKit
import Derived.ProofKit
import Derived.OpenShut
import Derived.ShutString
import Derived.ChangeOld
import Derived.Below
import Derived.SizedLaws
import Derived.Test.YtbgminlajcmomabTkArgs
namespace Go.Proofs.Ytbgminlajcmomab.topkNone
open Go.ChangeShapes Go.WideShapes Go.ChangeAt Go.RowKit Go.Proofs.Ytbgminlajcmomab
open Go.ChangeMaps (open_string shut_string)
open Tk
set_option linter.unusedVariables false

theorem own : ownKnob Try.prog.godebug = none := by kernel_rfl
theorem laidOut : laidOutB Try.prog = true := by kernel_rfl

/-! ### The walk -/
open Go Go.Sort
set_option maxHeartbeats 2000000 in
set_option maxRecDepth 100000 in
theorem walk (x0 : Ht) (w : World) (ox0 : OkH x0) :
    Calls Try.prog 7 #[.agg #[.int .i64 x0.1, .int .i64 x0.2]] w fun e w' => e = .returned (.bool true) ∧ Below w.heap.size w w' := by
  obtain ⟨xi, xs⟩ := x0
  have HB0 := Lib.hid (fresh_alloc w (hobj (xi, xs)))
  obtain ⟨d0, d1⟩ := two_cells (heap_last w (hobj (xi, xs)))
  have hz : w.heap.size < (w.alloc (hobj (xi, xs))).heap.size := by simp
  have HZ := Lib.hid hz
  clear hz
  have HE := fun W => eqlH_run (0, 0) (0, 0) W
  simp only [decide_true] at HE
  go_enter Try.func7, Try.ntmps7
  go_wp2_with fail
  generalize w.alloc (hobj (xi, xs)) = W at *
  refine (worst_nil W).mono ?_
  rintro e w1 ⟨rfl, b1⟩
  have bb1 := b1.alloc b1.size (hobj (0, 0))
  have e0 := (bb1.cell (p := ⟨w.heap.size, 0, none⟩) HZ.out).trans d0
  have e1 := (bb1.cell (p := ⟨w.heap.size, 1, none⟩) HZ.out).trans d1
  obtain ⟨y0, y1⟩ := two_cells (heap_last w1 (hobj (0, 0)))
  have hz1 : w1.heap.size < (w1.alloc (hobj (0, 0))).heap.size := by simp
  have HZ1 := Lib.hid hz1
  have HB1 := Lib.hid (HB0.out.trans (bb1.mono HB0.out.size))
  clear b1 bb1 d0 d1 hz1
  go_wp2_with fail
  generalize hZ : w1.heap.size = Z at *
  generalize w1.alloc (hobj (0, 0)) = w2 at *
  refine (add_nil (xi, xs) w2).mono ?_
  rintro e w3 ⟨rfl, b3⟩
  have f0 := (b3.cell (p := ⟨Z, 0, none⟩) HZ1.out).trans y0
  have f1 := (b3.cell (p := ⟨Z, 1, none⟩) HZ1.out).trans y1
  have HB3 := Lib.hid (HB1.out.trans (b3.mono HB1.out.size))
  have HZ3 : Hid (Z < w3.heap.size) := Lib.hid (Nat.lt_of_lt_of_le HZ1.out b3.size)
  clear b3 e0 e1 y0 y1
  go_wp2_with fail
  refine (len_nil w3).mono ?_
  rintro e w4 ⟨rfl, rfl⟩
  go_wp2_with fail
  refine (full_nil w4).mono ?_
  rintro e w5 ⟨rfl, b5⟩
  have g0 := (b5.cell (p := ⟨Z, 0, none⟩) HZ3.out).trans f0
  have g1 := (b5.cell (p := ⟨Z, 1, none⟩) HZ3.out).trans f1
  have HB5 := Lib.hid (HB3.out.trans (b5.mono HB3.out.size))
  clear b5 f0 f1
  go_wp2_with fail
  refine (list_nil w5).mono ?_
  rintro e w6 ⟨rfl, rfl⟩
  go_wp2_with fail
  refine (awake_any w6).mono ?_
  rintro e w7 ⟨rfl, b7⟩
  have HB7 := Lib.hid (HB5.out.trans (b7.mono HB5.out.size))
  clear b7 g0 g1
  go_wp2_with fail
  go_ret
  exact ⟨rfl, HB7.out⟩

/-! ### The row -/
set_option maxRecDepth 100000 in
theorem lifted (os : Os) (started : os.Started) (H : Type) (enc : TypeId × Value → H) :
    ReturnsInHanded {} Try.checked os 7 .any (Rows.topkNoneSpec.pre6 enc Try.prog Try.f7 Rows.topkNoneRow.domain false) (Rows.topkNoneSpec.post enc Try.prog Try.f7 false true false false) := by
  refine returnsInHanded_of_change_sized (C := Try.checked) own started (by kernel_rfl) Try.func7
    (ChangeSpec.witness6 (enc := enc) (C := Try.checked) false ⟨#[], #[.agg #[.int .i64 0, .int .i64 0]], []⟩ 8 (by kernel_rfl) (by kernel_rfl) (by kernel_rfl) (by kernel_rfl)) ?_
  intro W base args ds gs before hval0 hW hcnd hsz0 _
  have hval : ∀ (j : Nat) t v, Try.f7.params[j]? = some t → args[j]? = some v → Value.okWide Try.prog W .any base t v := hval0
  have hW' := hW
  obtain ⟨p, q, hA0, hV, rfl, hfz, hnd⟩ := hW
  have hA : DataW.TrodAll enc Try.prog W 0 (fun _ => true) true Try.f7.params.toList args.toList ds p := hA0
  have hsz : (DataW.weightsEach Try.prog (Try.f7.params.toList ++ Rows.topkNoneSpec.plain.varTypes Try.prog) (ds ++ gs)).all (· ≤ reachBytes) = true := hsz0
  rw [Try.params7] at hA hval hsz
  obtain ⟨v0, vs0, d0, ds0, p0, q0, hargs, rfl, rfl, h0, r0⟩ := trodAll_cons hA
  obtain ⟨rfl, rfl, rfl⟩ := trodAll_nil r0
  obtain rfl : args = #[v0] := by cases args; simp_all
  obtain ⟨rfl, rfl⟩ := trodVars_none hV
  have k0 := h0
  have lt0 : ∀ x ∈ p0, x.block < W.heap.size := by obtain ⟨m, hm⟩ := k0; exact DataW.trod_lt m _ _ _ hm
  obtain ⟨x0, rfl, ox0⟩ := open_hit (hval 0 23 v0 rfl rfl) h0
  clear hA0 hval0
  refine (walk x0 W ox0).mono fun e W' ⟨he, bel⟩ => ?_
  subst he
  exact ⟨_, rfl, _, _, _, [], _, [], hW', trodAll_mk1 (shut_bool Try.underlying4 _), (trodAll_cons_mk (Below.trod laidOut (by kernel_rfl) (of_decide_eq_true (by kernel_rfl)) k0 bel lt0) trodAll_mk0), rfl, bel.frame _, fun h => by cases h⟩

theorem over : Rows.topkNoneRow.holds Try.pinned (OpenSpec.ofChange Rows.topkNoneSpec) :=
  OpenClaim.holds_of_wide 7 Try.f7 rfl rfl rfl rfl rfl rfl rfl ⟨rfl, rfl, rfl, rfl, rfl⟩ rfl rfl rfl rfl rfl (by kernel_rfl) Try.func7 (by kernel_rfl)
    (of_decide_eq_true (by kernel_rfl)) (by unfold Func.isWrapper; first | (rw [if_pos (by decide +kernel)]; kernel_rfl) | (rw [if_neg (by decide +kernel)]; exact ⟨rfl, rfl⟩))
    (fun os started H enc _ => lifted os started H enc)

/-- The statement. -/
theorem proved : Rows.TopkNoneSaid := over
#print axioms proved
end Go.Proofs.Ytbgminlajcmomab.topkNone
