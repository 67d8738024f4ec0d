/- For every row of deeds (writes, cuts, syncs, renames, removals, plans of faults, crashes, looks), together of a bulk of at most 1048576, the law DiskPlays of the document's chapter 2 returns true over the program's own disk: it does, step by step, what the document's disk does. -/
import Derived.Test.YtblhbkhehddccaaRows
import Derived.WalkKit
import Derived.ProofKit
import Derived.OpenShut
import Derived.ShutString
import Derived.ChangeOld
import Derived.Below
import Derived.SizedLaws
import Derived.JoinedCond
import Derived.Test.YtblhbkhehddccaaRfAll
namespace Go.Proofs.Ytblhbkhehddccaa.diskPlays
open Go.ChangeShapes Go.WideShapes Go.ChangeAt Go.RowKit Go.Proofs.Ytblhbkhehddccaa
open Go.ChangeMaps (open_string shut_string)
set_option linter.unusedVariables false

theorem own : ownKnob Try.prog.godebug = none := by kernel_rfl
theorem laidOut : laidOutB Try.prog = true := by kernel_rfl

/-! ### The walk -/
open Dk
theorem deed_cells {w : World} {p : Option Addr} {n c : Nat} {L : List DeedC} (h : DeedsAt w (.slice p n c) L) {j : Nat} (hj : j < L.length) : ∃ g off, p = some ⟨g, off, none⟩ ∧ ∀ W : World, Below w.heap.size w W →
    (W.cell? ⟨g, off + j * 7, none⟩ = some (.int .i64 (L[j]).kind) ∧ W.cell? ⟨g, off + j * 7 + 1, none⟩ = some (.string (L[j]).a) ∧ W.cell? ⟨g, off + j * 7 + 2, none⟩ = some (.string (L[j]).b) ∧ W.cell? ⟨g, off + j * 7 + 3, none⟩ = some (.int .i64 (L[j]).n)) ∧
      W.cell? ⟨g, off + j * 7 + 4, none⟩ = some (L[j]).fv ∧ W.cell? ⟨g, off + j * 7 + 5, none⟩ = some (.int .i64 (L[j]).cn) ∧ W.cell? ⟨g, off + j * 7 + 6, none⟩ = some (L[j]).cv := by
  rcases h with ⟨rfl, _⟩ | ⟨g, off, cp, e, hg, hc⟩
  · cases hj
  · injection e with e1 e2 e3
    refine ⟨g, off, e1, fun W hW => ?_⟩
    have key := hc W (hW.block g hg) j hj
    exact ⟨⟨key 0 _ rfl, key 1 _ rfl, key 2 _ rfl, key 3 _ rfl⟩, key 4 _ rfl, key 5 _ rfl, key 6 _ rfl⟩
theorem deeds_form {w : World} {v : Value} {L : List DeedC} (h : DeedsAt w v L) : ∃ p c, v = .slice p L.length c := by
  rcases h with ⟨rfl, p, c, rfl⟩ | ⟨g, off, cp, rfl, _⟩
  · exact ⟨p, c, rfl⟩
  · exact ⟨_, cp, rfl⟩
set_option maxHeartbeats 2000000 in
set_option maxRecDepth 100000 in
theorem walk (v0 : Value) (l0 : List DeedC) (w : World) (i0 : DeedsAt w v0 l0) (j0 : ∀ y ∈ l0, DeedIn w y) (n0 : l0.length ≤ 1048576) (m0 : ∀ y ∈ l0, y.a.size + y.b.size + y.fl.length ≤ 1048576) :
    Calls Try.prog 3 #[v0] w fun e w' => e = .returned (.bool true) ∧ Below w.heap.size w w' := by
  obtain ⟨p, c, rfl⟩ := deeds_form i0
  have HI := Lib.hid i0
  have HJ := Lib.hid j0
  have HMM := Lib.hid m0
  obtain ⟨N, hN⟩ : ∃ N, N = l0.length := ⟨_, rfl⟩
  rw [← hN] at HI n0 ⊢
  have HNN := Lib.hid hN
  have hnm : N ≤ maxLen := by unfold maxLen; omega
  have HNM := Lib.hid hnm
  have HNB := Lib.hid n0
  clear i0 j0 m0 n0 hN hnm
  go_enter Try.func3, Try.ntmps3
  go_wp2_with fail
  refine (at_new w).mono ?_
  rintro e w1 ⟨rfl, h1⟩
  have HB0 := Lib.hid (both_new w w1 h1)
  clear h1
  go_wp2_with fail
  generalize w1.alloc (.cells #[.slice none 0 0, .slice none 0 0, .slice none 0 0, .slice none 0 0, .slice none 0 0, .int .i64 0] 31) = W1 at *
  generalize w.heap.size = A at *
  generalize w1.heap.size = B at *
  go_loopw [5] (fun i wr => ∃ j : Nat, j ≤ N ∧ i = .int .i64 j ∧ Both w A B j wr) (fun i _ => N - (intOf i).toNat)
  case atStart => exact ⟨0, Nat.zero_le _, rfl, HB0.out⟩
  case round =>
    obtain ⟨j, hj, rfl, hb⟩ := hrel
    have HB := Lib.hid hb
    obtain ⟨wq, rfl⟩ : ∃ wq : World, wq = wr := ⟨_, rfl⟩
    clear hb
    by_cases hlt : j < N
    · as_aux_lemma =>
      have hjl : j < l0.length := by rw [← HNN.out]; exact hlt
      obtain ⟨g, off, rfl, hc⟩ := deed_cells HI.out hjl
      obtain ⟨⟨c0, c1, c2, c3⟩, c4, c5, c6⟩ := hc wq HB.out.below
      have hk : j ≤ 1048577 := by have := HNB.out; omega
      have hk1 : j + 1 ≤ 1048577 := by have := HNB.out; omega
      have HD := Lib.hid (do_any HB.out hk l0[j] (HJ.out _ (List.getElem_mem hjl)) (HMM.out _ (List.getElem_mem hjl)))
      have HL := Lib.hid (fun (W : World) (t : Both w A B (j + 1) W) => t.like hk1)
      have hwn := wrapNext HNM.out hlt
      generalize l0[j] = x at *
      obtain ⟨kd, s, t, z, fv, fl, cn, cv, cl⟩ := x
      simp only at c0 c1 c2 c3 c4 c5 c6 HD
      clear hc hjl hk hk1
      go_wp2_with fail
      refine HD.out.mono ?_
      rintro e w2 ⟨rfl, h2⟩
      have H2 := Lib.hid h2
      clear h2
      go_wp2_with fail
      refine (HL.out _ H2.out).mono ?_
      rintro e w3 ⟨rfl, h3⟩
      have H3 := Lib.hid h3
      clear h3
      go_wp2_with fail
      go_roundw
      case rel => exact ⟨j + 1, by omega, congrArg _ hwn, H3.out⟩
      case measure => rw [hwn]; exact nextLess hlt
    · as_aux_lemma =>
      obtain rfl : j = N := by omega
      go_wp2_with fail
      refine (sure_yes _).mono ?_
      rintro e w5 ⟨rfl, hb⟩
      have HS := Lib.hid hb
      clear hb
      go_wp2_with fail
      go_ret
      exact ⟨rfl, HB.out.below.trans (HS.out.mono HB.out.below.size)⟩

theorem toLen (s : ByteArray) : s.data.toList.length = s.size := by rw [Array.length_toList]; rfl

/-! ### The row -/
set_option maxRecDepth 100000 in
theorem contract (H : Type) (enc : TypeId × Value → H) (W : World) (base : Nat) (args : Array Value) (ds gs : List (DataW H)) (before : List MemPlace)
    (hval0 : ∀ (j : Nat) t v, Try.f3.params[j]? = some t → args[j]? = some v → Value.okWide Try.prog W .any base t v)
    (hW : DataW.Whole enc Try.prog Try.f3.params.toList Rows.diskPlaysSpec.vars false W args.toList ds gs before) (hsz : Rows.uptoSmall H (ds ++ gs) = true) :
    Calls Try.prog 3 args W fun e W' => ∃ v, e = .returned v ∧ Rows.diskPlaysSpec.post enc Try.prog Try.f3 false true false false W args v W' := by
  have hval : ∀ (j : Nat) t v, Try.f3.params[j]? = some t → args[j]? = some v → Value.okWide Try.prog W .any base t v := hval0
  have hW' := hW
  obtain ⟨p, q, hA0, hV, rfl, hfz, hnd⟩ := hW
  have hA : DataW.TrodAll enc Try.prog W 0 (fun _ => true) true Try.f3.params.toList args.toList ds p := hA0
  rw [Try.params3] at hA hval
  obtain ⟨v0, vs0, d0, ds0, p0, q0, hargs, rfl, rfl, h0, r0⟩ := trodAll_cons hA
  obtain ⟨rfl, rfl, rfl⟩ := trodAll_nil r0
  obtain rfl : args = #[v0] := by cases args; simp_all
  obtain ⟨rfl, rfl⟩ := trodVars_none hV
  have k0 := h0
  have lt0 : ∀ x ∈ p0, x.block < W.heap.size := by obtain ⟨m, hm⟩ := k0; exact DataW.trod_lt m _ _ _ hm
  obtain ⟨a0, len0, cap0, rfl⟩ := okWide_slice Try.underlying22 (hval 0 22 v0 rfl rfl)
  obtain ⟨fuel0, hf0⟩ := h0
  obtain ⟨u0, l0, hcs0, i0, j0, b0, e0⟩ := open_deeds hf0
  obtain rfl : u0 = .slice a0 len0 cap0 := by simpa [Value.cells] using hcs0.symm
  have t0 : Rows.uptoBulk d0 ≤ 1048576 := by
    have h := of_decide_eq_true hsz
    simp only [List.append_nil, Rows.uptoBulkAll] at h
    omega
  have n0 : l0.length ≤ 1048576 := Nat.le_trans b0 t0
  have m0 : ∀ y ∈ l0, y.a.size + y.b.size + y.fl.length ≤ 1048576 := fun y hy => Nat.le_trans (e0 y hy) t0
  clear hA0 hval0
  refine (walk (.slice a0 len0 cap0) l0 W i0 j0 n0 m0).mono fun e W' ⟨he, bel⟩ => ?_
  subst he
  exact ⟨_, rfl, _, _, _, [], _, [], hW', trodAll_mk1 (shut_bool Try.underlying4 _), (trodAll_cons_mk (Below.trod laidOut (by kernel_rfl) (of_decide_eq_true (by kernel_rfl)) k0 bel lt0) trodAll_mk0), rfl, bel.frame _, fun h => by cases h⟩

set_option maxRecDepth 100000 in
theorem lifted (os : Os) (started : os.Started) (H : Type) (enc : TypeId × Value → H) (F : Stop.Interp) :
    ReturnsInHanded {} Try.checked os 3 .any ((Rows.OpenSpec.upto Rows.diskPlaysSpec).pre6 enc Try.prog Try.f3 Rows.diskPlaysUptoRow.domain false) (((Rows.OpenSpec.upto Rows.diskPlaysSpec).at F).post enc Try.prog Try.f3 false true false false) := by
  refine returnsInHanded_of_cond (C := Try.checked) (s := Rows.OpenSpec.upto Rows.diskPlaysSpec) (k := Rows.uptoSmall) rfl own started (by kernel_rfl) Try.func3
    (OpenSpec.witness (enc := enc) (C := Try.checked) (s := Rows.OpenSpec.upto Rows.diskPlaysSpec) (k := Rows.uptoSmall) rfl false ⟨#[], #[.slice none 0 0], []⟩ 8 (by kernel_rfl) (by kernel_rfl) (by kernel_rfl)
      (x := ([.nil], [], [])) (by kernel_rfl) rfl (by kernel_rfl)) ?_
  intro W base args ds gs before hval hW _ hk _
  exact contract H enc W base args ds gs before hval hW hk

/-- The statement. -/
theorem proved : Rows.DiskPlaysUptoSaid :=
  OpenClaim.holds_of_cond 3 Try.f3 rfl rfl rfl rfl rfl rfl rfl ⟨rfl, rfl, rfl, rfl, rfl⟩ rfl rfl rfl rfl rfl (by kernel_rfl) Try.func3 (by kernel_rfl)
    (of_decide_eq_true (by kernel_rfl)) (by unfold Func.isWrapper; first | (rw [if_pos (by decide +kernel)]; kernel_rfl) | (rw [if_neg (by decide +kernel)]; exact ⟨rfl, rfl⟩))
    (fun os started H enc _ F => lifted os started H enc F)
#print axioms proved
end Go.Proofs.Ytblhbkhehddccaa.diskPlays
