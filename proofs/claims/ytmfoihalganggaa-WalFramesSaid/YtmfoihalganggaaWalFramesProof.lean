/- For any record and any text the law WalFrames of the document's chapter 9 returns true over the program's own Frame and Scan and the document's own answers: the bytes of any record; the records with which any bytes begin, how many bytes they have, and why no further. No condition. -/
import Derived.Test.YtmfoihalganggaaRows
import Derived.WalkKit
import Derived.ProofKit
import Derived.OpenShut
import Derived.ShutString
import Derived.ChangeOld
import Derived.Below
import Derived.SizedLaws
import Derived.Test.YtmfoihalganggaaWlF
import Derived.Test.YtmfoihalganggaaWlG
import Derived.Test.YtmfoihalganggaaWlArgs
namespace Go.Proofs.Ytmfoihalganggaa.walFrames
open Go.ChangeShapes Go.WideShapes Go.ChangeAt Go.RowKit Go.Proofs.Ytmfoihalganggaa
open Go.ChangeMaps (open_string shut_string)
set_option linter.unusedVariables false

theorem own : ownKnob Try.prog.godebug = none := by kernel_rfl
theorem laidOut : laidOutB Try.prog = true := by kernel_rfl

/-! ### The walk -/
open Wl
theorem frame_is (q : Int) (b : ByteArray) (hb : b.size ≤ maxLen) : ∃ (s : ByteArray) (k : Int),
    (∀ w : World, Calls Try.prog 6 #[.agg #[.int .i64 q, .string b]] w fun e w' => e = .returned (.tuple #[.string s, .int .i64 k]) ∧ Below w.heap.size w w') ∧
    (∀ w : World, Calls Try.prog 7 #[.agg #[.int .i64 q, .string b]] w fun e w' => e = .returned (.tuple #[.string s, .int .i64 k]) ∧ Below w.heap.size w w') := by
  by_cases h : 1 ≤ q ∧ q ≤ 4503599627370496 ∧ b.size ≤ 16777216
  · obtain ⟨n, rfl⟩ : ∃ n : Nat, q = n := ⟨q.toNat, by omega⟩
    exact ⟨frB n b, 0, fun w => frame_yes n b w (by omega) (by omega) h.2.2, fun w => rframe_yes n b w (by omega) (by omega) h.2.2⟩
  · exact ⟨⟨#[]⟩, 1, fun w => frame_no q b w (by omega) hb, fun w => rframe_no q b w (by omega) hb⟩
theorem beq_self (s : ByteArray) : (s.toList == s.toList) = true := st_eq.2 rfl
def Ld (w : World) (v : Value) (L : List UInt8) (n : Nat) (e : Int) (w' : World) : Prop := ∃ p c, v = .slice p n c ∧ n = (scan 0 L).recs.length ∧ e = (scan 0 L).err ∧ RcsAt w' v (scan 0 L).recs ∧ Below w.heap.size w w'
set_option maxHeartbeats 2000000 in
set_option maxRecDepth 100000 in
theorem walk (q0 : Int) (b0 : ByteArray) (a1 : ByteArray) (w : World) (wq0 : (Lit.int .i64 q0).wf = true) (s0 : b0.size ≤ 140737488351232) (s1 : a1.size ≤ 140737488351232) :
    Calls Try.prog 3 #[.agg #[.int .i64 q0, .string b0], .string a1] w fun e w' => e = .returned (.bool true) ∧ Below w.heap.size w w' := by
  obtain ⟨s, k, hf, hg⟩ := frame_is q0 b0 (by unfold maxLen; omega)
  have CF := Lib.hid hf
  have CG := Lib.hid hg
  have CS := Lib.hid (fun W => scan_any a1 W s1)
  have CR := Lib.hid (fun W => rscan_any a1 W s1)
  have HL := Lib.hid (scan_size a1.data.toList.length 0 a1.data.toList (Nat.le_refl _))
  have HLN := Lib.hid (ln a1)
  have S1 := Lib.hid s1
  have hq := beq_self s
  have hB := below_new w (.cells #[.int .i64 q0, .string b0] 23)
  have HB := Lib.hid hB
  obtain ⟨c0, c1⟩ := rec_cells w q0 b0
  clear hf hg wq0 s0 s1 hB
  go_enter Try.func3, Try.ntmps3
  go_wp2_with fail
  refine (CF.out _).mono ?_
  rintro e w1 ⟨rfl, hb1⟩
  have X1 := (World.cell?_of_block (a := ⟨w.heap.size, 0, none⟩) (hb1.block w.heap.size (by simp))).trans c0
  have X2 := (World.cell?_of_block (a := ⟨w.heap.size, 1, none⟩) (hb1.block w.heap.size (by simp))).trans c1
  have HB1 := Lib.hid (HB.out.trans (hb1.mono HB.out.size))
  clear hb1
  go_wp2_with fail
  refine (CG.out _).mono ?_
  rintro e w2 ⟨rfl, hb2⟩
  have HB2 := Lib.hid (HB1.out.trans (hb2.mono HB1.out.size))
  clear hb2 X1 X2 c0 c1
  go_wp2_with fail
  refine (CS.out _).mono ?_
  rintro e w3 ⟨v3, rfl, ho3, hb3⟩
  have HO3 := Lib.hid (own_rcs ho3)
  have HB3 := Lib.hid (HB2.out.trans (hb3.mono HB2.out.size))
  clear ho3 hb3
  go_wp2_with fail
  refine (CR.out _).mono ?_
  rintro e w4 ⟨v4, rfl, ho4, hb4⟩
  have HO4 := Lib.hid (own_rcs ho4)
  have HO5 := Lib.hid (HO3.out.below hb4)
  have HB4 := Lib.hid (HB3.out.trans (hb4.mono HB3.out.size))
  have CE : Hid (Calls Try.prog 10 #[v3, v4] w4 fun e w' => e = .returned (.bool true) ∧ Below w4.heap.size w4 w') := Lib.hid (by
    have hx := rsame_any _ _ v3 v4 w4 HO5.out HO4.out (by
      have := HL.out.1; have := HL.out.2; have := HLN.out; have := S1.out; unfold maxLen
      omega)
    rw [decide_eq_true rfl] at hx
    exact hx)
  clear ho4 hb4
  generalize (scan 0 a1.data.toList).size = sz at *
  generalize (scan 0 a1.data.toList).err = er at *
  go_wp2_with fail
  refine CE.out.mono ?_
  rintro e w5 ⟨rfl, hb5⟩
  have HB5 := Lib.hid (HB4.out.trans (hb5.mono HB4.out.size))
  clear hb5
  go_wp2_with fail
  refine (awake_yes _).mono ?_
  rintro e w6 ⟨rfl, hb6⟩
  have HB6 := Lib.hid (HB5.out.trans (hb6.mono HB5.out.size))
  clear hb6
  go_wp2_with fail
  go_ret
  exact ⟨rfl, HB6.out⟩

/-! ### The row -/
set_option maxRecDepth 100000 in
theorem lifted (os : Os) (started : os.Started) (H : Type) (enc : TypeId × Value → H) :
    ReturnsInHanded {} Try.checked os 3 .any (Rows.walFramesSpec.pre6 enc Try.prog Try.f3 Rows.walFramesRow.domain false) (Rows.walFramesSpec.post enc Try.prog Try.f3 false true false false) := by
  refine returnsInHanded_of_change_sized (C := Try.checked) own started (by kernel_rfl) Try.func3
    (ChangeSpec.witness6 (enc := enc) (C := Try.checked) false ⟨#[], #[.agg #[.int .i64 0, .string ByteArray.empty], .string ByteArray.empty], []⟩ 8 (by kernel_rfl) (by kernel_rfl) (by kernel_rfl) (by kernel_rfl)) ?_
  intro W base args ds gs before hval0 hW hcnd hsz0 _
  have hval : ∀ (j : Nat) t v, Try.f3.params[j]? = some t → args[j]? = some v → Value.okWide Try.prog W .any base t v := hval0
  have hW' := hW
  obtain ⟨p, q, hA0, hV, rfl, hfz, hnd⟩ := hW
  have hA : DataW.TrodAll enc Try.prog W 0 (fun _ => true) true Try.f3.params.toList args.toList ds p := hA0
  have hsz : (DataW.weightsEach Try.prog (Try.f3.params.toList ++ Rows.walFramesSpec.plain.varTypes Try.prog) (ds ++ gs)).all (· ≤ reachBytes) = true := hsz0
  rw [Try.params3] at hA hval hsz
  obtain ⟨v0, vs0, d0, ds0, p0, q0, hargs, rfl, rfl, h0, r0⟩ := trodAll_cons hA
  obtain ⟨v1, vs1, d1, ds1, p1, q1, rfl, rfl, rfl, h1, r1⟩ := trodAll_cons r0
  obtain ⟨rfl, rfl, rfl⟩ := trodAll_nil r1
  obtain rfl : args = #[v0, v1] := by cases args; simp_all
  obtain ⟨rfl, rfl⟩ := trodVars_none hV
  have k0 := h0
  have lt0 : ∀ x ∈ p0, x.block < W.heap.size := by obtain ⟨m, hm⟩ := k0; exact DataW.trod_lt m _ _ _ hm
  obtain ⟨q0, b0, rfl, rfl, wq0, _⟩ := open_rec (hval 0 23 v0 rfl rfl) h0
  obtain ⟨a1, rfl, rfl, rfl, w1⟩ := open_string Try.underlying9 (hval 1 9 v1 rfl rfl) h1
  have s0 : b0.size ≤ 140737488351232 := by have := sized_rec hsz (j := 0) rfl rfl; simpa [reachBytes] using this
  have s1 : a1.size ≤ 140737488351232 := by have := sized_string hsz (j := 1) (t := 9) rfl rfl; simpa [reachBytes] using this
  clear hA0 hval0
  refine (walk q0 b0 a1 W wq0 s0 s1).mono fun e W' ⟨he, bel⟩ => ?_
  subst he
  exact ⟨_, rfl, _, _, _, [], _, [], hW', trodAll_mk1 (shut_bool Try.underlying4 _), (trodAll_cons_mk (Below.trod laidOut (by kernel_rfl) (of_decide_eq_true (by kernel_rfl)) k0 bel lt0) (trodAll_cons_mk (shut_string Try.underlying9 w1) trodAll_mk0)), rfl, bel.frame _, fun h => by cases h⟩

theorem over : Rows.walFramesRow.holds Try.pinned (OpenSpec.ofChange Rows.walFramesSpec) :=
  OpenClaim.holds_of_wide 3 Try.f3 rfl rfl rfl rfl rfl rfl rfl ⟨rfl, rfl, rfl, rfl, rfl⟩ rfl rfl rfl rfl rfl (by kernel_rfl) Try.func3 (by kernel_rfl)
    (of_decide_eq_true (by kernel_rfl)) (by unfold Func.isWrapper; first | (rw [if_pos (by decide +kernel)]; kernel_rfl) | (rw [if_neg (by decide +kernel)]; exact ⟨rfl, rfl⟩))
    (fun os started H enc _ => lifted os started H enc)

/-- The statement. -/
theorem proved : Rows.WalFramesSaid := over
#print axioms proved
end Go.Proofs.Ytmfoihalganggaa.walFrames
