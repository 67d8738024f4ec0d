/- For any row of whole numbers and any number the law IdsLists of the document's chapter 8 returns true over the program's own Check, Of and Has and the document's own answers: which lists are lists of ids, the list of any numbers, and whether a number stands in it. No condition. -/
import Derived.Test.YtbfaoelgbfhjdaaRows
import Derived.WalkKit
import Derived.ProofKit
import Derived.OpenShut
import Derived.ShutString
import Derived.ChangeOld
import Derived.Below
import Derived.Test.YtbfaoelgbfhjdaaIdR
import Derived.SizedLaws
namespace Go.Proofs.Ytbfaoelgbfhjdaa.idsLists
open Go.ChangeShapes Go.WideShapes Go.ChangeAt Go.RowKit
open Go.ChangeMaps (open_string shut_string)
set_option linter.unusedVariables false

theorem own : ownKnob Try.prog.godebug = none := by kernel_rfl
theorem laidOut : laidOutB Try.prog = true := by kernel_rfl

/-- WHAT THE WALK IS TOLD OF A SLICE OF INTEGERS THAT CAME IN: it is nil; or it leads to a row of 'cap' cells, the numbers 'zs' (the first 'len' are its elements, the rest its spare room), each fitting its kind. -/
def IsRow (k : IntKind) (w : World) (a : Option Addr) (len cap : Nat) (zs : List Int) : Prop :=
  (a = none ∧ len = 0 ∧ cap = 0 ∧ zs = []) ∨
  ∃ x, a = some x ∧ len ≤ cap ∧ cap ≤ maxLen ∧ zs.length = cap ∧ (∀ i, i < zs.length → w.cell? (x.add i) = some (.int k (zs.getD i 0))) ∧ ∀ n ∈ zs, (Lit.int k n).wf = true

/-! ### The walk -/
open Ids
/-- The row that came in, as a row of whole numbers. -/
theorem row_in {w : World} {a : Option Addr} {len cap : Nat} {z : List Int} (h : IsRow .i64 w a len cap z) : IntsAt w (.slice a len cap) (z.take len) ∧ (z.take len).length = len := by
  rcases h with ⟨rfl, rfl, rfl, rfl⟩ | ⟨x, rfl, h1, h2, h3, h4, _⟩
  · exact ⟨.inl ⟨rfl, none, 0, rfl⟩, rfl⟩
  · have hl : (z.take len).length = len := by simp; omega
    refine ⟨?_, hl⟩
    rcases Nat.eq_zero_or_pos len with h0 | h0
    · subst h0
      exact .inl ⟨by simp, some x, cap, rfl⟩
    · have hsome := h4 0 (by omega)
      have hsp : x.spot = none := by
        cases hs : x.spot with
        | none => rfl
        | some q =>
          simp [World.cell?, Addr.add, hs] at hsome
          split at hsome <;> simp at hsome
      obtain ⟨g, off, sp⟩ := x
      simp only at hsp
      subst hsp
      have hg : g < w.heap.size := by
        rcases Nat.lt_or_ge g w.heap.size with hlt | hge
        · exact hlt
        · simp [World.cell?, Addr.add, Array.getElem?_eq_none hge] at hsome
      refine .inr ⟨g, off, cap, by rw [hl], hg, fun W' hW' j hj => ?_⟩
      have hj' : j < z.length := by simp at hj; omega
      have := h4 j hj'
      have hjl : (z.take len)[j] = z.getD j 0 := by simp [List.getD, List.getElem?_eq_getElem hj']
      rw [hjl]
      have ha : (⟨g, off, none⟩ : Addr).add j = ⟨g, off + j, none⟩ := by unfold Addr.add; split <;> simp_all
      rw [ha] at this
      unfold World.cell? at this ⊢
      simp only [hW']
      exact this
set_option maxHeartbeats 2000000 in
set_option maxRecDepth 100000 in
theorem walk (a0 : Option Addr) (len0 cap0 : Nat) (z0 : List Int) (a1 : Int) (w : World) (w0 : IsRow .i64 w a0 len0 cap0 z0) (s0 : cap0 * 8 ≤ 140737488351232) (w1 : (Lit.int .i64 a1).wf = true) :
    Calls Try.prog 3 #[.slice a0 len0 cap0, .int .i64 a1] w fun e w' => e = .returned (.bool true) ∧ Below w.heap.size w w' := by
  obtain ⟨hi, hlen⟩ := row_in w0
  have hcl : len0 ≤ cap0 := by rcases w0 with ⟨rfl, rfl, rfl, rfl⟩ | ⟨x, rfl, h1, _⟩ <;> omega
  generalize z0.take len0 = L at hi hlen
  have hl : L.length * 8 ≤ 140737488351232 := by omega
  have hm : L.length ≤ maxLen := by unfold maxLen; omega
  have HT := Lib.hid (twin_any L _ w hi (by omega))
  have HI := Lib.hid hi
  have HM := Lib.hid hm
  have HL := Lib.hid hl
  clear hi hlen hcl w0 s0 w1 hl hm
  generalize Value.slice a0 len0 cap0 = v at *
  go_enter Try.func3, Try.ntmps3
  go_wp2_with fail
  refine HT.out.mono ?_
  rintro e w1 ⟨u, rfl, ho, hB0⟩
  have hu := ho.at
  have hv := HI.out.below hB0
  have H1 := Lib.hid fun wx (hq : Below w1.heap.size w1 wx) => of_any L u wx (hu.below hq) (by have := HL.out; omega)
  have H2 := Lib.hid fun wx (hq : Below w1.heap.size w1 wx) => ofRef_any L v wx (hv.below hq) (by have := HL.out; omega)
  have H3 := Lib.hid fun wx (hq : Below w1.heap.size w1 wx) => check_any L u wx (hu.below hq) HM.out
  have H4 := Lib.hid fun wx (hq : Below w1.heap.size w1 wx) => checkRef_any L v wx (hv.below hq) HM.out
  have H5 := Lib.hid fun wx (hq : Below w1.heap.size w1 wx) => has_any L u a1 wx (hu.below hq) HM.out
  have H6 := Lib.hid fun wx (hq : Below w1.heap.size w1 wx) => hasRef_any L v a1 wx (hv.below hq) HM.out
  have H7 := Lib.hid fun wx (hq : Below w1.heap.size w1 wx) => sameLaw_any L L u v wx (hu.below hq) (hv.below hq) HM.out HM.out
  have H8 := Lib.hid sure_yes
  have HO := Lib.hid (show (ofL L).length ≤ maxLen by have := ofL_length L; have := HM.out; omega)
  have HB0 := Lib.hid hB0
  have HB := Lib.hid (Below.refl w1.heap.size w1)
  clear HT ho hB0 HI HM HL hu hv
  rw [eqB_same] at H7
  generalize chkE L = r at H3 H4
  generalize chkE (setL L) = q at H1 H2
  generalize hasB L a1 = m at H5 H6
  go_wp2_with (first
    | (go_at_call 10; refine (H1.out _ HB.out).mono ?_; rintro e w2 ⟨x1, rfl, h1, hb⟩; have HX := Lib.hid h1.at; have hb' := HB.out.trans (hb.mono HB.out.size); clear HB; have HB := Lib.hid hb'; clear hb hb' h1)
    | (go_at_call 11; refine (H2.out _ HB.out).mono ?_; rintro e w2 ⟨x2, rfl, h2, hb⟩; have HY := Lib.hid h2.at; have hx := HX.out.below hb; clear HX; have HX := Lib.hid hx; have hb' := HB.out.trans (hb.mono HB.out.size); clear HB; have HB := Lib.hid hb'; clear hb hb' h2 hx)
    | (go_at_call 12; refine (H3.out _ HB.out).mono ?_; rintro e w2 ⟨rfl, rfl⟩)
    | (go_at_call 13; refine (H4.out _ HB.out).mono ?_; rintro e w2 ⟨rfl, hb⟩; have hx := HX.out.below hb; have hy := HY.out.below hb; clear HX HY; have HX := Lib.hid hx; have HY := Lib.hid hy; have hb' := HB.out.trans (hb.mono HB.out.size); clear HB; have HB := Lib.hid hb'; clear hb hb' hx hy)
    | (go_at_call 14; refine (sameLaw_any _ _ _ _ _ HX.out HY.out HO.out HO.out).mono ?_; rw [eqB_same]; clear HX HY; rintro e w2 ⟨rfl, hb⟩; have hb' := HB.out.trans (hb.mono HB.out.size); clear HB; have HB := Lib.hid hb'; clear hb hb')
    | (go_at_call 15; refine (H5.out _ HB.out).mono ?_; rintro e w2 ⟨rfl, rfl⟩)
    | (go_at_call 16; refine (H6.out _ HB.out).mono ?_; rintro e w2 ⟨rfl, rfl⟩)
    | (go_at_call 14; refine (H7.out _ HB.out).mono ?_; rintro e w2 ⟨rfl, hb⟩; have hb' := HB.out.trans (hb.mono HB.out.size); clear HB; have HB := Lib.hid hb'; clear hb hb')
    | (go_at_call 17; refine (H8.out _).mono ?_; rintro e w2 ⟨rfl, hb⟩; have hb' := HB.out.trans (hb.mono HB.out.size); clear HB; have HB := Lib.hid hb'; clear hb hb'))
  go_ret
  exact ⟨rfl, HB0.out.trans (HB.out.mono HB0.out.size)⟩

/-! ### The row -/
set_option maxRecDepth 100000 in
theorem lifted (os : Os) (started : os.Started) (H : Type) (enc : TypeId × Value → H) :
    ReturnsInHanded {} Try.checked os 3 .any (Rows.idsListsSpec.pre6 enc Try.prog Try.f3 Rows.idsListsRow.domain false) (Rows.idsListsSpec.post enc Try.prog Try.f3 false true false false) := by
  refine returnsInHanded_of_change_sized (C := Try.checked) own started (by kernel_rfl) Try.func3
    (ChangeSpec.witness6 (enc := enc) (C := Try.checked) false ⟨#[], #[.slice none 0 0, .int .i64 0], []⟩ 8 (by kernel_rfl) (by kernel_rfl) (by kernel_rfl) (by kernel_rfl)) ?_
  intro W base args ds gs before hval0 hW hcnd hsz0 _
  have hval : ∀ (j : Nat) t v, Try.f3.params[j]? = some t → args[j]? = some v → Value.okWide Try.prog W .any base t v := hval0
  have hW' := hW
  obtain ⟨p, q, hA0, hV, rfl, hfz, hnd⟩ := hW
  have hA : DataW.TrodAll enc Try.prog W 0 (fun _ => true) true Try.f3.params.toList args.toList ds p := hA0
  have hsz : (DataW.weightsEach Try.prog (Try.f3.params.toList ++ Rows.idsListsSpec.plain.varTypes Try.prog) (ds ++ gs)).all (· ≤ reachBytes) = true := hsz0
  rw [Try.params3] at hA hval hsz
  obtain ⟨v0, vs0, d0, ds0, p0, q0, hargs, rfl, rfl, h0, r0⟩ := trodAll_cons hA
  obtain ⟨v1, vs1, d1, ds1, p1, q1, rfl, rfl, rfl, h1, r1⟩ := trodAll_cons r0
  obtain ⟨rfl, rfl, rfl⟩ := trodAll_nil r1
  obtain rfl : args = #[v0, v1] := by cases args; simp_all
  obtain ⟨rfl, rfl⟩ := trodVars_none hV
  obtain ⟨a0, len0, cap0, rfl⟩ := okWide_slice Try.underlying22 (hval 0 22 v0 rfl rfl)
  have k0 := h0
  have lt0 : ∀ x ∈ p0, x.block < W.heap.size := by obtain ⟨m, hm⟩ := k0; exact DataW.trod_lt m _ _ _ hm
  obtain ⟨z0, w0, s0⟩ : ∃ zs, IsRow .i64 W a0 len0 cap0 zs ∧ cap0 * 8 ≤ 140737488351232 := by
    obtain ⟨fuel, hf⟩ := h0
    rcases open_ints Try.underlying22 Try.underlying3 (by kernel_rfl) hf with ⟨hcs, _⟩ | ⟨x, l, c, zs, hcs, _, hl, hm, hz, hx, hcell, hwz⟩
    · simp [Value.cells] at hcs
      obtain ⟨rfl, rfl, rfl⟩ := hcs
      exact ⟨[], .inl ⟨rfl, rfl, rfl, rfl⟩, by simp⟩
    · simp [Value.cells] at hcs
      obtain ⟨rfl, rfl, rfl⟩ := hcs
      have hx' := congrArg Prod.fst hx
      simp only at hx'
      subst hx'
      have hs := sized_slice hsz (j := 0) (t := 22) (e := 3) rfl rfl Try.underlying22
      rw [show Try.prog.bytesOf 3 = 8 by kernel_rfl] at hs
      simp only [if_true] at hz
      simp [lits, reachBytes] at hs
      exact ⟨zs, .inr ⟨_, rfl, hl, hm, by simpa using hz, hcell, hwz⟩, by omega⟩
  obtain ⟨a1, rfl, rfl, rfl, w1⟩ := open_int Try.underlying3 (hval 1 3 v1 rfl rfl) h1
  clear hA0 hval0
  refine (walk a0 len0 cap0 z0 a1 W w0 s0 w1).mono fun e W' ⟨he, bel⟩ => ?_
  subst he
  exact ⟨_, rfl, _, _, _, [], _, [], hW', trodAll_mk1 (shut_bool Try.underlying4 _), (trodAll_cons_mk (Below.trod laidOut (by kernel_rfl) (of_decide_eq_true (by kernel_rfl)) k0 bel lt0) (trodAll_cons_mk (shut_int Try.underlying3 w1) trodAll_mk0)), rfl, bel.frame _, fun h => by cases h⟩

theorem over : Rows.idsListsRow.holds Try.pinned (OpenSpec.ofChange Rows.idsListsSpec) :=
  OpenClaim.holds_of_wide 3 Try.f3 rfl rfl rfl rfl rfl rfl rfl ⟨rfl, rfl, rfl, rfl, rfl⟩ rfl rfl rfl rfl rfl (by kernel_rfl) Try.func3 (by kernel_rfl)
    (of_decide_eq_true (by kernel_rfl)) (by unfold Func.isWrapper; first | (rw [if_pos (by decide +kernel)]; kernel_rfl) | (rw [if_neg (by decide +kernel)]; exact ⟨rfl, rfl⟩))
    (fun os started H enc _ => lifted os started H enc)

/-- The statement. -/
theorem proved : Rows.IdsListsSaid := over
#print axioms proved
end Go.Proofs.Ytbfaoelgbfhjdaa.idsLists
