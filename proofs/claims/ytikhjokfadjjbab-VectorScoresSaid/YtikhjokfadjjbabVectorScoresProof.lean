/- For any metric and any two rows of whole numbers the law VectorScores of the document's chapter 6 returns true over the program's own Score, L2, Dot, Cos and the document's own answers: how near the two are by each metric, or the error. No condition. -/
import Derived.Test.YtikhjokfadjjbabRows
import Derived.WalkKit
import Derived.ProofKit
import Derived.OpenShut
import Derived.ShutString
import Derived.ChangeOld
import Derived.Below
import Derived.Test.YtikhjokfadjjbabVcI
import Derived.SizedLaws
namespace Go.Proofs.Ytikhjokfadjjbab.vectorScores
open Go.ChangeShapes Go.WideShapes Go.ChangeAt Go.RowKit
open Go.ChangeMaps (open_string shut_string)
set_option linter.unusedVariables false

theorem own : ownKnob Try.prog.godebug = none := by kernel_rfl
theorem laidOut : laidOutB Try.prog = true := by kernel_rfl

/-- WHAT THE WALK IS TOLD OF A SLICE OF INTEGERS THAT CAME IN: it is nil; or it leads to a row of 'cap' cells, the numbers 'zs' (the first 'len' are its elements, the rest its spare room), each fitting its kind. -/
def IsRow (k : IntKind) (w : World) (a : Option Addr) (len cap : Nat) (zs : List Int) : Prop :=
  (a = none ∧ len = 0 ∧ cap = 0 ∧ zs = []) ∨
  ∃ x, a = some x ∧ len ≤ cap ∧ cap ≤ maxLen ∧ zs.length = cap ∧ (∀ i, i < zs.length → w.cell? (x.add i) = some (.int k (zs.getD i 0))) ∧ ∀ n ∈ zs, (Lit.int k n).wf = true

/-! ### The walk -/
open Vc
/-- The row that came in, as a row of whole numbers. -/
theorem row_in {w : World} {a : Option Addr} {len cap : Nat} {z : List Int} (h : IsRow .i64 w a len cap z) : IntsAt w (.slice a len cap) (z.take len) ∧ (z.take len).length = len := by
  rcases h with ⟨rfl, rfl, rfl, rfl⟩ | ⟨x, rfl, h1, h2, h3, h4, _⟩
  · exact ⟨.inl ⟨rfl, none, 0, rfl⟩, rfl⟩
  · have hl : (z.take len).length = len := by simp; omega
    refine ⟨?_, hl⟩
    rcases Nat.eq_zero_or_pos len with h0 | h0
    · subst h0
      exact .inl ⟨by simp, some x, cap, rfl⟩
    · have hsome := h4 0 (by omega)
      have hsp : x.spot = none := by
        cases hs : x.spot with
        | none => rfl
        | some q =>
          simp [World.cell?, Addr.add, hs] at hsome
          split at hsome <;> simp at hsome
      obtain ⟨g, off, sp⟩ := x
      simp only at hsp
      subst hsp
      have hg : g < w.heap.size := by
        rcases Nat.lt_or_ge g w.heap.size with hlt | hge
        · exact hlt
        · simp [World.cell?, Addr.add, Array.getElem?_eq_none hge] at hsome
      refine .inr ⟨g, off, cap, by rw [hl], hg, fun W' hW' j hj => ?_⟩
      have hj' : j < z.length := by simp at hj; omega
      have := h4 j hj'
      have hjl : (z.take len)[j] = z.getD j 0 := by simp [List.getD, List.getElem?_eq_getElem hj']
      rw [hjl]
      have ha : (⟨g, off, none⟩ : Addr).add j = ⟨g, off + j, none⟩ := by unfold Addr.add; split <;> simp_all
      rw [ha] at this
      unfold World.cell? at this ⊢
      simp only [hW']
      exact this
set_option maxHeartbeats 2000000 in
set_option maxRecDepth 100000 in
theorem walk (a0 : Int) (a1 : Option Addr) (len1 cap1 : Nat) (z1 : List Int) (a2 : Option Addr) (len2 cap2 : Nat) (z2 : List Int) (w : World) (w0 : (Lit.int .i64 a0).wf = true) (w1 : IsRow .i64 w a1 len1 cap1 z1) (s1 : cap1 * 8 ≤ 140737488351232) (w2 : IsRow .i64 w a2 len2 cap2 z2) (s2 : cap2 * 8 ≤ 140737488351232) :
    Calls Try.prog 4 #[.int .i64 a0, .slice a1 len1 cap1, .slice a2 len2 cap2] w fun e w' => e = .returned (.bool true) ∧ Below w.heap.size w w' := by
  obtain ⟨hi1, hlen1⟩ := row_in w1
  obtain ⟨hi2, hlen2⟩ := row_in w2
  have hcl1 : len1 ≤ cap1 := by rcases w1 with ⟨rfl, rfl, rfl, rfl⟩ | ⟨x, rfl, h1, _⟩ <;> omega
  have hcl2 : len2 ≤ cap2 := by rcases w2 with ⟨rfl, rfl, rfl, rfl⟩ | ⟨x, rfl, h1, _⟩ <;> omega
  generalize z1.take len1 = A at hi1 hlen1
  generalize z2.take len2 = B at hi2 hlen2
  have hl1 : A.length * 8 ≤ 140737488355328 := by omega
  have hl2 : B.length * 8 ≤ 140737488355328 := by omega
  have MA := Lib.hid (show A.length ≤ maxLen by unfold maxLen; omega)
  have MB := Lib.hid (show B.length ≤ maxLen by unfold maxLen; omega)
  have I1 := Lib.hid hi1
  have I2 := Lib.hid hi2
  have T1 := Lib.hid (twin_any A _ w hi1 hl1)
  have T2 := Lib.hid (fun (wx : World) (hq : Below w.heap.size w wx) => twin_any B _ wx (hi2.below hq) hl2)
  clear hi1 hi2 hlen1 hlen2 hcl1 hcl2 w0 w1 w2 s1 s2 hl1 hl2
  generalize Value.slice a1 len1 cap1 = u at *
  generalize Value.slice a2 len2 cap2 = v at *
  go_enter Try.func4, Try.ntmps4
  go_wp2_with fail
  refine T1.out.mono ?_
  rintro e w1 ⟨x, rfl, hx, hB⟩
  replace hx := Lib.hid hx.at
  have HB := Lib.hid hB
  clear hB T1
  go_wp2_with fail
  refine (T2.out _ HB.out).mono ?_
  rintro e w2 ⟨y, rfl, hy, hb⟩
  replace hx := Lib.hid (hx.out.below hb)
  replace HB := Lib.hid (HB.out.trans (hb.mono HB.out.size))
  have hB := Below.refl w2.heap.size w2
  replace hy := Lib.hid hy.at
  clear hb T2
  have J1 := Lib.hid (I1.out.below HB.out)
  have J2 := Lib.hid (I2.out.below HB.out)
  clear I1 I2
  have L1 := Lib.hid fun (wx : World) (hq : Below w2.heap.size w2 wx) => L2_any A B x y wx (hx.out.below hq) (hy.out.below hq) MA.out MB.out
  have L2 := Lib.hid fun (wx : World) (hq : Below w2.heap.size w2 wx) => l2Ref_any A B u v wx (J1.out.below hq) (J2.out.below hq) MA.out MB.out
  have D1 := Lib.hid fun (wx : World) (hq : Below w2.heap.size w2 wx) => Dot_any A B x y wx (hx.out.below hq) (hy.out.below hq) MA.out MB.out
  have D2 := Lib.hid fun (wx : World) (hq : Below w2.heap.size w2 wx) => dotRef_any A B u v wx (J1.out.below hq) (J2.out.below hq) MA.out MB.out
  have C1 := Lib.hid fun (wx : World) (hq : Below w2.heap.size w2 wx) => Cos_any A B x y wx (hx.out.below hq) (hy.out.below hq) MA.out MB.out
  have C2 := Lib.hid fun (wx : World) (hq : Below w2.heap.size w2 wx) => cosRef_any A B u v wx (J1.out.below hq) (J2.out.below hq) MA.out MB.out
  have M1 := Lib.hid fun (wx : World) (hq : Below w2.heap.size w2 wx) => same_any A A x u wx (hx.out.below hq) (J1.out.below hq) MA.out MA.out
  have M2 := Lib.hid fun (wx : World) (hq : Below w2.heap.size w2 wx) => same_any B B y v wx (hy.out.below hq) (J2.out.below hq) MB.out MB.out
  have SY := Lib.hid sure_yes
  obtain ⟨sv, se, S1, S2⟩ : ∃ sv se : Int, Hid (∀ (wx : World), Below w2.heap.size w2 wx → Calls Try.prog 12 #[.int .i64 a0, x, y] wx fun e w' => e = .returned (.tuple #[.int .i64 sv, .int .i64 se]) ∧ Below wx.heap.size wx w') ∧
      Hid (∀ (wx : World), Below w2.heap.size w2 wx → Calls Try.prog 13 #[.int .i64 a0, u, v] wx fun e w' => e = .returned (.tuple #[.int .i64 sv, .int .i64 se]) ∧ Below wx.heap.size wx w') := by
    by_cases h : scoreOk A B a0
    · exact ⟨_, _, Lib.hid fun wx hq => Score_yes A B x y a0 wx (hx.out.below hq) (hy.out.below hq) h, Lib.hid fun wx hq => scoreRef_yes A B u v a0 wx (J1.out.below hq) (J2.out.below hq) h⟩
    · exact ⟨_, _, Lib.hid fun wx hq => Score_no A B x y a0 wx (hx.out.below hq) (hy.out.below hq) MA.out MB.out h, Lib.hid fun wx hq => scoreRef_no A B u v a0 wx (J1.out.below hq) (J2.out.below hq) MA.out MB.out h⟩
  simp only [decide_true] at M1 M2
  generalize (if alikeB A B = true then sq A B else 0) = r1 at L1 L2
  generalize (if alikeB A B = true then dot A B else 0) = r2 at D1 D2
  generalize (if alikeB A B = true then cosN A B else 0) = r3 at C1 C2
  clear MA MB hx hy J1 J2
  go_wp2_with (first
    | (go_at_call 12; refine (S1.out _ hB).mono ?_; rintro e w3 ⟨rfl, hb⟩; replace hB := hB.trans (hb.mono hB.size); clear hb)
    | (go_at_call 13; refine (S2.out _ hB).mono ?_; rintro e w3 ⟨rfl, hb⟩; replace hB := hB.trans (hb.mono hB.size); clear hb)
    | (go_at_call 14; refine (L1.out _ hB).mono ?_; rintro e w3 ⟨rfl, hb⟩; replace hB := hB.trans (hb.mono hB.size); clear hb)
    | (go_at_call 15; refine (L2.out _ hB).mono ?_; rintro e w3 ⟨rfl, hb⟩; replace hB := hB.trans (hb.mono hB.size); clear hb)
    | (go_at_call 16; refine (D1.out _ hB).mono ?_; rintro e w3 ⟨rfl, rfl⟩)
    | (go_at_call 17; refine (D2.out _ hB).mono ?_; rintro e w3 ⟨rfl, hb⟩; replace hB := hB.trans (hb.mono hB.size); clear hb)
    | (go_at_call 18; refine (C1.out _ hB).mono ?_; rintro e w3 ⟨rfl, rfl⟩)
    | (go_at_call 19; refine (C2.out _ hB).mono ?_; rintro e w3 ⟨rfl, hb⟩; replace hB := hB.trans (hb.mono hB.size); clear hb)
    | (go_at_call 10; (with_reducible refine (M1.out _ hB).mono ?_); rintro e w3 ⟨rfl, hb⟩; replace hB := hB.trans (hb.mono hB.size); clear hb)
    | (go_at_call 10; (with_reducible refine (M2.out _ hB).mono ?_); rintro e w3 ⟨rfl, hb⟩; replace hB := hB.trans (hb.mono hB.size); clear hb)
    | (go_at_call 11; refine (SY.out _).mono ?_; rintro e w3 ⟨rfl, hb⟩; replace hB := hB.trans (hb.mono hB.size); clear hb))
  go_ret
  exact ⟨rfl, HB.out.trans (hB.mono HB.out.size)⟩

/-! ### The row -/
set_option maxRecDepth 100000 in
theorem lifted (os : Os) (started : os.Started) (H : Type) (enc : TypeId × Value → H) :
    ReturnsInHanded {} Try.checked os 4 .any (Rows.vectorScoresSpec.pre6 enc Try.prog Try.f4 Rows.vectorScoresRow.domain false) (Rows.vectorScoresSpec.post enc Try.prog Try.f4 false true false false) := by
  refine returnsInHanded_of_change_sized (C := Try.checked) own started (by kernel_rfl) Try.func4
    (ChangeSpec.witness6 (enc := enc) (C := Try.checked) false ⟨#[], #[.int .i64 0, .slice none 0 0, .slice none 0 0], []⟩ 8 (by kernel_rfl) (by kernel_rfl) (by kernel_rfl) (by kernel_rfl)) ?_
  intro W base args ds gs before hval0 hW hcnd hsz0 _
  have hval : ∀ (j : Nat) t v, Try.f4.params[j]? = some t → args[j]? = some v → Value.okWide Try.prog W .any base t v := hval0
  have hW' := hW
  obtain ⟨p, q, hA0, hV, rfl, hfz, hnd⟩ := hW
  have hA : DataW.TrodAll enc Try.prog W 0 (fun _ => true) true Try.f4.params.toList args.toList ds p := hA0
  have hsz : (DataW.weightsEach Try.prog (Try.f4.params.toList ++ Rows.vectorScoresSpec.plain.varTypes Try.prog) (ds ++ gs)).all (· ≤ reachBytes) = true := hsz0
  rw [Try.params4] at hA hval hsz
  obtain ⟨v0, vs0, d0, ds0, p0, q0, hargs, rfl, rfl, h0, r0⟩ := trodAll_cons hA
  obtain ⟨v1, vs1, d1, ds1, p1, q1, rfl, rfl, rfl, h1, r1⟩ := trodAll_cons r0
  obtain ⟨v2, vs2, d2, ds2, p2, q2, rfl, rfl, rfl, h2, r2⟩ := trodAll_cons r1
  obtain ⟨rfl, rfl, rfl⟩ := trodAll_nil r2
  obtain rfl : args = #[v0, v1, v2] := by cases args; simp_all
  obtain ⟨rfl, rfl⟩ := trodVars_none hV
  obtain ⟨a0, rfl, rfl, rfl, w0⟩ := open_int Try.underlying3 (hval 0 3 v0 rfl rfl) h0
  obtain ⟨a1, len1, cap1, rfl⟩ := okWide_slice Try.underlying22 (hval 1 22 v1 rfl rfl)
  have k1 := h1
  have lt1 : ∀ x ∈ p1, x.block < W.heap.size := by obtain ⟨m, hm⟩ := k1; exact DataW.trod_lt m _ _ _ hm
  obtain ⟨z1, w1, s1⟩ : ∃ zs, IsRow .i64 W a1 len1 cap1 zs ∧ cap1 * 8 ≤ 140737488351232 := by
    obtain ⟨fuel, hf⟩ := h1
    rcases open_ints Try.underlying22 Try.underlying3 (by kernel_rfl) hf with ⟨hcs, _⟩ | ⟨x, l, c, zs, hcs, _, hl, hm, hz, hx, hcell, hwz⟩
    · simp [Value.cells] at hcs
      obtain ⟨rfl, rfl, rfl⟩ := hcs
      exact ⟨[], .inl ⟨rfl, rfl, rfl, rfl⟩, by simp⟩
    · simp [Value.cells] at hcs
      obtain ⟨rfl, rfl, rfl⟩ := hcs
      have hx' := congrArg Prod.fst hx
      simp only at hx'
      subst hx'
      have hs := sized_slice hsz (j := 1) (t := 22) (e := 3) rfl rfl Try.underlying22
      rw [show Try.prog.bytesOf 3 = 8 by kernel_rfl] at hs
      simp only [if_true] at hz
      simp [lits, reachBytes] at hs
      exact ⟨zs, .inr ⟨_, rfl, hl, hm, by simpa using hz, hcell, hwz⟩, by omega⟩
  obtain ⟨a2, len2, cap2, rfl⟩ := okWide_slice Try.underlying22 (hval 2 22 v2 rfl rfl)
  have k2 := h2
  have lt2 : ∀ x ∈ p2, x.block < W.heap.size := by obtain ⟨m, hm⟩ := k2; exact DataW.trod_lt m _ _ _ hm
  obtain ⟨z2, w2, s2⟩ : ∃ zs, IsRow .i64 W a2 len2 cap2 zs ∧ cap2 * 8 ≤ 140737488351232 := by
    obtain ⟨fuel, hf⟩ := h2
    rcases open_ints Try.underlying22 Try.underlying3 (by kernel_rfl) hf with ⟨hcs, _⟩ | ⟨x, l, c, zs, hcs, _, hl, hm, hz, hx, hcell, hwz⟩
    · simp [Value.cells] at hcs
      obtain ⟨rfl, rfl, rfl⟩ := hcs
      exact ⟨[], .inl ⟨rfl, rfl, rfl, rfl⟩, by simp⟩
    · simp [Value.cells] at hcs
      obtain ⟨rfl, rfl, rfl⟩ := hcs
      have hx' := congrArg Prod.fst hx
      simp only at hx'
      subst hx'
      have hs := sized_slice hsz (j := 2) (t := 22) (e := 3) rfl rfl Try.underlying22
      rw [show Try.prog.bytesOf 3 = 8 by kernel_rfl] at hs
      simp only [if_true] at hz
      simp [lits, reachBytes] at hs
      exact ⟨zs, .inr ⟨_, rfl, hl, hm, by simpa using hz, hcell, hwz⟩, by omega⟩
  clear hA0 hval0
  refine (walk a0 a1 len1 cap1 z1 a2 len2 cap2 z2 W w0 w1 s1 w2 s2).mono fun e W' ⟨he, bel⟩ => ?_
  subst he
  exact ⟨_, rfl, _, _, _, [], _, [], hW', trodAll_mk1 (shut_bool Try.underlying4 _), (trodAll_cons_mk (shut_int Try.underlying3 w0) (trodAll_cons_mk (Below.trod laidOut (by kernel_rfl) (of_decide_eq_true (by kernel_rfl)) k1 bel lt1) (trodAll_cons_mk (Below.trod laidOut (by kernel_rfl) (of_decide_eq_true (by kernel_rfl)) k2 bel lt2) trodAll_mk0))), rfl, bel.frame _, fun h => by cases h⟩

theorem over : Rows.vectorScoresRow.holds Try.pinned (OpenSpec.ofChange Rows.vectorScoresSpec) :=
  OpenClaim.holds_of_wide 4 Try.f4 rfl rfl rfl rfl rfl rfl rfl ⟨rfl, rfl, rfl, rfl, rfl⟩ rfl rfl rfl rfl rfl (by kernel_rfl) Try.func4 (by kernel_rfl)
    (of_decide_eq_true (by kernel_rfl)) (by unfold Func.isWrapper; first | (rw [if_pos (by decide +kernel)]; kernel_rfl) | (rw [if_neg (by decide +kernel)]; exact ⟨rfl, rfl⟩))
    (fun os started H enc _ => lifted os started H enc)

/-- The statement. -/
theorem proved : Rows.VectorScoresSaid := over
#print axioms proved
end Go.Proofs.Ytikhjokfadjjbab.vectorScores
