/- For any three rows of whole numbers the law VectorTriangle of the document's chapter 6 returns true over the program's own L2 and Dot: the way over a third vector is no shorter, up to the rounding of roots, and no product is greater than what the roots allow. No condition. -/
import Derived.Test.YtikhjokfadjjbabRows
import Derived.WalkKit
import Derived.ProofKit
import Derived.OpenShut
import Derived.ShutString
import Derived.ChangeOld
import Derived.Below
import Derived.Test.YtikhjokfadjjbabVcJ
import Derived.SizedLaws
namespace Go.Proofs.Ytikhjokfadjjbab.vectorTriangle
open Go.ChangeShapes Go.WideShapes Go.ChangeAt Go.RowKit
open Go.ChangeMaps (open_string shut_string)
set_option linter.unusedVariables false

theorem own : ownKnob Try.prog.godebug = none := by kernel_rfl
theorem laidOut : laidOutB Try.prog = true := by kernel_rfl

/-- WHAT THE WALK IS TOLD OF A SLICE OF INTEGERS THAT CAME IN: it is nil; or it leads to a row of 'cap' cells, the numbers 'zs' (the first 'len' are its elements, the rest its spare room), each fitting its kind. -/
def IsRow (k : IntKind) (w : World) (a : Option Addr) (len cap : Nat) (zs : List Int) : Prop :=
  (a = none ∧ len = 0 ∧ cap = 0 ∧ zs = []) ∨
  ∃ x, a = some x ∧ len ≤ cap ∧ cap ≤ maxLen ∧ zs.length = cap ∧ (∀ i, i < zs.length → w.cell? (x.add i) = some (.int k (zs.getD i 0))) ∧ ∀ n ∈ zs, (Lit.int k n).wf = true

/-! ### The walk -/
open Vc
/-- The row that came in, as a row of whole numbers. -/
theorem row_in {w : World} {a : Option Addr} {len cap : Nat} {z : List Int} (h : IsRow .i64 w a len cap z) : IntsAt w (.slice a len cap) (z.take len) ∧ (z.take len).length = len := by
  rcases h with ⟨rfl, rfl, rfl, rfl⟩ | ⟨x, rfl, h1, h2, h3, h4, _⟩
  · exact ⟨.inl ⟨rfl, none, 0, rfl⟩, rfl⟩
  · have hl : (z.take len).length = len := by simp; omega
    refine ⟨?_, hl⟩
    rcases Nat.eq_zero_or_pos len with h0 | h0
    · subst h0
      exact .inl ⟨by simp, some x, cap, rfl⟩
    · have hsome := h4 0 (by omega)
      have hsp : x.spot = none := by
        cases hs : x.spot with
        | none => rfl
        | some q =>
          simp [World.cell?, Addr.add, hs] at hsome
          split at hsome <;> simp at hsome
      obtain ⟨g, off, sp⟩ := x
      simp only at hsp
      subst hsp
      have hg : g < w.heap.size := by
        rcases Nat.lt_or_ge g w.heap.size with hlt | hge
        · exact hlt
        · simp [World.cell?, Addr.add, Array.getElem?_eq_none hge] at hsome
      refine .inr ⟨g, off, cap, by rw [hl], hg, fun W' hW' j hj => ?_⟩
      have hj' : j < z.length := by simp at hj; omega
      have := h4 j hj'
      have hjl : (z.take len)[j] = z.getD j 0 := by simp [List.getD, List.getElem?_eq_getElem hj']
      rw [hjl]
      have ha : (⟨g, off, none⟩ : Addr).add j = ⟨g, off + j, none⟩ := by unfold Addr.add; split <;> simp_all
      rw [ha] at this
      unfold World.cell? at this ⊢
      simp only [hW']
      exact this
set_option maxHeartbeats 2000000 in
set_option maxRecDepth 100000 in
theorem walk (a0 : Option Addr) (len0 cap0 : Nat) (z0 : List Int) (a1 : Option Addr) (len1 cap1 : Nat) (z1 : List Int) (a2 : Option Addr) (len2 cap2 : Nat) (z2 : List Int) (w : World) (w0 : IsRow .i64 w a0 len0 cap0 z0) (s0 : cap0 * 8 ≤ 140737488351232) (w1 : IsRow .i64 w a1 len1 cap1 z1) (s1 : cap1 * 8 ≤ 140737488351232) (w2 : IsRow .i64 w a2 len2 cap2 z2) (s2 : cap2 * 8 ≤ 140737488351232) :
    Calls Try.prog 6 #[.slice a0 len0 cap0, .slice a1 len1 cap1, .slice a2 len2 cap2] w fun e w' => e = .returned (.bool true) ∧ Below w.heap.size w w' := by
  obtain ⟨hi0, hlen0⟩ := row_in w0
  obtain ⟨hi1, hlen1⟩ := row_in w1
  obtain ⟨hi2, hlen2⟩ := row_in w2
  generalize z0.take len0 = L at hi0 hlen0
  generalize z1.take len1 = M at hi1 hlen1
  generalize z2.take len2 = O at hi2 hlen2
  clear w0 w1 w2 s0 s1 s2
  subst hlen0 hlen1 hlen2
  obtain ⟨N, hN⟩ : ∃ N : Nat, (N : Int) = max 1 (min (max (L.length : Int) (max (M.length : Int) (O.length : Int))) 64) := ⟨(max 1 (min (max (L.length : Int) (max (M.length : Int) (O.length : Int))) 64)).toNat, Int.toNat_of_nonneg (by omega)⟩
  have hN1 : 1 ≤ N := by omega
  have hN64 : N ≤ 64 := by omega
  have F0 := Lib.hid (fit_any L _ N w hi0 hN64)
  have F1 := Lib.hid (fun (wx : World) (hq : Below w.heap.size w wx) => fit_any M _ N wx (hi1.below hq) hN64)
  have F2 := Lib.hid (fun (wx : World) (hq : Below w.heap.size w wx) => fit_any O _ N wx (hi2.below hq) hN64)
  have hab := fitL_alike L M N hN1 hN64
  have hac := fitL_alike L O N hN1 hN64
  have hbc := fitL_alike M O N hN1 hN64
  have haa := fitL_alike L L N hN1 hN64
  have hbb := fitL_alike M M N hN1 hN64
  have hN' := hN.symm
  clear hi0 hi1 hi2 hN1 hN64 hN
  generalize L.length = l0 at *
  generalize M.length = l1 at *
  generalize O.length = l2 at *
  generalize fitL L N = A at *
  generalize fitL M N = B at *
  generalize fitL O N = C at *
  go_enter Try.func6, Try.ntmps6
  go_wp2_with fail
  refine F0.out.mono ?_
  rintro e w1 ⟨x, rfl, hx, hB⟩
  replace hx := Lib.hid hx.at
  have HB := Lib.hid hB
  clear hB F0
  go_wp2_with fail
  refine (F1.out _ HB.out).mono ?_
  rintro e w2 ⟨y, rfl, hy, hb⟩
  replace hx := Lib.hid (hx.out.below hb)
  replace hy := Lib.hid hy.at
  replace HB := Lib.hid (HB.out.trans (hb.mono HB.out.size))
  clear hb F1
  go_wp2_with fail
  refine (F2.out _ HB.out).mono ?_
  rintro e w3 ⟨z, rfl, hz, hb⟩
  replace hx := Lib.hid (hx.out.below hb)
  replace hy := Lib.hid (hy.out.below hb)
  replace hz := Lib.hid hz.at
  replace HB := Lib.hid (HB.out.trans (hb.mono HB.out.size))
  clear hb F2
  obtain ⟨lab, va, vb⟩ := alike_is hab
  obtain ⟨lbc, _, vc⟩ := alike_is hbc
  have lac := lab.trans lbc
  have hm : ∀ {K : List Int}, vecB K = true → K.length ≤ maxLen := vec_len
  have hB := Below.refl w3.heap.size w3
  have LAC := Lib.hid fun (wx : World) (hq : Below w3.heap.size w3 wx) => L2_any A C x z wx (hx.out.below hq) (hz.out.below hq) (hm va) (hm vc)
  have LAB := Lib.hid fun (wx : World) (hq : Below w3.heap.size w3 wx) => L2_any A B x y wx (hx.out.below hq) (hy.out.below hq) (hm va) (hm vb)
  have LBC := Lib.hid fun (wx : World) (hq : Below w3.heap.size w3 wx) => L2_any B C y z wx (hy.out.below hq) (hz.out.below hq) (hm vb) (hm vc)
  have DAB := Lib.hid fun (wx : World) (hq : Below w3.heap.size w3 wx) => Dot_any A B x y wx (hx.out.below hq) (hy.out.below hq) (hm va) (hm vb)
  have DAA := Lib.hid fun (wx : World) (hq : Below w3.heap.size w3 wx) => Dot_any A A x x wx (hx.out.below hq) (hx.out.below hq) (hm va) (hm va)
  have DBB := Lib.hid fun (wx : World) (hq : Below w3.heap.size w3 wx) => Dot_any B B y y wx (hy.out.below hq) (hy.out.below hq) (hm vb) (hm vb)
  simp only [hac, hab, hbc, haa, hbb, if_true] at LAC LAB LBC DAB DAA DBB
  have SY := Lib.hid sure_yes
  have sqbd : ∀ {P Q : List Int}, P.length = Q.length → vecB P = true → vecB Q = true → 0 ≤ sq P Q ∧ sq P Q ≤ 274869518400 := fun {P Q} h1 h2 h3 => by
    have h := sq_take_bd h1 h2 h3 (sub P Q).length
    rw [List.take_length] at h
    exact ⟨sq_nonneg P Q, h.2⟩
  have b1 := sqbd lac va vc
  have b2 := sqbd lab va vb
  have b3 := sqbd lbc vb vc
  have b4 := self_nonneg_le va
  have b5 := self_nonneg_le vb
  have b6 := dot_of va vb lab
  have tri := triangle A B C lab lbc
  obtain ⟨most1, most2⟩ := dot_most A B lab
  have R1 := Lib.hid fun wx => isqrtRefI_any (sq A C) wx b1.1 (by omega)
  have R2 := Lib.hid fun wx => isqrtRefI_any (sq A B) wx b2.1 (by omega)
  have R3 := Lib.hid fun wx => isqrtRefI_any (sq B C) wx b3.1 (by omega)
  have R4 := Lib.hid fun wx => isqrtRefI_any (dot A A) wx b4.1 (by omega)
  have R5 := Lib.hid fun wx => isqrtRefI_any (dot B B) wx b5.1 (by omega)
  have rbd : ∀ n : Int, 0 ≤ n → n ≤ 274869518400 → 0 ≤ rootI n ∧ rootI n ≤ 1048576 := fun n h0 h1 => by
    unfold rootI
    have := rootN_lt n.toNat 1048576 (by omega)
    omega
  have c1 := rbd _ b1.1 b1.2
  have c2 := rbd _ b2.1 b2.2
  have c3 := rbd _ b3.1 b3.2
  have c4 := rbd _ b4.1 (by omega)
  have c5 := rbd _ b5.1 (by omega)
  clear sqbd rbd hm hab hac hbc haa hbb lab lbc lac va vb vc b1 b2 b3 b4 b5 hx hy hz
  generalize rootI (sq A C) = r1 at *
  generalize rootI (sq A B) = r2 at *
  generalize rootI (sq B C) = r3 at *
  generalize rootI (dot A A) = r4 at *
  generalize rootI (dot B B) = r5 at *
  generalize sq A C = q1 at *
  generalize sq A B = q2 at *
  generalize sq B C = q3 at *
  generalize dot A A = d1 at *
  generalize dot B B = d2 at *
  generalize dot A B = d3 at *
  have hp := mul_bd (P := 1048577) (Q := 1048577) (x := r4 + 1) (y := r5 + 1) (by omega) (by omega) (by omega) (by omega)
  have e4 : wrap64 (r4 + 1) = r4 + 1 := wrap_in _ (by omega)
  have e5 : wrap64 (r5 + 1) = r5 + 1 := wrap_in _ (by omega)
  have e6 : wrap64 ((r4 + 1) * (r5 + 1)) = (r4 + 1) * (r5 + 1) := wrap_in _ (by omega)
  obtain ⟨mm, hmm⟩ : ∃ mm, mm = (r4 + 1) * (r5 + 1) := ⟨_, rfl⟩
  rw [← hmm] at most1 most2
  replace e6 := e6.trans hmm.symm
  have e7 : wrap64 (r2 + r3) = r2 + r3 := wrap_in _ (by omega)
  have e8 : wrap64 (r2 + r3 + 1) = r2 + r3 + 1 := wrap_in _ (by omega)
  have e9 : wrap64 (-d3) = -d3 := wrap_in _ (by omega)
  clear c1 c2 c3 c4 c5 b6 hp
  clear hmm
  go_wp2_with (first
    | (go_at_call 14; (with_reducible refine (LAC.out _ hB).mono ?_); rintro e w4 ⟨rfl, hb⟩; replace hB := hB.trans (hb.mono hB.size); clear hb)
    | (go_at_call 14; (with_reducible refine (LAB.out _ hB).mono ?_); rintro e w4 ⟨rfl, hb⟩; replace hB := hB.trans (hb.mono hB.size); clear hb)
    | (go_at_call 14; (with_reducible refine (LBC.out _ hB).mono ?_); rintro e w4 ⟨rfl, hb⟩; replace hB := hB.trans (hb.mono hB.size); clear hb)
    | (go_at_call 16; (with_reducible refine (DAB.out _ hB).mono ?_); rintro e w4 ⟨rfl, rfl⟩)
    | (go_at_call 16; (with_reducible refine (DAA.out _ hB).mono ?_); rintro e w4 ⟨rfl, rfl⟩)
    | (go_at_call 16; (with_reducible refine (DBB.out _ hB).mono ?_); rintro e w4 ⟨rfl, rfl⟩)
    | (go_at_call 21; (with_reducible refine (R1.out _).mono ?_); rintro e w4 ⟨rfl, rfl⟩)
    | (go_at_call 21; (with_reducible refine (R2.out _).mono ?_); rintro e w4 ⟨rfl, rfl⟩)
    | (go_at_call 21; (with_reducible refine (R3.out _).mono ?_); rintro e w4 ⟨rfl, rfl⟩)
    | (go_at_call 21; (with_reducible refine (R4.out _).mono ?_); rintro e w4 ⟨rfl, rfl⟩)
    | (go_at_call 21; (with_reducible refine (R5.out _).mono ?_); rintro e w4 ⟨rfl, rfl⟩)
    | (go_at_call 11; refine (SY.out _).mono ?_; rintro e w4 ⟨rfl, hb⟩; replace hB := hB.trans (hb.mono hB.size); clear hb))
  go_ret
  exact ⟨rfl, HB.out.trans (hB.mono HB.out.size)⟩

/-! ### The row -/
set_option maxRecDepth 100000 in
theorem lifted (os : Os) (started : os.Started) (H : Type) (enc : TypeId × Value → H) :
    ReturnsInHanded {} Try.checked os 6 .any (Rows.vectorTriangleSpec.pre6 enc Try.prog Try.f6 Rows.vectorTriangleRow.domain false) (Rows.vectorTriangleSpec.post enc Try.prog Try.f6 false true false false) := by
  refine returnsInHanded_of_change_sized (C := Try.checked) own started (by kernel_rfl) Try.func6
    (ChangeSpec.witness6 (enc := enc) (C := Try.checked) false ⟨#[], #[.slice none 0 0, .slice none 0 0, .slice none 0 0], []⟩ 8 (by kernel_rfl) (by kernel_rfl) (by kernel_rfl) (by kernel_rfl)) ?_
  intro W base args ds gs before hval0 hW hcnd hsz0 _
  have hval : ∀ (j : Nat) t v, Try.f6.params[j]? = some t → args[j]? = some v → Value.okWide Try.prog W .any base t v := hval0
  have hW' := hW
  obtain ⟨p, q, hA0, hV, rfl, hfz, hnd⟩ := hW
  have hA : DataW.TrodAll enc Try.prog W 0 (fun _ => true) true Try.f6.params.toList args.toList ds p := hA0
  have hsz : (DataW.weightsEach Try.prog (Try.f6.params.toList ++ Rows.vectorTriangleSpec.plain.varTypes Try.prog) (ds ++ gs)).all (· ≤ reachBytes) = true := hsz0
  rw [Try.params6] at hA hval hsz
  obtain ⟨v0, vs0, d0, ds0, p0, q0, hargs, rfl, rfl, h0, r0⟩ := trodAll_cons hA
  obtain ⟨v1, vs1, d1, ds1, p1, q1, rfl, rfl, rfl, h1, r1⟩ := trodAll_cons r0
  obtain ⟨v2, vs2, d2, ds2, p2, q2, rfl, rfl, rfl, h2, r2⟩ := trodAll_cons r1
  obtain ⟨rfl, rfl, rfl⟩ := trodAll_nil r2
  obtain rfl : args = #[v0, v1, v2] := by cases args; simp_all
  obtain ⟨rfl, rfl⟩ := trodVars_none hV
  obtain ⟨a0, len0, cap0, rfl⟩ := okWide_slice Try.underlying22 (hval 0 22 v0 rfl rfl)
  have k0 := h0
  have lt0 : ∀ x ∈ p0, x.block < W.heap.size := by obtain ⟨m, hm⟩ := k0; exact DataW.trod_lt m _ _ _ hm
  obtain ⟨z0, w0, s0⟩ : ∃ zs, IsRow .i64 W a0 len0 cap0 zs ∧ cap0 * 8 ≤ 140737488351232 := by
    obtain ⟨fuel, hf⟩ := h0
    rcases open_ints Try.underlying22 Try.underlying3 (by kernel_rfl) hf with ⟨hcs, _⟩ | ⟨x, l, c, zs, hcs, _, hl, hm, hz, hx, hcell, hwz⟩
    · simp [Value.cells] at hcs
      obtain ⟨rfl, rfl, rfl⟩ := hcs
      exact ⟨[], .inl ⟨rfl, rfl, rfl, rfl⟩, by simp⟩
    · simp [Value.cells] at hcs
      obtain ⟨rfl, rfl, rfl⟩ := hcs
      have hx' := congrArg Prod.fst hx
      simp only at hx'
      subst hx'
      have hs := sized_slice hsz (j := 0) (t := 22) (e := 3) rfl rfl Try.underlying22
      rw [show Try.prog.bytesOf 3 = 8 by kernel_rfl] at hs
      simp only [if_true] at hz
      simp [lits, reachBytes] at hs
      exact ⟨zs, .inr ⟨_, rfl, hl, hm, by simpa using hz, hcell, hwz⟩, by omega⟩
  obtain ⟨a1, len1, cap1, rfl⟩ := okWide_slice Try.underlying22 (hval 1 22 v1 rfl rfl)
  have k1 := h1
  have lt1 : ∀ x ∈ p1, x.block < W.heap.size := by obtain ⟨m, hm⟩ := k1; exact DataW.trod_lt m _ _ _ hm
  obtain ⟨z1, w1, s1⟩ : ∃ zs, IsRow .i64 W a1 len1 cap1 zs ∧ cap1 * 8 ≤ 140737488351232 := by
    obtain ⟨fuel, hf⟩ := h1
    rcases open_ints Try.underlying22 Try.underlying3 (by kernel_rfl) hf with ⟨hcs, _⟩ | ⟨x, l, c, zs, hcs, _, hl, hm, hz, hx, hcell, hwz⟩
    · simp [Value.cells] at hcs
      obtain ⟨rfl, rfl, rfl⟩ := hcs
      exact ⟨[], .inl ⟨rfl, rfl, rfl, rfl⟩, by simp⟩
    · simp [Value.cells] at hcs
      obtain ⟨rfl, rfl, rfl⟩ := hcs
      have hx' := congrArg Prod.fst hx
      simp only at hx'
      subst hx'
      have hs := sized_slice hsz (j := 1) (t := 22) (e := 3) rfl rfl Try.underlying22
      rw [show Try.prog.bytesOf 3 = 8 by kernel_rfl] at hs
      simp only [if_true] at hz
      simp [lits, reachBytes] at hs
      exact ⟨zs, .inr ⟨_, rfl, hl, hm, by simpa using hz, hcell, hwz⟩, by omega⟩
  obtain ⟨a2, len2, cap2, rfl⟩ := okWide_slice Try.underlying22 (hval 2 22 v2 rfl rfl)
  have k2 := h2
  have lt2 : ∀ x ∈ p2, x.block < W.heap.size := by obtain ⟨m, hm⟩ := k2; exact DataW.trod_lt m _ _ _ hm
  obtain ⟨z2, w2, s2⟩ : ∃ zs, IsRow .i64 W a2 len2 cap2 zs ∧ cap2 * 8 ≤ 140737488351232 := by
    obtain ⟨fuel, hf⟩ := h2
    rcases open_ints Try.underlying22 Try.underlying3 (by kernel_rfl) hf with ⟨hcs, _⟩ | ⟨x, l, c, zs, hcs, _, hl, hm, hz, hx, hcell, hwz⟩
    · simp [Value.cells] at hcs
      obtain ⟨rfl, rfl, rfl⟩ := hcs
      exact ⟨[], .inl ⟨rfl, rfl, rfl, rfl⟩, by simp⟩
    · simp [Value.cells] at hcs
      obtain ⟨rfl, rfl, rfl⟩ := hcs
      have hx' := congrArg Prod.fst hx
      simp only at hx'
      subst hx'
      have hs := sized_slice hsz (j := 2) (t := 22) (e := 3) rfl rfl Try.underlying22
      rw [show Try.prog.bytesOf 3 = 8 by kernel_rfl] at hs
      simp only [if_true] at hz
      simp [lits, reachBytes] at hs
      exact ⟨zs, .inr ⟨_, rfl, hl, hm, by simpa using hz, hcell, hwz⟩, by omega⟩
  clear hA0 hval0
  refine (walk a0 len0 cap0 z0 a1 len1 cap1 z1 a2 len2 cap2 z2 W w0 s0 w1 s1 w2 s2).mono fun e W' ⟨he, bel⟩ => ?_
  subst he
  exact ⟨_, rfl, _, _, _, [], _, [], hW', trodAll_mk1 (shut_bool Try.underlying4 _), (trodAll_cons_mk (Below.trod laidOut (by kernel_rfl) (of_decide_eq_true (by kernel_rfl)) k0 bel lt0) (trodAll_cons_mk (Below.trod laidOut (by kernel_rfl) (of_decide_eq_true (by kernel_rfl)) k1 bel lt1) (trodAll_cons_mk (Below.trod laidOut (by kernel_rfl) (of_decide_eq_true (by kernel_rfl)) k2 bel lt2) trodAll_mk0))), rfl, bel.frame _, fun h => by cases h⟩

theorem over : Rows.vectorTriangleRow.holds Try.pinned (OpenSpec.ofChange Rows.vectorTriangleSpec) :=
  OpenClaim.holds_of_wide 6 Try.f6 rfl rfl rfl rfl rfl rfl rfl ⟨rfl, rfl, rfl, rfl, rfl⟩ rfl rfl rfl rfl rfl (by kernel_rfl) Try.func6 (by kernel_rfl)
    (of_decide_eq_true (by kernel_rfl)) (by unfold Func.isWrapper; first | (rw [if_pos (by decide +kernel)]; kernel_rfl) | (rw [if_neg (by decide +kernel)]; exact ⟨rfl, rfl⟩))
    (fun os started H enc _ => lifted os started H enc)

/-- The statement. -/
theorem proved : Rows.VectorTriangleSaid := over
#print axioms proved
end Go.Proofs.Ytikhjokfadjjbab.vectorTriangle
