/- For any two rows of whole numbers and any move the law VectorRules of the document's chapter 6 returns true over the program's own L2, Dot and Cos: they are the same the other way round, and hold together as squares do. No condition. -/
import Derived.Test.YtikhjokfadjjbabRows
import Derived.WalkKit
import Derived.ProofKit
import Derived.OpenShut
import Derived.ShutString
import Derived.ChangeOld
import Derived.Below
import Derived.Test.YtikhjokfadjjbabVcK
import Derived.SizedLaws
namespace Go.Proofs.Ytikhjokfadjjbab.vectorRules
open Go.ChangeShapes Go.WideShapes Go.ChangeAt Go.RowKit
open Go.ChangeMaps (open_string shut_string)
set_option linter.unusedVariables false

theorem own : ownKnob Try.prog.godebug = none := by kernel_rfl
theorem laidOut : laidOutB Try.prog = true := by kernel_rfl

/-- WHAT THE WALK IS TOLD OF A SLICE OF INTEGERS THAT CAME IN: it is nil; or it leads to a row of 'cap' cells, the numbers 'zs' (the first 'len' are its elements, the rest its spare room), each fitting its kind. -/
def IsRow (k : IntKind) (w : World) (a : Option Addr) (len cap : Nat) (zs : List Int) : Prop :=
  (a = none ∧ len = 0 ∧ cap = 0 ∧ zs = []) ∨
  ∃ x, a = some x ∧ len ≤ cap ∧ cap ≤ maxLen ∧ zs.length = cap ∧ (∀ i, i < zs.length → w.cell? (x.add i) = some (.int k (zs.getD i 0))) ∧ ∀ n ∈ zs, (Lit.int k n).wf = true

/-! ### The walk -/
open Vc
/-- The row that came in, as a row of whole numbers. -/
theorem row_in {w : World} {a : Option Addr} {len cap : Nat} {z : List Int} (h : IsRow .i64 w a len cap z) : IntsAt w (.slice a len cap) (z.take len) ∧ (z.take len).length = len := by
  rcases h with ⟨rfl, rfl, rfl, rfl⟩ | ⟨x, rfl, h1, h2, h3, h4, _⟩
  · exact ⟨.inl ⟨rfl, none, 0, rfl⟩, rfl⟩
  · have hl : (z.take len).length = len := by simp; omega
    refine ⟨?_, hl⟩
    rcases Nat.eq_zero_or_pos len with h0 | h0
    · subst h0
      exact .inl ⟨by simp, some x, cap, rfl⟩
    · have hsome := h4 0 (by omega)
      have hsp : x.spot = none := by
        cases hs : x.spot with
        | none => rfl
        | some q =>
          simp [World.cell?, Addr.add, hs] at hsome
          split at hsome <;> simp at hsome
      obtain ⟨g, off, sp⟩ := x
      simp only at hsp
      subst hsp
      have hg : g < w.heap.size := by
        rcases Nat.lt_or_ge g w.heap.size with hlt | hge
        · exact hlt
        · simp [World.cell?, Addr.add, Array.getElem?_eq_none hge] at hsome
      refine .inr ⟨g, off, cap, by rw [hl], hg, fun W' hW' j hj => ?_⟩
      have hj' : j < z.length := by simp at hj; omega
      have := h4 j hj'
      have hjl : (z.take len)[j] = z.getD j 0 := by simp [List.getD, List.getElem?_eq_getElem hj']
      rw [hjl]
      have ha : (⟨g, off, none⟩ : Addr).add j = ⟨g, off + j, none⟩ := by unfold Addr.add; split <;> simp_all
      rw [ha] at this
      unfold World.cell? at this ⊢
      simp only [hW']
      exact this
set_option maxHeartbeats 2000000 in
set_option maxRecDepth 100000 in
theorem walk (a0 : Option Addr) (len0 cap0 : Nat) (z0 : List Int) (a1 : Option Addr) (len1 cap1 : Nat) (z1 : List Int) (a2 : Int) (w : World) (w0 : IsRow .i64 w a0 len0 cap0 z0) (s0 : cap0 * 8 ≤ 140737488351232) (w1 : IsRow .i64 w a1 len1 cap1 z1) (s1 : cap1 * 8 ≤ 140737488351232) (w2 : (Lit.int .i64 a2).wf = true) :
    Calls Try.prog 5 #[.slice a0 len0 cap0, .slice a1 len1 cap1, .int .i64 a2] w fun e w' => e = .returned (.bool true) ∧ Below w.heap.size w w' := by
  obtain ⟨hi0, hlen0⟩ := row_in w0
  obtain ⟨hi1, hlen1⟩ := row_in w1
  generalize z0.take len0 = L at hi0 hlen0
  generalize z1.take len1 = M at hi1 hlen1
  clear w0 w1 w2 s0 s1
  subst hlen0 hlen1
  obtain ⟨N, hN⟩ : ∃ N : Nat, (N : Int) = max 1 (min (max (L.length : Int) (M.length : Int)) 64) := ⟨(max 1 (min (max (L.length : Int) (M.length : Int)) 64)).toNat, Int.toNat_of_nonneg (by omega)⟩
  obtain ⟨P, hP⟩ : ∃ P : Int, P = max (-100) (min a2 100) := ⟨_, rfl⟩
  have hPb : -100 ≤ P ∧ P ≤ 100 := by omega
  have HPB := Lib.hid hPb
  clear hPb
  have hP' := hP.symm
  clear hP
  have hN1 : 1 ≤ N := by omega
  have hN64 : N ≤ 64 := by omega
  have F0 := Lib.hid (fit_any L _ N w hi0 hN64)
  have F1 := Lib.hid (fun (wx : World) (hq : Below w.heap.size w wx) => fit_any M _ N wx (hi1.below hq) hN64)
  have hab := fitL_alike L M N hN1 hN64
  have hal := fitL_length L N
  have hbl := fitL_length M N
  have hN' := hN.symm
  have HN1 := Lib.hid hN1
  have HN64 := Lib.hid hN64
  clear hi0 hi1 hN hN1 hN64
  generalize L.length = l0 at *
  generalize M.length = l1 at *
  generalize fitL L N = A at *
  generalize fitL M N = B at *
  go_enter Try.func5, Try.ntmps5
  go_wp2_with fail
  refine F0.out.mono ?_
  rintro e w1 ⟨x, rfl, hx, hB⟩
  replace hx := Lib.hid hx.at
  have HB := Lib.hid hB
  clear hB F0
  go_wp2_with fail
  refine (F1.out _ HB.out).mono ?_
  rintro e w3 ⟨y, rfl, hy, hb⟩
  replace hx := Lib.hid (hx.out.below hb)
  replace hy := Lib.hid hy.at
  replace HB := Lib.hid (HB.out.trans (hb.mono HB.out.size))
  clear hb F1
  have HB0 := HB
  clear HB
  obtain ⟨lab, va, vb⟩ := alike_is hab
  have hba : alikeB B A = true := by simp [alikeB, va, vb, lab]
  have haa : alikeB A A = true := by simp [alikeB, va]
  have hbb : alikeB B B = true := by simp [alikeB, vb]
  have hm : ∀ {K : List Int}, vecB K = true → K.length ≤ maxLen := vec_len
  have hB := Below.refl w3.heap.size w3
  have LAB := Lib.hid fun (wx : World) (hq : Below w3.heap.size w3 wx) => L2_any A B x y wx (hx.out.below hq) (hy.out.below hq) (hm va) (hm vb)
  have LBA := Lib.hid fun (wx : World) (hq : Below w3.heap.size w3 wx) => L2_any B A y x wx (hy.out.below hq) (hx.out.below hq) (hm vb) (hm va)
  have DAB := Lib.hid fun (wx : World) (hq : Below w3.heap.size w3 wx) => Dot_any A B x y wx (hx.out.below hq) (hy.out.below hq) (hm va) (hm vb)
  have DBA := Lib.hid fun (wx : World) (hq : Below w3.heap.size w3 wx) => Dot_any B A y x wx (hy.out.below hq) (hx.out.below hq) (hm vb) (hm va)
  have DAA := Lib.hid fun (wx : World) (hq : Below w3.heap.size w3 wx) => Dot_any A A x x wx (hx.out.below hq) (hx.out.below hq) (hm va) (hm va)
  have DBB := Lib.hid fun (wx : World) (hq : Below w3.heap.size w3 wx) => Dot_any B B y y wx (hy.out.below hq) (hy.out.below hq) (hm vb) (hm vb)
  have CAB := Lib.hid fun (wx : World) (hq : Below w3.heap.size w3 wx) => Cos_any A B x y wx (hx.out.below hq) (hy.out.below hq) (hm va) (hm vb)
  have CBA := Lib.hid fun (wx : World) (hq : Below w3.heap.size w3 wx) => Cos_any B A y x wx (hy.out.below hq) (hx.out.below hq) (hm vb) (hm va)
  have CAA := Lib.hid fun (wx : World) (hq : Below w3.heap.size w3 wx) => Cos_any A A x x wx (hx.out.below hq) (hx.out.below hq) (hm va) (hm va)
  have SM := Lib.hid fun (wx : World) (hq : Below w3.heap.size w3 wx) => same_any A B x y wx (hx.out.below hq) (hy.out.below hq) (hm va) (hm vb)
  have SY := Lib.hid sure_yes
  simp only [hab, hba, haa, hbb, if_true, sq_comm B A, dot_comm B A, cos_comm B A] at LAB LBA DAB DBA DAA DBB CAB CBA CAA
  have TA := Lib.hid fun (wx : World) (hq : Below w3.heap.size w3 wx) => twin_any A x wx (hx.out.below hq) (by have := HN64.out; omega)
  have TB := Lib.hid fun (wx : World) (hq : Below w3.heap.size w3 wx) => twin_any B y wx (hy.out.below hq) (by have := HN64.out; omega)
  have b2 : 0 ≤ sq A B ∧ sq A B ≤ 274869518400 := by
    have h := sq_take_bd lab va vb (sub A B).length
    rw [List.take_length] at h
    exact ⟨sq_nonneg A B, h.2⟩
  have b4 := self_nonneg_le va
  have b5 := self_nonneg_le vb
  have b6 := dot_of va vb lab
  have hsum := sq_sum A B lab
  have hzero := sq_zero A B lab
  have hself := cos_self A
  have hS := b2.1
  have e1 : wrap64 (dot A A + dot B B) = sq A B + 2 * dot A B := by rw [hsum]; exact wrap_in _ (by omega)
  have e2 : wrap64 (2 * dot A B) = 2 * dot A B := wrap_in _ (by omega)
  have e3 : wrap64 (sq A B + 2 * dot A B) = sq A B + 2 * dot A B := wrap_in _ (by omega)
  have HSELF := Lib.hid hself
  obtain ⟨bz, hbz, hbd⟩ : ∃ bz : Bool, (sq A B == 0) = bz ∧ decide (A = B) = bz := by
    by_cases h : A = B
    · exact ⟨true, by simp [hzero.mpr h], by simp [h]⟩
    · exact ⟨false, by simp; exact fun c => h (hzero.mp c), by simp [h]⟩
  rw [hbd] at SM
  clear hm hab hba haa hbb lab b2 b4 b5 b6 hsum hzero hself hbd
  generalize sq A B = S at *
  generalize dot A A = d1 at *
  generalize dot B B = d2 at *
  generalize dot A B = d3 at *
  generalize cosN A B = q1 at *
  generalize cosN A A = q2 at *
  obtain ⟨T, hT⟩ : ∃ T, T = S + 2 * d3 := ⟨_, rfl⟩
  replace e1 := e1.trans hT.symm
  replace e3 := e3.trans hT.symm
  clear hT
  cases bz
  all_goals
    go_wp2_with (first
      | (go_at_call 14; (with_reducible refine (LAB.out _ hB).mono ?_); rintro e w4 ⟨rfl, hb⟩; replace hB := hB.trans (hb.mono hB.size); clear hb)
      | (go_at_call 14; (with_reducible refine (LBA.out _ hB).mono ?_); rintro e w4 ⟨rfl, hb⟩; replace hB := hB.trans (hb.mono hB.size); clear hb)
      | (go_at_call 16; (with_reducible refine (DAB.out _ hB).mono ?_); rintro e w4 ⟨rfl, rfl⟩)
      | (go_at_call 16; (with_reducible refine (DBA.out _ hB).mono ?_); rintro e w4 ⟨rfl, rfl⟩)
      | (go_at_call 16; (with_reducible refine (DAA.out _ hB).mono ?_); rintro e w4 ⟨rfl, rfl⟩)
      | (go_at_call 16; (with_reducible refine (DBB.out _ hB).mono ?_); rintro e w4 ⟨rfl, rfl⟩)
      | (go_at_call 18; (with_reducible refine (CAB.out _ hB).mono ?_); rintro e w4 ⟨rfl, rfl⟩)
      | (go_at_call 18; (with_reducible refine (CBA.out _ hB).mono ?_); rintro e w4 ⟨rfl, rfl⟩)
      | (go_at_call 10; (with_reducible refine (SM.out _ hB).mono ?_); rintro e w4 ⟨rfl, hb⟩; replace hB := hB.trans (hb.mono hB.size); clear hb))
  all_goals
    clear LAB LBA DAB DBA DBB CAB CBA SM e1 e2 e3 hbz hS
    refine (TA.out _ hB).mono ?_
    rintro e w5 ⟨vc, rfl, ho1, hb1⟩
    have hB5 := hB.trans (hb1.mono hB.size)
    clear TA
    go_wp2_with fail
    refine (TB.out _ hB5).mono ?_
    rintro e w6 ⟨vd, rfl, ho2, hb2⟩
    clear TB
    obtain ⟨gc, kc, rfl, hg1, hg2⟩ := own_form ho1 (by rw [hal]; exact HN1.out)
    obtain ⟨gd, kd, rfl, hg3, hg4⟩ := own_form ho2 (by rw [hbl]; exact HN1.out)
    have hne : gc ≠ gd := by have := hb1.size; omega
    have OC : Own w6 w3.heap.size (.slice (some ⟨gc, 0, none⟩) A.length kc) A := own_base (own_below ho1 hb2) hB.size
    have OD : Own w6 w3.heap.size (.slice (some ⟨gd, 0, none⟩) B.length kd) B := own_base ho2 (by have := hB.size; have := hb1.size; omega)
    have hB6 := hB5.trans (hb2.mono hB5.size)
    have hgc : w3.heap.size ≤ gc := by have := hB.size; omega
    have hgd : w3.heap.size ≤ gd := by have := hB5.size; omega
    have HNE := Lib.hid hne
    have HGC := Lib.hid hgc
    have HGD := Lib.hid hgd
    rw [hal] at OC ⊢
    rw [hbl] at OD ⊢
    have HA := Lib.hid hal
    have HBL := Lib.hid hbl
    have HC6 := Lib.hid OC
    have HD6 := Lib.hid OD
    have HB6 := Lib.hid hB6
    clear hb1 hb2 hB hB5 hB6 ho1 ho2 hg1 hg2 hg3 hg4 hne hgc hgd OC OD hal hbl
    go_wp2_with fail
    go_loopw [12] (fun i wr => ∃ k : Nat, k ≤ N ∧ i = .int .i64 k ∧ Own wr w3.heap.size (.slice (some ⟨gc, 0, none⟩) N kc) (mixL capX A k) ∧ Own wr w3.heap.size (.slice (some ⟨gd, 0, none⟩) N kd) (mixL capX B k) ∧ Below w3.heap.size w3 wr) (fun i _ => N - (intOf i).toNat)
    case atStart => exact ⟨0, Nat.zero_le _, rfl, by rw [mixL_zero]; exact HC6.out, by rw [mixL_zero]; exact HD6.out, HB6.out⟩
    case round =>
      obtain ⟨k, hk, rfl, o1, o2, hb⟩ := hrel
      by_cases hlt : k < N
      · have hka : k < A.length := by rw [HA.out]; exact hlt
        have hkb : k < B.length := by rw [HBL.out]; exact hlt
        have hset1 := mixL_set capX A k hka
        have hset2 := mixL_set capX B k hkb
        obtain ⟨f1, f2, f3, f4, f5, f6⟩ := two_set o1 o2 HNE.out k _ _ (capX A[k]) (capX B[k]) (mixL_at capX A k hka) (mixL_at capX B k hkb)
        rw [hset1] at f5
        rw [hset2] at f6
        have hX : max (-32000) (min A[k] 32000) = capX A[k] := rfl
        have hY : max (-32000) (min B[k] 32000) = capX B[k] := rfl
        have HB := Lib.hid hb
        have O1 := Lib.hid f5
        have O2 := Lib.hid f6
        clear hset1 hset2 o1 o2 f5 f6 hb
        generalize capX A[k] = X at *
        generalize capX B[k] = Y at *
        generalize A[k] = xa at *
        generalize B[k] = xb at *
        obtain ⟨wo, rfl⟩ : ∃ wo : World, wo = wr := ⟨_, rfl⟩
        have hlt' : (k : Int) < (N : Int) := by omega
        go_wp2_with fail
        go_roundw
        case rel => exact ⟨k + 1, by omega, by have := HN64.out; go_num, O1.out, O2.out, (HB.out.setCell HGC.out _).setCell HGD.out _⟩
        case measure => have := HN64.out; simp [intOf]; omega
      · obtain rfl : k = N := by omega
        have hca : mixL capX A k = A.map capX := mixL_all _ _ _ (by rw [HA.out]; omega)
        have hcb : mixL capX B k = B.map capX := mixL_all _ _ _ (by rw [HBL.out]; omega)
        rw [hca] at o1
        rw [hcb] at o2
        clear hca hcb
        have hlc : (A.map capX).length = k := by rw [List.length_map]; exact HA.out
        have hld : (B.map capX).length = k := by rw [List.length_map]; exact HBL.out
        have hvc : vecB (A.map capX) = true := vec_map (by rw [HA.out]; exact HN1.out) (by rw [HA.out]; exact HN64.out) (fun z _ => by have := cap_bd z; omega)
        have hvd : vecB (B.map capX) = true := vec_map (by rw [HBL.out]; exact HN1.out) (by rw [HBL.out]; exact HN64.out) (fun z _ => by have := cap_bd z; omega)
        have hbc : ∀ z ∈ A.map capX, -32000 ≤ z ∧ z ≤ 32000 := by
          intro z hz
          obtain ⟨z', _, rfl⟩ := List.mem_map.mp hz
          exact cap_bd z'
        have hbd : ∀ z ∈ B.map capX, -32000 ≤ z ∧ z ≤ 32000 := by
          intro z hz
          obtain ⟨z', _, rfl⟩ := List.mem_map.mp hz
          exact cap_bd z'
        have DAA' := DAA
        have HB := Lib.hid hb
        have HIC := Lib.hid o1.at
        have HID := Lib.hid o2.at
        have hgcs := (o1.block gc rfl).2
        have hgds := (o2.block gd rfl).2
        clear o1 o2 hb HA HBL HC6 HD6 HB6 HNE HGC HGD
        generalize A.map capX = C at *
        generalize B.map capX = D at *
        have hvx : vecB (C.map (· + P)) = true := vec_map (by rw [hlc]; exact HN1.out) (by rw [hlc]; exact HN64.out) (fun z hz => by have h1 := hbc z hz; have h2 := HPB.out; exact ⟨by omega, by omega⟩)
        have hvy : vecB (D.map (· + P)) = true := vec_map (by rw [hld]; exact HN1.out) (by rw [hld]; exact HN64.out) (fun z hz => by have h1 := hbd z hz; have h2 := HPB.out; exact ⟨by omega, by omega⟩)
        have hmov := sq_moved P C D
        have T1 := Lib.hid (twin_any C _ wr HIC.out (by have := HN64.out; omega))
        have T2 := Lib.hid fun (wx : World) (hq : Below wr.heap.size wr wx) => twin_any D _ wx (HID.out.below hq) (by have := HN64.out; omega)
        obtain ⟨wo, rfl⟩ : ∃ wo : World, wo = wr := ⟨_, rfl⟩
        go_wp2_with fail
        refine T1.out.mono ?_
        rintro e w7 ⟨vx, rfl, ho1, hb1⟩
        clear T1
        go_wp2_with fail
        refine (T2.out _ hb1).mono ?_
        rintro e w8 ⟨vy, rfl, ho2, hb2⟩
        clear T2
        obtain ⟨gx, kx, rfl, hg1, hg2⟩ := own_form ho1 (by rw [hlc]; exact HN1.out)
        obtain ⟨gy, ky, rfl, hg3, hg4⟩ := own_form ho2 (by rw [hld]; exact HN1.out)
        have hne : gx ≠ gy := by omega
        have OX : Own w8 wo.heap.size (.slice (some ⟨gx, 0, none⟩) C.length kx) C := own_below ho1 hb2
        have OY : Own w8 wo.heap.size (.slice (some ⟨gy, 0, none⟩) D.length ky) D := own_base ho2 hb1.size
        have hB8 := hb1.trans (hb2.mono hb1.size)
        have hgy : wo.heap.size ≤ gy := by have := hb1.size; omega
        have HNE := Lib.hid hne
        have HGX := Lib.hid hg1
        have HGY := Lib.hid hgy
        rw [hlc] at OX ⊢
        rw [hld] at OY ⊢
        have HA := Lib.hid hlc
        have HBL := Lib.hid hld
        have HX8 := Lib.hid OX
        have HY8 := Lib.hid OY
        have HB8 := Lib.hid hB8
        have HBC := Lib.hid hbc
        have HBD := Lib.hid hbd
        have HV := Lib.hid (And.intro (And.intro hvc hvd) (And.intro hvx hvy))
        have HMOV := Lib.hid hmov
        clear hb1 hb2 hB8 ho1 ho2 hg1 hg2 hg3 hg4 hne hgy OX OY hlc hld hbc hbd hvc hvd hvx hvy hmov hgcs hgds
        go_wp2_with fail
        go_loopw [15] (fun i wr => ∃ j : Nat, j ≤ k ∧ i = .int .i64 j ∧ Own wr wo.heap.size (.slice (some ⟨gx, 0, none⟩) k kx) (mixL (· + P) C j) ∧ Own wr wo.heap.size (.slice (some ⟨gy, 0, none⟩) k ky) (mixL (· + P) D j) ∧ Below wo.heap.size wo wr) (fun i _ => k - (intOf i).toNat)
        case atStart => exact ⟨0, Nat.zero_le _, rfl, by rw [mixL_zero]; exact HX8.out, by rw [mixL_zero]; exact HY8.out, HB8.out⟩
        case round =>
          obtain ⟨j, hj, rfl, o1, o2, hb⟩ := hrel
          by_cases hlt2 : j < k
          · have hka : j < C.length := by rw [HA.out]; exact hlt2
            have hkb : j < D.length := by rw [HBL.out]; exact hlt2
            have hset1 := mixL_set (· + P) C j hka
            have hset2 := mixL_set (· + P) D j hkb
            obtain ⟨f1, f2, f3, f4, f5, f6⟩ := two_set o1 o2 HNE.out j _ _ (C[j] + P) (D[j] + P) (mixL_at (· + P) C j hka) (mixL_at (· + P) D j hkb)
            rw [hset1] at f5
            rw [hset2] at f6
            have hX : wrap64 (C[j] + P) = C[j] + P := wrap_in _ (by have h1 := HBC.out _ (List.getElem_mem hka); have h2 := HPB.out; omega)
            have hY : wrap64 (D[j] + P) = D[j] + P := wrap_in _ (by have h1 := HBD.out _ (List.getElem_mem hkb); have h2 := HPB.out; omega)
            have HB2 := Lib.hid hb
            have O1 := Lib.hid f5
            have O2 := Lib.hid f6
            clear hset1 hset2 o1 o2 f5 f6 hb
            generalize C[j] = xa at *
            generalize D[j] = xb at *
            obtain ⟨wp, rfl⟩ : ∃ wp : World, wp = wr := ⟨_, rfl⟩
            have hlt' : (j : Int) < (k : Int) := by omega
            go_wp2_with fail
            go_roundw
            case rel => exact ⟨j + 1, by omega, by have := HN64.out; go_num, O1.out, O2.out, (HB2.out.setCell HGX.out _).setCell HGY.out _⟩
            case measure => have := HN64.out; simp [intOf]; omega
          · obtain rfl : j = k := by omega
            have hca : mixL (· + P) C j = C.map (· + P) := mixL_all _ _ _ (by rw [HA.out]; omega)
            have hcb : mixL (· + P) D j = D.map (· + P) := mixL_all _ _ _ (by rw [HBL.out]; omega)
            rw [hca] at o1
            rw [hcb] at o2
            clear hca hcb
            obtain ⟨wp, rfl⟩ : ∃ wp : World, wp = wr := ⟨_, rfl⟩
            have HB3 := Lib.hid (HB.out.trans (hb.mono HB.out.size))
            have hB := Below.refl wp.heap.size wp
            have hB3 := fun (wx : World) (hq : Below wp.heap.size wp wx) => HB3.out.trans (hq.mono HB3.out.size)
            obtain ⟨⟨hvc, hvd⟩, hvx, hvy⟩ := HV.out
            have hcd : alikeB C D = true := by simp [alikeB, hvc, hvd, HA.out, HBL.out]
            have hxy : alikeB (C.map (· + P)) (D.map (· + P)) = true := by simp only [alikeB, hvx, hvy, List.length_map, HA.out, HBL.out]; simp
            have hxl := o1.at
            have hyl := o2.at
            have L1 := Lib.hid fun (wx : World) (hq : Below wp.heap.size wp wx) => L2_any C D _ _ wx ((HIC.out.below hb).below hq) ((HID.out.below hb).below hq) (vec_len hvc) (vec_len hvd)
            have L2 := Lib.hid fun (wx : World) (hq : Below wp.heap.size wp wx) => L2_any (C.map (· + P)) (D.map (· + P)) _ _ wx (hxl.below hq) (hyl.below hq) (vec_len hvx) (vec_len hvy)
            simp only [hcd, hxy, if_true] at L1 L2
            rw [HMOV.out] at L2
            have DA := Lib.hid fun (wx : World) (hq : Below wp.heap.size wp wx) => DAA.out wx (hB3 wx hq)
            have CA := Lib.hid fun (wx : World) (hq : Below wp.heap.size wp wx) => CAA.out wx (hB3 wx hq)
            clear hB3 hcd hxy hxl hyl o1 o2 hb hvc hvd hvx hvy DAA CAA DAA' HIC HID HV HMOV HX8 HY8 HB8 HBC HBD HA HBL HNE HGX HGY
            generalize sq C D = S2 at *
            by_cases hd : d1 = 0
            · subst hd
              clear HSELF
              go_wp2_with (first
                | (go_at_call 14; (with_reducible refine (L1.out _ hB).mono ?_); rintro e w9 ⟨rfl, hb⟩; replace hB := hB.trans (hb.mono hB.size); clear hb)
                | (go_at_call 14; (with_reducible refine (L2.out _ hB).mono ?_); rintro e w9 ⟨rfl, hb⟩; replace hB := hB.trans (hb.mono hB.size); clear hb)
                | (go_at_call 16; (with_reducible refine (DA.out _ hB).mono ?_); rintro e w9 ⟨rfl, rfl⟩)
                | (go_at_call 11; refine (SY.out _).mono ?_; rintro e w9 ⟨rfl, hb⟩; replace hB := hB.trans (hb.mono hB.size); clear hb))
              go_ret
              have hf := HB3.out.trans (hB.mono HB3.out.size)
              exact ⟨rfl, HB0.out.trans (hf.mono HB0.out.size)⟩
            · have hd' : (d1 == 0) = false := by simp [hd]
              have hq2 : 1048576 ≤ q2 := HSELF.out hd
              clear HSELF
              go_wp2_with (first
                | (go_at_call 14; (with_reducible refine (L1.out _ hB).mono ?_); rintro e w9 ⟨rfl, hb⟩; replace hB := hB.trans (hb.mono hB.size); clear hb)
                | (go_at_call 14; (with_reducible refine (L2.out _ hB).mono ?_); rintro e w9 ⟨rfl, hb⟩; replace hB := hB.trans (hb.mono hB.size); clear hb)
                | (go_at_call 16; (with_reducible refine (DA.out _ hB).mono ?_); rintro e w9 ⟨rfl, rfl⟩)
                | (go_at_call 18; (with_reducible refine (CA.out _ hB).mono ?_); rintro e w9 ⟨rfl, rfl⟩)
                | (go_at_call 11; refine (SY.out _).mono ?_; rintro e w9 ⟨rfl, hb⟩; replace hB := hB.trans (hb.mono hB.size); clear hb))
              go_ret
              have hf := HB3.out.trans (hB.mono HB3.out.size)
              exact ⟨rfl, HB0.out.trans (hf.mono HB0.out.size)⟩

/-! ### The row -/
set_option maxRecDepth 100000 in
theorem lifted (os : Os) (started : os.Started) (H : Type) (enc : TypeId × Value → H) :
    ReturnsInHanded {} Try.checked os 5 .any (Rows.vectorRulesSpec.pre6 enc Try.prog Try.f5 Rows.vectorRulesRow.domain false) (Rows.vectorRulesSpec.post enc Try.prog Try.f5 false true false false) := by
  refine returnsInHanded_of_change_sized (C := Try.checked) own started (by kernel_rfl) Try.func5
    (ChangeSpec.witness6 (enc := enc) (C := Try.checked) false ⟨#[], #[.slice none 0 0, .slice none 0 0, .int .i64 0], []⟩ 8 (by kernel_rfl) (by kernel_rfl) (by kernel_rfl) (by kernel_rfl)) ?_
  intro W base args ds gs before hval0 hW hcnd hsz0 _
  have hval : ∀ (j : Nat) t v, Try.f5.params[j]? = some t → args[j]? = some v → Value.okWide Try.prog W .any base t v := hval0
  have hW' := hW
  obtain ⟨p, q, hA0, hV, rfl, hfz, hnd⟩ := hW
  have hA : DataW.TrodAll enc Try.prog W 0 (fun _ => true) true Try.f5.params.toList args.toList ds p := hA0
  have hsz : (DataW.weightsEach Try.prog (Try.f5.params.toList ++ Rows.vectorRulesSpec.plain.varTypes Try.prog) (ds ++ gs)).all (· ≤ reachBytes) = true := hsz0
  rw [Try.params5] at hA hval hsz
  obtain ⟨v0, vs0, d0, ds0, p0, q0, hargs, rfl, rfl, h0, r0⟩ := trodAll_cons hA
  obtain ⟨v1, vs1, d1, ds1, p1, q1, rfl, rfl, rfl, h1, r1⟩ := trodAll_cons r0
  obtain ⟨v2, vs2, d2, ds2, p2, q2, rfl, rfl, rfl, h2, r2⟩ := trodAll_cons r1
  obtain ⟨rfl, rfl, rfl⟩ := trodAll_nil r2
  obtain rfl : args = #[v0, v1, v2] := by cases args; simp_all
  obtain ⟨rfl, rfl⟩ := trodVars_none hV
  obtain ⟨a0, len0, cap0, rfl⟩ := okWide_slice Try.underlying22 (hval 0 22 v0 rfl rfl)
  have k0 := h0
  have lt0 : ∀ x ∈ p0, x.block < W.heap.size := by obtain ⟨m, hm⟩ := k0; exact DataW.trod_lt m _ _ _ hm
  obtain ⟨z0, w0, s0⟩ : ∃ zs, IsRow .i64 W a0 len0 cap0 zs ∧ cap0 * 8 ≤ 140737488351232 := by
    obtain ⟨fuel, hf⟩ := h0
    rcases open_ints Try.underlying22 Try.underlying3 (by kernel_rfl) hf with ⟨hcs, _⟩ | ⟨x, l, c, zs, hcs, _, hl, hm, hz, hx, hcell, hwz⟩
    · simp [Value.cells] at hcs
      obtain ⟨rfl, rfl, rfl⟩ := hcs
      exact ⟨[], .inl ⟨rfl, rfl, rfl, rfl⟩, by simp⟩
    · simp [Value.cells] at hcs
      obtain ⟨rfl, rfl, rfl⟩ := hcs
      have hx' := congrArg Prod.fst hx
      simp only at hx'
      subst hx'
      have hs := sized_slice hsz (j := 0) (t := 22) (e := 3) rfl rfl Try.underlying22
      rw [show Try.prog.bytesOf 3 = 8 by kernel_rfl] at hs
      simp only [if_true] at hz
      simp [lits, reachBytes] at hs
      exact ⟨zs, .inr ⟨_, rfl, hl, hm, by simpa using hz, hcell, hwz⟩, by omega⟩
  obtain ⟨a1, len1, cap1, rfl⟩ := okWide_slice Try.underlying22 (hval 1 22 v1 rfl rfl)
  have k1 := h1
  have lt1 : ∀ x ∈ p1, x.block < W.heap.size := by obtain ⟨m, hm⟩ := k1; exact DataW.trod_lt m _ _ _ hm
  obtain ⟨z1, w1, s1⟩ : ∃ zs, IsRow .i64 W a1 len1 cap1 zs ∧ cap1 * 8 ≤ 140737488351232 := by
    obtain ⟨fuel, hf⟩ := h1
    rcases open_ints Try.underlying22 Try.underlying3 (by kernel_rfl) hf with ⟨hcs, _⟩ | ⟨x, l, c, zs, hcs, _, hl, hm, hz, hx, hcell, hwz⟩
    · simp [Value.cells] at hcs
      obtain ⟨rfl, rfl, rfl⟩ := hcs
      exact ⟨[], .inl ⟨rfl, rfl, rfl, rfl⟩, by simp⟩
    · simp [Value.cells] at hcs
      obtain ⟨rfl, rfl, rfl⟩ := hcs
      have hx' := congrArg Prod.fst hx
      simp only at hx'
      subst hx'
      have hs := sized_slice hsz (j := 1) (t := 22) (e := 3) rfl rfl Try.underlying22
      rw [show Try.prog.bytesOf 3 = 8 by kernel_rfl] at hs
      simp only [if_true] at hz
      simp [lits, reachBytes] at hs
      exact ⟨zs, .inr ⟨_, rfl, hl, hm, by simpa using hz, hcell, hwz⟩, by omega⟩
  obtain ⟨a2, rfl, rfl, rfl, w2⟩ := open_int Try.underlying3 (hval 2 3 v2 rfl rfl) h2
  clear hA0 hval0
  refine (walk a0 len0 cap0 z0 a1 len1 cap1 z1 a2 W w0 s0 w1 s1 w2).mono fun e W' ⟨he, bel⟩ => ?_
  subst he
  exact ⟨_, rfl, _, _, _, [], _, [], hW', trodAll_mk1 (shut_bool Try.underlying4 _), (trodAll_cons_mk (Below.trod laidOut (by kernel_rfl) (of_decide_eq_true (by kernel_rfl)) k0 bel lt0) (trodAll_cons_mk (Below.trod laidOut (by kernel_rfl) (of_decide_eq_true (by kernel_rfl)) k1 bel lt1) (trodAll_cons_mk (shut_int Try.underlying3 w2) trodAll_mk0))), rfl, bel.frame _, fun h => by cases h⟩

theorem over : Rows.vectorRulesRow.holds Try.pinned (OpenSpec.ofChange Rows.vectorRulesSpec) :=
  OpenClaim.holds_of_wide 5 Try.f5 rfl rfl rfl rfl rfl rfl rfl ⟨rfl, rfl, rfl, rfl, rfl⟩ rfl rfl rfl rfl rfl (by kernel_rfl) Try.func5 (by kernel_rfl)
    (of_decide_eq_true (by kernel_rfl)) (by unfold Func.isWrapper; first | (rw [if_pos (by decide +kernel)]; kernel_rfl) | (rw [if_neg (by decide +kernel)]; exact ⟨rfl, rfl⟩))
    (fun os started H enc _ => lifted os started H enc)

/-- The statement. -/
theorem proved : Rows.VectorRulesSaid := over
#print axioms proved
end Go.Proofs.Ytikhjokfadjjbab.vectorRules
