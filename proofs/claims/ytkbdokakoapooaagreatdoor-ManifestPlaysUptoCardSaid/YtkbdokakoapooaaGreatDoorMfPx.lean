/- The walk of ManifestPlays. Conditions: those that each theorem names. -/
import Derived.Test.YtkbdokakoapooaaGreatDoorMfPl
namespace Go.Proofs.YtkbdokakoapooaaGreatDoor
set_option linter.unusedVariables false
open Go Go.RowKit Go.Shelf Go.Sort Dk
namespace Mf
theorem mns_form {w : World} {v : Value} {L : List MnC} (h : MnsAt w v L) : ∃ p c, v = .slice p L.length c := by
  rcases h with ⟨rfl, p, c, rfl⟩ | ⟨g, off, cp, rfl, _⟩
  · exact ⟨p, c, rfl⟩
  · exact ⟨_, cp, rfl⟩
theorem mn_cells {w : World} {p : Option Addr} {n c : Nat} {L : List MnC} (h : MnsAt w (.slice p n c) L) {j : Nat} (hj : j < L.length) : ∃ g off, p = some ⟨g, off, none⟩ ∧ ∀ W : World, Below w.heap.size w W →
    W.cell? ⟨g, off + j * 4, none⟩ = some (.slice (L[j]).2.1 (L[j]).1.segs.length (L[j]).2.2) ∧ W.cell? ⟨g, off + j * 4 + 1, none⟩ = some (.string (L[j]).1.log) ∧ W.cell? ⟨g, off + j * 4 + 2, none⟩ = some (.int .i64 (L[j]).1.next) ∧ W.cell? ⟨g, off + j * 4 + 3, none⟩ = some (.int .i64 (L[j]).1.seq) := by
  rcases h with ⟨rfl, _⟩ | ⟨g, off, cp, e, hg, hc⟩
  · cases hj
  · injection e with e1 e2 e3
    refine ⟨g, off, e1, fun W hW => ?_⟩
    have key := hc W (hW.block g hg) j hj
    exact ⟨key 0 _ rfl, key 1 _ rfl, key 2 _ rfl, key 3 _ rfl⟩
set_option maxHeartbeats 4000000 in
set_option maxRecDepth 100000 in
theorem plays_walk (v0 : Value) (l0 : List MnC) (v1 : Value) (l1 : List (Int × Int × Int)) (n2 : Int) (u2 : Value) (l2 : List Int) (w : World) (i0 : MnsAt w v0 l0) (j0 : ∀ y ∈ l0, MnIn w y) (n0 : l0.length ≤ 1048576) (s0 : ∀ y ∈ l0, Small y.1) (i1 : FltR w v1 l1) (j1 : ∀ f ∈ l1, fltOk f) (n1 : l1.length ≤ 1048576) (c2 : CrashIn w n2 u2 l2) (G : Gh w) :
    Calls Tryz.prog 4 #[v0, v1, .agg #[.int .i64 n2, u2]] w fun e w' => e = .returned (.bool true) ∧ Below w.heap.size w w' := by
  obtain ⟨p0, c0, rfl⟩ := mns_form i0
  obtain ⟨p1, c1, rfl⟩ := i1.form
  obtain ⟨q2, d2, rfl⟩ := ints_form c2.row
  have HI := Lib.hid i0
  have HJ := Lib.hid j0
  have HS := Lib.hid s0
  have HF := Lib.hid i1
  have HFO := Lib.hid j1
  have HC := Lib.hid c2
  have HG := Lib.hid G
  obtain ⟨N, hN⟩ : ∃ N, N = l0.length := ⟨_, rfl⟩
  rw [← hN] at HI n0 ⊢
  have HNN := Lib.hid hN
  have hnm : N ≤ maxLen := by unfold maxLen; omega
  have HNM := Lib.hid hnm
  obtain ⟨W0, hW0⟩ : ∃ W0, W0 = w.alloc (.cells #[.int .i64 n2, .slice q2 l2.length d2] 43) := ⟨_, rfl⟩
  have hb0 := below_new w (.cells #[.int .i64 n2, .slice q2 l2.length d2] 43)
  have hx0 := heap_new w (.cells #[.int .i64 n2, .slice q2 l2.length d2] 43)
  rw [← hW0] at hb0 hx0
  have HB0 := Lib.hid hb0
  have hw0 : w.heap.size < W0.heap.size := by rw [hW0]; show _ < (w.heap.push _).size; simp
  have HBX := Lib.hid (fun (W : World) (hb : Below W0.heap.size W0 W) => cellsPair ((hb.block _ hw0).trans hx0))
  have HCI : Hid (CrashIn W0 n2 (.slice q2 l2.length d2) l2) := Lib.hid ⟨c2.lo, c2.hi, ints_below c2.row hb0, c2.len, c2.fits, c2.own.imp id (fun h g hg => Nat.lt_trans (h g hg) hw0)⟩
  have HFI : Hid (FltR W0 (.slice p1 l1.length c1) l1) := Lib.hid (fltR_below i1 hb0)
  have HN2 := Lib.hid (at_new W0)
  clear i0 j0 s0 n0 i1 j1 n1 c2 G hN hnm hb0 hx0 hw0 HF HC
  go_enter Tryz.func4, Tryz.ntmps4
  subst hW0
  go_wp2_with fail
  generalize w.alloc (.cells #[.int .i64 n2, .slice q2 l2.length d2] 43) = W0 at *
  refine HN2.out.mono ?_
  rintro e w1 ⟨rfl, h1⟩
  have HB := Lib.hid (bothM_new W0 w1 h1)
  clear h1 HN2
  go_wp2_with fail
  generalize w1.alloc (.cells #[.slice none 0 0, .slice none 0 0, .slice none 0 0, .slice none 0 0, .slice none 0 0, .int .i64 0] 32) = W1 at *
  generalize w1.heap.size = B at *
  have HG0 := Lib.hid (fun (W : World) (hb : Below W0.heap.size W0 W) => HG.out.below (below_then HB0.out hb))
  refine (awake_yes _ (HG0.out _ HB.out.below)).mono ?_
  rintro e w2 ⟨rfl, b2⟩
  have H2 := Lib.hid (HB.out.others b2)
  clear b2
  go_wp2_with fail
  obtain ⟨E, Q, hp, hr⟩ := H2.out.plan p1 c1 l1 HFI.out HFO.out
  have HR := Lib.hid hr
  have HP := Lib.hid hp
  clear hr hp
  have dE : (E != E) = false := by simp
  refine HP.out.mono ?_
  rintro e w3 ⟨rfl, h3⟩
  have HR3 := Lib.hid (HR.out _ h3)
  clear h3 HP HR
  go_wp2_with fail
  refine HR3.out.mono ?_
  rintro e w4 ⟨rfl, h4⟩
  have H4 := Lib.hid h4
  clear h4 HR3
  go_wp2_with fail
  clear dE
  go_loopw [9] (fun i wr => ∃ j : Nat, j ≤ N ∧ j ≤ 50 ∧ i = .int .i64 j ∧ BothM W0 W0.heap.size B (1 + 6 * j) wr) (fun i _ => N - (intOf i).toNat)
  case atStart => exact ⟨0, Nat.zero_le _, Nat.zero_le _, rfl, H4.out⟩
  case round =>
    obtain ⟨j, hj, hj5, rfl, hb⟩ := hrel
    have HQ := Lib.hid hb
    obtain ⟨wq, rfl⟩ : ∃ wq : World, wq = wr := ⟨_, rfl⟩
    clear hb
    have hjb : 1 + 6 * j + 6 ≤ 1048577 := by omega
    have HJB := Lib.hid hjb
    clear hjb
    by_cases hin : j < N ∧ j < 50
    · as_aux_lemma =>
      obtain ⟨hlt, h50⟩ := hin
      have hjl : j < l0.length := by rw [← HNN.out]; exact hlt
      obtain ⟨g, off, rfl, hc⟩ := mn_cells HI.out hjl
      have HCX := Lib.hid (fun (W : World) (hb : Below W0.heap.size W0 W) => hc W (below_then HB0.out hb))
      obtain ⟨y0, y1, y2, y3⟩ := HCX.out wq HQ.out.below
      have hmn := HJ.out _ (List.getElem_mem hjl)
      have hsm := HS.out _ (List.getElem_mem hjl)
      clear hc
      generalize l0[j] = x at *
      obtain ⟨m, pp, cc⟩ := x
      clear hjl
      simp only at y0 y1 y2 y3 HCX hsm
      have hmv : ∀ W, Below W0.heap.size W0 W → MnAt W (.agg #[.slice pp m.segs.length cc, .string m.log, .int .i64 m.next, .int .i64 m.seq]) m := fun W hb => ⟨pp, cc, rfl, TxsAt.below hmn (below_then HB0.out hb)⟩
      obtain ⟨E, Q, hp, hr, hqb⟩ := (HQ.out.others (Below.refl _ _).drew).store HJB.out m _ hmv hsm (HG0.out _ HQ.out.below.drew)
      have HP := Lib.hid hp
      have HR := Lib.hid hr
      have HQB := Lib.hid hqb
      have HSM := Lib.hid (fun (W : World) (t : BothM W0 W0.heap.size B (1 + 6 * j + 6) W) => t.same HJB.out (HG0.out _ t.below))
      have dE : (E != E) = false := by simp
      have hwn := wrapNext HNM.out hlt
      generalize m.segs.length = ns at *
      generalize m.log = ml at *
      generalize m.next = mx at *
      generalize m.seq = mq at *
      have mixed : Tryz.prog.follows .mixedOrders = true := by kernel_rfl
      clear hp hr hqb hmv hsm hmn
      go_wp2_with fail
      go_region_held3 (fun W : World => W.cell? ⟨g, off + j * 4, none⟩ = some (.slice pp ns cc) ∧ W.cell? ⟨g, off + j * 4 + 1, none⟩ = some (.string ml) ∧ W.cell? ⟨g, off + j * 4 + 2, none⟩ = some (.int .i64 mx) ∧ W.cell? ⟨g, off + j * 4 + 3, none⟩ = some (.int .i64 mq)) (first | assumption | go_keep) (first
        | (go_at_call 16; refine HP.out.mono ?_; rintro e w5 ⟨rfl, h5⟩; obtain ⟨y0, y1, y2, y3⟩ := HCX.out w5 (HQB.out _ h5))
        | (go_at_call 17; refine (HR.out _ h5).mono ?_; rintro e w6 ⟨rfl, h6⟩; obtain ⟨y0, y1, y2, y3⟩ := HCX.out w6 h6.below)
        | (go_at_call 18; refine (HSM.out _ h6).mono ?_; rintro e w7 ⟨rfl, h7, b7⟩; obtain ⟨y0, y1, y2, y3⟩ := HCX.out w7 h7.below))
      have e6 : 1 + 6 * j + 6 = 1 + 6 * (j + 1) := by omega
      have H7 : Hid (BothM W0 W0.heap.size B (1 + 6 * (j + 1)) w7) := Lib.hid (e6 ▸ h7)
      clear h5 h6 h7 b7 e6
      go_wp2_with fail
      go_roundw
      case rel => exact ⟨j + 1, by omega, by omega, by first | rfl | go_num, H7.out⟩
      case measure => show N - ((j : Int) + 1).toNat < N - ((j : Int)).toNat; exact measLess hlt
    · skip
      have hout : (j = N) ∨ (decide ((j : Int) < (N : Int)) = true ∧ decide ((j : Int) < 50) = false) := by
        by_cases h : j = N
        · exact .inl h
        · exact .inr ⟨decide_eq_true (by omega), decide_eq_false (by omega)⟩
      have hk1 : 1 + 6 * j + 1 ≤ 1048577 := by have := HJB.out; omega
      obtain ⟨Q, hp, hr, hqb⟩ := HQ.out.crash (by omega) n2 _ l2 HCI.out
      have HP := Lib.hid hp
      have HR := Lib.hid hr
      have HQB := Lib.hid hqb
      have HSM := Lib.hid (fun (W : World) (t : BothM W0 W0.heap.size B (1 + 6 * j + 1) W) => t.same hk1 (HG0.out _ t.below))
      obtain ⟨z0, z1⟩ := HBX.out wq HQ.out.below
      clear hp hr hqb hk1 hin
      rcases hout with rfl | ⟨d1, e2⟩
      all_goals
        go_wp2_with fail
        all_goals
         refine HP.out.mono ?_
         rintro e w5 ⟨rfl, h5⟩
         obtain ⟨z2, z3⟩ := HBX.out w5 (HQB.out _ h5)
         go_wp2_with fail
         refine (HR.out _ h5).mono ?_
         rintro e w6 ⟨rfl, h6⟩
         go_wp2_with fail
         refine (HSM.out _ h6).mono ?_
         rintro e w7 ⟨rfl, h7, b7⟩
         have HF := Lib.hid (below_then HB0.out h7.below)
         go_wp2_with fail
         go_ret
         exact ⟨rfl, HF.out⟩
end Mf
end Go.Proofs.YtkbdokakoapooaaGreatDoor
