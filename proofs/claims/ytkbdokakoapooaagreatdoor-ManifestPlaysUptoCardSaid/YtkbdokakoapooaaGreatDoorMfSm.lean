/- The law's 'same' of both disks. Conditions: those that each theorem names. -/
import Derived.Test.YtkbdokakoapooaaGreatDoorMfLo
import Derived.Test.YtkbdokakoapooaaGreatDoorRfTx
import Derived.BigQuiet
import Derived.Deep.QuietTactic
import Derived.Deep.RegionHeld3
namespace Go.Proofs.YtkbdokakoapooaaGreatDoor
set_option linter.unusedVariables false
open Go Go.RowKit Go.Shelf Go.Sort Dk
namespace Mf
section
variable {w0 w : World} {A B : Nat} {Y : Nat → Prop} {D : DSt} {M : RSt} {c k : Nat} {φ : Nat → Nat}
theorem ldM_small (hq : DataB 1048576 D) (tw : Dk.Twin φ D M) : Small (ldM D) := by
  unfold ldM
  cases hg : nmGet D.names nMan with
  | none => exact zero_small
  | some i =>
    obtain ⟨f, hf, _, _⟩ := tw.file_at hg
    have e := readD_some hg hf
    have hs : (readD D nMan).size ≤ 16777215 := by rw [e, tx_size]; have := hq f (List.mem_of_getElem? hf); omega
    exact decM_small _ hs
theorem box4 {w W : World} {a b x y : Value} {T : TypeId} (hb : Below (w.alloc (.cells #[a, b, x, y] T)).heap.size (w.alloc (.cells #[a, b, x, y] T)) W) :
    W.cell? ⟨w.heap.size, 0, none⟩ = some a ∧ W.cell? ⟨w.heap.size, 1, none⟩ = some b ∧ W.cell? ⟨w.heap.size, 2, none⟩ = some x ∧ W.cell? ⟨w.heap.size, 3, none⟩ = some y :=
  of_cells4 ((hb.block _ (by show _ < (w.heap.push _).size; simp)).trans (heap_new w _))
set_option maxHeartbeats 4000000 in
set_option maxRecDepth 100000 in
theorem dsame_any (h : Two w0 A B Y D M w) (tw : Dk.Twin φ D M) (b : DBd c k D) (bm : MBd c k M) (hk : k ≤ 1048577) (hq : DataB 1048576 D) (G : Gh w) :
    Calls Tryz.prog 18 #[pD A, pD B] w fun e w' => e = .returned (.bool true) ∧ Below w.heap.size w w' := by
  have hn1 := (bd_big b hk).2.1
  have hnm : M.now.length ≤ maxLen := by have := (bd_ok b bm tw hk).2.1; unfold maxLen; omega
  have H := Lib.hid h
  have HL1 : Hid (Calls Tryz.prog 47 #[pD A] w fun e w' => ∃ v, e = .returned (.tuple #[v, .bool (ldB D), .int .i64 (ldE D)]) ∧ MnOwn w' w.heap.size v (ldM D) ∧ Below w.heap.size w w') := Lib.hid (by
    obtain ⟨X, h1, _, _⟩ := h
    exact pload_any h1 hq G)
  have HL2 := Lib.hid (fun (W : World) (t : Two w0 A B Y D M W) => rload_any t tw b bm hk hq)
  have HN1 := Lib.hid (fun (W : World) (t : Two w0 A B Y D M W) => t.pNames b hk)
  have HN2 := Lib.hid (fun (W : World) (t : Two w0 A B Y D M W) => t.rNames b bm tw hk)
  have HSZ := Lib.hid h.sizes
  have HR1 := Lib.hid (fun (W : World) (t : Two w0 A B Y D M W) (s : ByteArray) (hl : s.size ≤ maxLen) => t.pRead s hl)
  have HR2 := Lib.hid (fun (W : World) (t : Two w0 A B Y D M W) (s : ByteArray) => t.rRead tw hnm s)
  have hsm := ldM_small hq tw
  have HSM := Lib.hid (fun x y W (hx : MnAt W x (ldM D)) (hy : MnAt W y (ldM D)) => same_any _ _ x y W hx hy hsm hsm)
  rw [sameM_self] at HSM
  obtain ⟨LN, hLN⟩ : ∃ LN, LN = D.names.map (fun p => p.1) := ⟨_, rfl⟩
  have HE1 : Hid (D.names.length = LN.length ∧ (D.names.map fun x => Value.string x.1) = LN.map fun s => .string s) := Lib.hid (by rw [hLN]; simp)
  have HLB : Hid (LN.length ≤ 1099511627776) := Lib.hid (by rw [hLN, List.length_map]; exact hn1)
  rw [← hLN] at HN2 HSZ
  unfold NamesOut at HN1
  rw [HE1.out.1, HE1.out.2] at HN1
  have d1 : (ldB D != ldB D) = false := by simp
  have d2 : (ldE D != ldE D) = false := by simp
  generalize ldB D = bb at *
  generalize ldE D = ee at *
  generalize ldM D = mm at *
  have mixed : Tryz.prog.follows .mixedOrders = true := by kernel_rfl
  clear h b bm tw hk hn1 hnm hLN HE1 hsm hq G
  go_enter Tryz.func18, Tryz.ntmps18
  go_wp2_with fail
  refine HL1.out.mono ?_
  rintro e w1 ⟨v1, rfl, o1, b1⟩
  obtain ⟨p1, c1, rfl, q1⟩ := o1.at
  have hm1 : MnAt w1 (.agg #[.slice p1 mm.segs.length c1, .string mm.log, .int .i64 mm.next, .int .i64 mm.seq]) mm := ⟨p1, c1, rfl, q1⟩
  have HM1 := Lib.hid hm1
  have HB1 := Lib.hid b1
  have H1 := Lib.hid (H.out.others b1)
  clear o1 q1 hm1 b1 HL1
  generalize mm.segs.length = n1 at *
  generalize mm.log = l1 at *
  generalize mm.next = x1 at *
  generalize mm.seq = s1 at *
  have hbn := below_new w1 (.cells #[.slice p1 n1 c1, .string l1, .int .i64 x1, .int .i64 s1] 61)
  have HX1 := Lib.hid (fun (W : World) (hb : Below (w1.alloc (.cells #[.slice p1 n1 c1, .string l1, .int .i64 x1, .int .i64 s1] 61)).heap.size (w1.alloc (.cells #[.slice p1 n1 c1, .string l1, .int .i64 x1, .int .i64 s1] 61)) W) => box4 hb)
  have HM1' := Lib.hid (HM1.out.below hbn)
  have HB1' := Lib.hid (below_then HB1.out hbn)
  have H1' := Lib.hid (H1.out.others hbn)
  clear hbn
  go_wp2_with fail
  generalize w1.alloc (.cells #[.slice p1 n1 c1, .string l1, .int .i64 x1, .int .i64 s1] 61) = W1 at *
  generalize w1.heap.size = g1 at *
  refine (HL2.out _ H1'.out).mono ?_
  rintro e w2 ⟨v2, rfl, o2, b2⟩
  obtain ⟨p2, c2, rfl, q2⟩ := o2.at
  have hm2 : MnAt w2 (.agg #[.slice p2 mm.segs.length c2, .string mm.log, .int .i64 mm.next, .int .i64 mm.seq]) mm := ⟨p2, c2, rfl, q2⟩
  have HM2 := Lib.hid hm2
  have HB2 := Lib.hid b2
  have H2 := Lib.hid (H1'.out.others b2)
  clear o2 q2 hm2 b2 HL2
  generalize mm.segs.length = n2 at *
  generalize mm.log = l2 at *
  generalize mm.next = x2 at *
  generalize mm.seq = s2 at *
  have hbn := below_new w2 (.cells #[.slice p2 n2 c2, .string l2, .int .i64 x2, .int .i64 s2] 61)
  have HX2 := Lib.hid (fun (W : World) (hb : Below (w2.alloc (.cells #[.slice p2 n2 c2, .string l2, .int .i64 x2, .int .i64 s2] 61)).heap.size (w2.alloc (.cells #[.slice p2 n2 c2, .string l2, .int .i64 x2, .int .i64 s2] 61)) W) => box4 hb)
  have HM2' := Lib.hid (HM2.out.below hbn)
  have HBW := Lib.hid (below_then HB2.out hbn)
  have H2' := Lib.hid (H2.out.others hbn)
  clear hbn
  go_wp2_with fail
  generalize w2.alloc (.cells #[.slice p2 n2 c2, .string l2, .int .i64 x2, .int .i64 s2] 61) = W2 at *
  generalize w2.heap.size = g2 at *
  refine (HN1.out _ H2'.out).mono ?_
  rintro e w3 ⟨p3, c3, rfl, o3, b3⟩
  have HO3 := Lib.hid (txR_of o3)
  have H3 := Lib.hid (H2'.out.others b3)
  have HB3 := Lib.hid b3
  clear o3 b3
  go_wp2_with fail
  refine (HN2.out _ H3.out).mono ?_
  rintro e w4 ⟨⟨u, rfl, o4⟩, b4⟩
  rw [tx_cells] at o4
  have HO4 := Lib.hid (txR_of o4)
  obtain ⟨p4, c4, rfl⟩ := HO4.out.form
  have HO3' := Lib.hid (HO3.out.below b4)
  have H4 := Lib.hid (H3.out.others b4)
  have HB4 := Lib.hid (below_then HB3.out b4)
  clear o4 b4
  obtain ⟨N, hN⟩ : ∃ N, N = LN.length := ⟨_, rfl⟩
  rw [← hN] at HO3 HO3' HO4 HLB ⊢
  have HNN := Lib.hid hN
  have hnm : N ≤ maxLen := by have := HLB.out; unfold maxLen; omega
  have HNM := Lib.hid hnm
  clear hN hnm
  have d3 : ((N : Int) != (N : Int)) = false := by simp
  obtain ⟨a0, a1, a2, a3⟩ := HX1.out w4 (below_then HBW.out HB4.out)
  obtain ⟨z0, z1, z2, z3⟩ := HX2.out w4 HB4.out
  have HS := Lib.hid (HSM.out _ _ w4 ((HM1'.out.below HBW.out).below HB4.out) (HM2'.out.below HB4.out))
  have HBE := Lib.hid (below_then HB1'.out (below_then HBW.out HB4.out))
  clear HX1 HX2 HM1 HM1' HM2 HM2' HSM HN1 HN2
  go_wp2_with fail
  refine HS.out.mono ?_
  rintro e w5 ⟨rfl, b5⟩
  have H5 := Lib.hid (H4.out.others b5)
  have HP1 := Lib.hid (HO3'.out.below b5)
  have HP2 := Lib.hid (HO4.out.below b5)
  have HBF := Lib.hid (below_then HBE.out b5)
  clear b5 a0 a1 a2 a3 z0 z1 z2 z3 d1 d2
  go_wp2_with fail
  clear d3
  go_loopw [13] (fun i wr => ∃ j : Nat, j ≤ N ∧ i = .int .i64 j ∧ Below w5.heap.size w5 wr) (fun i _ => N - (intOf i).toNat)
  case atStart => exact ⟨0, Nat.zero_le _, rfl, Below.refl _ _⟩
  case round =>
    obtain ⟨j, hj, rfl, hb⟩ := hrel
    have HB := Lib.hid hb
    obtain ⟨wq, rfl⟩ : ∃ wq : World, wq = wr := ⟨_, rfl⟩
    clear hb
    have HQ := Lib.hid (H5.out.others HB.out)
    by_cases hlt : j < N
    · as_aux_lemma =>
      have hjl : j < LN.length := by rw [← HNN.out]; exact hlt
      obtain ⟨g3, rfl, y1⟩ := (HP1.out.below HB.out).cell hjl
      obtain ⟨g4, rfl, y2⟩ := (HP2.out.below HB.out).cell hjl
      have hsz := HSZ.out _ (List.getElem_mem hjl)
      generalize LN[j] = nm at *
      have HA := Lib.hid (HR1.out wq HQ.out nm hsz)
      have HBB := Lib.hid (HR2.out wq HQ.out nm)
      generalize readD D nm = R at *
      generalize askD D nm = E at *
      have e1 := text_same nm
      have e2 := text_same R
      have hwn := wrapNext HNM.out hlt
      clear hsz hjl
      go_wp2_with fail
      refine HA.out.mono ?_
      rintro e w6 ⟨rfl, rfl⟩
      go_wp2_with fail
      refine HBB.out.mono ?_
      rintro e w6 ⟨rfl, rfl⟩
      go_wp2_with fail
      go_quiet (fail)
      go_wp2_with fail
      go_roundw
      case rel => exact ⟨j + 1, by omega, congrArg _ hwn, belowDrewN HB.out _⟩
      case measure => rw [hwn]; exact nextLess hlt
    · as_aux_lemma =>
      obtain rfl : j = N := by omega
      go_wp2_with fail
      go_ret
      exact ⟨rfl, below_then HBF.out HB.out⟩
end
end Mf
end Go.Proofs.YtkbdokakoapooaaGreatDoor
