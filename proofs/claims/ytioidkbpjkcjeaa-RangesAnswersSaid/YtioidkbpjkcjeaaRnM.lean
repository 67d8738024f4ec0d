/- The walk of RangesTurned. Conditions: those that each theorem names. -/
import Derived.Test.YtioidkbpjkcjeaaRnArgs
import Derived.Test.YtioidkbpjkcjeaaRows
namespace Go.Proofs.Ytioidkbpjkcjeaa
set_option linter.unusedVariables false
open Go Go.RowKit Go.Shelf Go.Sort Ids
namespace Rn
/-- All of a row behind an own one. -/
theorem append_all {w : World} {base : Nat} {v u : Value} {A B : List En} (hown : OwnH w base v A) (hs : HsAt w u B) (hb : (A.length + B.length) * 16 ≤ 140737488355328) (hbase : base ≤ w.heap.size) :
    ∃ v' w', (∀ ty, (Builtin.append_ #[22, 22] ty #[v, u]).run Try.prog w = .ok v' w') ∧ OwnH w' base v' (A ++ B) ∧ w.grownBy w' v.ownBlock := by
  obtain ⟨i0, hi, hz0, hz1, hz2⟩ := info_of infoH
  have ht := Try.underlying22
  rcases hs with ⟨rfl, p, c, rfl⟩ | ⟨g, off, c, rfl, hg, hc⟩
  · refine ⟨v, w, fun ty => ?_, by simpa using hown, ⟨rfl, rfl, rfl, Nat.le_refl _, fun _ _ _ => rfl⟩⟩
    cases p with
    | none =>
      rcases hown.2 with ⟨rfl, h0⟩ | ⟨g, cap, cur, rfl, _, hg, h1, _⟩
      · simp [Builtin.append_, run_underlying ht, sizeOf, typeInfo, hi, Builtin.lenOf, Builtin.firstCells]
      · simp [Builtin.append_, run_underlying ht, sizeOf, typeInfo, hi, Builtin.lenOf, Builtin.firstCells, storeCells, h1]
    | some a =>
      rcases hown.2 with ⟨rfl, h0⟩ | ⟨g, cap, cur, rfl, _, hg, h1, _⟩
      · simp [Builtin.append_, run_underlying ht, sizeOf, typeInfo, hi, Builtin.lenOf, Builtin.firstCells, storeCells, loadCells, loadCellsFrom]
      · simp [Builtin.append_, run_underlying ht, sizeOf, typeInfo, hi, Builtin.lenOf, Builtin.firstCells, storeCells, loadCells, loadCellsFrom, h1]
  · obtain ⟨v', w', hr, h2, h3, _⟩ := run_append_own_at (P := Try.prog) w base 22 22 24 i0 _ 2 16 ht hi hz0 hz1 hz2 rfl (by decide) v A.length (hCells A) hown ⟨g, off, none⟩ B.length c (hCells B) (hCells_len B)
      (fun j u hj => by rw [addr_at]; exact hs_cells hc j u hj) (hCells_one B) (by unfold maxLen; omega) hb hbase
    exact ⟨v', w', fun _ => hr, by show w'.ownsRow _ _ _ _ _ _; rw [hCells_add, List.length_append]; exact h2, h3⟩
theorem grown_below {w w' : World} {base : Nat} {v : Value} {A : List En} (hown : OwnH w base v A) (hg : w.grownBy w' v.ownBlock) (hbase : base ≤ w.heap.size) : Below base w w' :=
  (Below.refl base w).grown hg hbase (fun j hj => (hown.lt j hj).1)
theorem meas_down (j : Nat) : ((j : Int) - 1 + 1).toNat < ((j : Int) + 1).toNat := by omega
theorem can_turned (l : List En) : can (l.reverse ++ l) = can l := can_same (fun x => by simp)
set_option maxHeartbeats 4000000 in
set_option maxRecDepth 100000 in
theorem turned_walk (v0 : Value) (l0 : List En) (low high : Int) (w : World) (wf0 : HsAt w v0 l0) (s0 : l0.length * 16 ≤ 16777216) (ok0 : ∀ y ∈ l0, OkH y) :
    Calls Try.prog 4 #[v0, .int .i64 low, .int .i64 high] w fun e w' => e = .returned (.bool true) ∧ Below w.heap.size w w' := by
  have HB0 := Lib.hid (fun (W : World) (h : HsAt W v0 l0) => build_any l0 v0 W h (by omega))
  have HB1 := Lib.hid (fun (u : Value) (W : World) (h : HsAt W u (l0.reverse ++ l0)) => build_any (l0.reverse ++ l0) u W h (by simp; omega))
  have G : Good (can l0) := can_good (fun e he => (ok0 e he).ok) (by omega)
  rw [can_turned] at HB1
  have HWF := Lib.hid wf0
  obtain ⟨p, c, rfl⟩ := wf0.form
  obtain ⟨L, hL⟩ : ∃ L, L = can l0 := ⟨_, rfl⟩
  rw [← hL] at G HB0 HB1
  have HEN := Lib.hid (fun (B K : Nat) (W : World) (h : IxO W B K L) => entries_any W h G.len)
  have HBT := Lib.hid (fun (B K : Nat) (W : World) (h : IxO W B K L) => between_any low high W h G)
  have HSM := Lib.hid (fun (u v : Value) (W : World) (hu : HsAt W u L) (hv : HsAt W v L) => same_any L L u v W hu hv (by have := G.len; unfold maxLen; omega))
  have hdd : decide (L = L) = true := decide_eq_true rfl
  rw [hdd] at HSM
  have HIN := Lib.hid (fun (u v : Value) (W : World) (hu : IntsAt W u (idsE (seg low high L))) (hv : IntsAt W v (idsE (seg low high L))) => ints_any _ _ u v W hu hv
    (by have h1 := uniL_length ((seg low high L).map (fun x => x.2)) []; have h2 := seg_len low high L; have h3 := G.len; unfold maxLen idsE; simp at h1; omega) (by have h1 := uniL_length ((seg low high L).map (fun x => x.2)) []; have h2 := seg_len low high L; have h3 := G.len; unfold maxLen idsE; simp at h1; omega))
  have hee : eqB (idsE (seg low high L)) (idsE (seg low high L)) = true := eqB_same _
  rw [hee] at HIN
  generalize idsE (seg low high L) = I at *
  obtain ⟨n, hn⟩ : ∃ n, n = l0.length := ⟨_, rfl⟩
  have HN := Lib.hid hn
  have hnb : n ≤ 1048576 := by omega
  rw [← hn] at HWF HB0 ⊢
  clear hL wf0 s0 ok0 hdd hee G hn
  have hw1 : wrap64 ((n : Int) - 1) = (n : Int) - 1 := by unfold wrap64; omega
  have HNB := Lib.hid hnb
  go_enter Try.func4, Try.ntmps4
  go_wp2_with fail
  clear hw1
  go_loopw [7, 8] (fun s i wr => ∃ k : Nat, k ≤ n ∧ i = .int .i64 ((n : Int) - 1 - k) ∧ OwnH wr w.heap.size s (l0.reverse.take k) ∧ Below w.heap.size w wr) (fun _ i _ => (intOf i + 1).toNat)
  case atStart => exact ⟨0, Nat.zero_le _, by simp, World.ownsRow_nil _ _ _ _, Below.refl _ _⟩
  case round =>
    obtain ⟨k, hk, rfl, ho, hb⟩ := hrel
    have HB := Lib.hid hb
    have HO := Lib.hid ho
    clear ho hb
    obtain ⟨wo, rfl⟩ : ∃ wo : World, wo = wr := ⟨_, rfl⟩
    by_cases hlt : k < n
    · have hkR : n - 1 - k < l0.length := by rw [← HN.out]; omega
      have hW2 := HWF.out.below HB.out
      rcases hW2 with ⟨e0, _⟩ | ⟨g, off, c', e0, hgl, hc⟩
      · rw [e0] at hkR; cases hkR
      · injection e0 with e1 e2 e3
        subst e1; subst e3; clear e2
        obtain ⟨a0, a1⟩ := hc wo rfl (n - 1 - k) hkR
        obtain ⟨x, hxe⟩ : ∃ x, x = l0[n - 1 - k] := ⟨_, rfl⟩
        rw [← hxe] at a0 a1
        have hx : l0.reverse[k]? = some x := by
          rw [List.getElem?_reverse (by rw [← HN.out]; exact hlt), hxe, List.getElem?_eq_getElem (by omega)]
          congr 2
          rw [← HN.out]
        have hF : l0.reverse.take (k + 1) = l0.reverse.take k ++ [x] := by rw [List.take_add_one, hx]; rfl
        have hb2 : Below w.heap.size w (wo.alloc (hobj x)) := HB.out.alloc HB.out.size _
        have hbd : ((l0.reverse.take k).length + 1) * 16 ≤ 140737488355328 := by have := HNB.out; simp; omega
        obtain ⟨v3, w3, hr3, ho3, hg3, _⟩ := append_en (own_below HO.out (fresh_alloc wo (hobj x))) (heap_last wo (hobj x)) hbd hb2.size
        rw [← hF] at ho3
        have HO3 := Lib.hid ho3
        have HB3 := Lib.hid (hb2.trans (grown_below (own_below HO.out (fresh_alloc wo (hobj x))) hg3 hb2.size))
        obtain ⟨j, hj⟩ : ∃ j : Nat, (n : Int) - 1 - k = (j : Int) ∧ j = n - 1 - k := ⟨n - 1 - k, by omega, rfl⟩
        rw [← hj.2] at a0 a1
        have hjn : (j : Int) < (n : Int) := by omega
        have hme : ((n : Int) - 1 - ((k + 1 : Nat) : Int) + 1).toNat < ((n : Int) - 1 - (k : Int) + 1).toNat := by omega
        have HJ1 : Hid ((j : Int) - 1 = (n : Int) - 1 - ((k + 1 : Nat) : Int)) := Lib.hid (by omega)
        have hdec : wrap64 ((j : Int) - 1) = (j : Int) - 1 := by unfold wrap64; omega
        have hkk : k + 1 ≤ n := hlt
        rw [hj.1]
        clear hc hx ho3 hb2 hxe hkR hF hbd hg3 hj hme
        go_wp2_with (first | (at_builtin; refine wpList_append_run rfl _ _ _ _ rfl _ _ _ _ rfl rfl hr3 ?_))
        go_roundw
        case rel => exact ⟨k + 1, hkk, congrArg _ HJ1.out, HO3.out, HB3.out⟩
        case measure => exact meas_down j
    · obtain rfl : k = n := by omega
      have hm1 : (k : Int) - 1 - (k : Int) = -1 := by omega
      have hall : l0.reverse.take k = l0.reverse := by rw [HN.out]; exact List.take_of_length_le (by simp)
      rw [hall] at HO
      obtain ⟨v3, w3, hr3, ho3, hg3⟩ := append_all HO.out (HWF.out.below HB.out) (by have := HNB.out; have := HN.out; simp; omega) HB.out.size
      have hb3 := HB.out.trans (grown_below HO.out hg3 HB.out.size)
      have HO3 := Lib.hid (own_entries ho3)
      have HB3 := Lib.hid hb3
      obtain ⟨p3, c3, hv3⟩ := (own_entries ho3).form
      obtain ⟨m, hm⟩ : ∃ m, m = (l0.reverse ++ l0).length := ⟨_, rfl⟩
      rw [← hm] at hv3
      subst hv3
      clear hm
      have HBL := Lib.hid (HB0.out w3 (HWF.out.below hb3))
      rw [hm1]
      clear ho3 hg3 hb3 hall hm1 HB0
      go_wp2_with (first | (at_builtin; refine wpList_append_run rfl _ _ _ _ rfl _ _ _ _ rfl rfl hr3 ?_))
      refine HBL.out.mono ?_
      rintro e w4 ⟨K1, rfl, hx, hb⟩
      have HX4 := Lib.hid hx
      have HB4 := Lib.hid (HB3.out.trans (hb.mono HB3.out.size))
      have HBR := Lib.hid (HB1.out _ w4 (HO3.out.below hb))
      clear hx hb HBL HO3 HB3 HO HB hr3
      go_wp2_with fail
      refine HBR.out.mono ?_
      rintro e w5 ⟨K2, rfl, hx, hb⟩
      have HY5 := Lib.hid hx
      have HX5 := Lib.hid (HX4.out.below hb)
      have HB5 := Lib.hid (HB4.out.trans (hb.mono HB4.out.size))
      clear hx hb HX4 HB4 HBR HB1
      go_wp2_with fail
      refine (HEN.out _ _ _ HX5.out).mono ?_
      rintro e w6 ⟨u1, rfl, ho, hb⟩
      have HU6 := Lib.hid (own_entries ho)
      have HX6 := Lib.hid (HX5.out.below hb)
      have HY6 := Lib.hid (HY5.out.below hb)
      have HB6 := Lib.hid (HB5.out.trans (hb.mono HB5.out.size))
      clear ho hb HX5 HY5 HB5
      go_wp2_with fail
      refine (HEN.out _ _ _ HY6.out).mono ?_
      rintro e w7 ⟨u2, rfl, ho, hb⟩
      have HS7 := Lib.hid (HSM.out u1 u2 w7 (HU6.out.below hb) (own_entries ho))
      have HX7 := Lib.hid (HX6.out.below hb)
      have HY7 := Lib.hid (HY6.out.below hb)
      have HB7 := Lib.hid (HB6.out.trans (hb.mono HB6.out.size))
      clear ho hb HX6 HY6 HB6 HU6
      go_wp2_with fail
      refine HS7.out.mono ?_
      rintro e w8 ⟨rfl, hg⟩
      have HX8 := Lib.hid (HX7.out.below hg.below)
      have HY8 := Lib.hid (HY7.out.below hg.below)
      have HB8 := Lib.hid (HB7.out.trans (hg.below.mono HB7.out.size))
      clear hg HX7 HY7 HB7 HS7
      go_wp2_with fail
      refine (HBT.out _ _ _ HX8.out).mono ?_
      rintro e w9 ⟨u3, rfl, ho, hb⟩
      have HU9 := Lib.hid (Own.at ho)
      have HY9 := Lib.hid (HY8.out.below hb)
      have HB9 := Lib.hid (HB8.out.trans (hb.mono HB8.out.size))
      clear ho hb HX8 HY8 HB8
      go_wp2_with fail
      refine (HBT.out _ _ _ HY9.out).mono ?_
      rintro e w10 ⟨u4, rfl, ho, hb⟩
      have HI10 := Lib.hid (HIN.out u3 u4 w10 (HU9.out.below hb) (Own.at ho))
      have HB10 := Lib.hid (HB9.out.trans (hb.mono HB9.out.size))
      clear ho hb HU9 HY9 HB9
      go_wp2_with fail
      refine HI10.out.mono ?_
      rintro e w11 ⟨rfl, hb⟩
      have HB11 := Lib.hid (HB10.out.trans (hb.mono HB10.out.size))
      clear hb HB10 HI10
      go_wp2_with fail
      refine (awake_yes _).mono ?_
      rintro e w12 ⟨rfl, hb⟩
      have HB12 := Lib.hid (HB11.out.trans (hb.mono HB11.out.size))
      clear hb HB11
      go_wp2_with fail
      go_ret
      exact ⟨rfl, HB12.out⟩
section
variable {H : Type}
theorem bulk_all : ∀ L : List En, L.length ≤ Rows.uptoBulkAll (L.map (enD (H := H)))
  | [] => Nat.zero_le _
  | x :: L => by
    have := bulk_all L
    simp only [List.map_cons, List.length_cons, Rows.uptoBulkAll, enD, Rows.uptoBulk]
    omega
theorem bulk_ens {d : DataW H} {L : List En} (h : (d = .nil ∧ L = []) ∨ ∃ rest, d = .slice (L.map enD) rest) : L.length ≤ Rows.uptoBulk d := by
  rcases h with ⟨_, rfl⟩ | ⟨rest, rfl⟩
  · exact Nat.zero_le _
  · have := bulk_all (H := H) L
    simp only [Rows.uptoBulk]
    omega
end
end Rn
end Go.Proofs.Ytioidkbpjkcjeaa
