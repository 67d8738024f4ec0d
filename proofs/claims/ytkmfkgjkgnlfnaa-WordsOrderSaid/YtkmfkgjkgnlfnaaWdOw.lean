/- The walk of the law WordsOrder over the program. Conditions: those that each theorem names. -/
import Derived.Test.YtkmfkgjkgnlfnaaWdOd
namespace Go.Proofs.Ytkmfkgjkgnlfnaa
set_option linter.unusedVariables false
namespace Wd
open Go Go.RowKit Go.Shelf Go.Sort Go.Maps Pq Pq.Pl Rk Ids
def OneW (w : World) (Z : List Zp) (k : Nat) (o : Value) (wr : World) : Prop := OwnP wr w.heap.size o (oneZ (Z.take k)) ∧ Below w.heap.size w wr
def TurW (w w1 : World) (O : List Zp) (m : Nat) (o : Value) (wr : World) : Prop := OwnP wr w1.heap.size o (O.drop m).reverse ∧ Below w1.heap.size w1 wr
theorem any_take {O : List Zp} {p : Zp → Bool} {m : Nat} (hm : m < O.length) : (O.take (m + 1)).any p = ((O.take m).any p || p O[m]) := by
  rw [List.take_add_one, List.getElem?_eq_getElem hm, List.any_append]
  simp only [Option.toList, List.any_cons, List.any_nil, Bool.or_false]
theorem tur_next {O : List Zp} {m : Nat} (hm : m < O.length) : (O.drop m).reverse = (O.drop (m + 1)).reverse ++ [O[m]] := by
  rw [List.drop_eq_getElem_cons hm, List.reverse_cons]
theorem wrap_m {n m : Nat} (h : n ≤ maxLen) (hm : m ≤ n) : wrap64 ((m : Int) - 1) = (m : Int) - 1 := by
  unfold maxLen at h; unfold wrap64; omega
set_option maxHeartbeats 8000000 in
set_option maxRecDepth 100000 in
theorem order_any (v0 : Value) (l0 : List Pt) (a1 : Nm) (w : World) (wf0 : PtsAt w v0 l0) (s0 : OkA l0) :
    Calls Try.prog 6 #[v0, .string a1] w fun e w' => e = .returned (.bool true) ∧ Below w.heap.size w w' := by
  obtain ⟨Z, hrow, rfl, hgood⟩ := pts_pairs wf0
  have HZ : Hid (Z.length * 56 ≤ 140737488351232 ∧ ∀ z ∈ Z, OkP z.2) := Lib.hid ⟨by have := s0.len; simpa [ptsZ] using this, fun z hz => s0.ok _ (List.mem_map.2 ⟨z, hz, rfl⟩)⟩
  have HLZ : Hid (Z.length ≤ maxLen) := Lib.hid (by have := HZ.out.1; unfold maxLen; omega)
  have HROW := Lib.hid hrow
  have HGOOD := Lib.hid hgood
  obtain ⟨p0, c0, rfl⟩ : ∃ p c, v0 = .slice p Z.length c := by have := hrow.form; rwa [rowsZ_len] at this
  clear wf0 s0 hrow hgood
  go_enter Try.func6, Try.ntmps6
  go_wp2_with fail
  go_loopw [5, 7] (fun o i wr => ∃ k : Nat, k ≤ Z.length ∧ i = .int .i64 k ∧ OneW w Z k o wr) (fun _ i _ => Z.length - (RowKit.intOf i).toNat)
  case atStart => exact ⟨0, Nat.zero_le _, rfl, Rk.own_none _ _, Below.refl _ _⟩
  case round =>
    obtain ⟨k, hk, rfl, ho, hb⟩ := hrel
    have HO := Lib.hid ho
    have HB := Lib.hid hb
    obtain ⟨po, co, rfl⟩ := ownP_form ho
    obtain ⟨wo, rfl⟩ : ∃ wo : World, wo = wr := ⟨_, rfl⟩
    by_cases hlt : k < Z.length
    · obtain ⟨g, off, cz, ev, hg, hv⟩ := rowP_at HROW.out (by omega)
      injection ev with ev1 ev2 ev3
      subst ev1
      have HC := Lib.hid (fun (W : World) (hW : Below w.heap.size w W) => hv W (hW.block g hg) k hlt)
      have HN := Lib.hid (oneZ_next hlt)
      have HLO := Lib.hid (oneZ_len Z k)
      have hid : (Z[k]).1.id = keyZ Z[k] := (HGOOD.out _ (List.getElem_mem hlt)).1
      rw [hid] at HC
      have hklt : (k : Int) < (Z.length : Int) := by omega
      have HMEM := Lib.hid (oneZ_good (w := w) (Z := Z.take k) (fun z hz => HGOOD.out z (List.mem_of_mem_take hz)))
      generalize oneZ (Z.take k) = O at *
      have HZK := Lib.hid (rfl : Z[k] = Z[k])
      obtain ⟨z, hz⟩ : ∃ z, z = Z[k] := ⟨_, rfl⟩
      rw [← hz] at HC HN
      have HZK := Lib.hid hz
      obtain ⟨rid, hrid⟩ : ∃ rid, rid = keyZ z := ⟨_, rfl⟩
      rw [← hrid] at HC HN
      have HZID : Hid (z.1.id = rid) := Lib.hid (by rw [hz, hid, hrid, hz])
      have HLO2 : Hid (O.length ≤ maxLen) := Lib.hid (by have := HLO.out; have := HLZ.out; omega)
      clear hv ev2 ev3 hg hid hz hb ho hrid
      go_wp2_with fail
      go_loopw [8, 9] (fun t i wx => ∃ m : Nat, m ≤ O.length ∧ i = .int .i64 m ∧ t = .bool ((O.take m).any fun y => decide (keyZ y = rid)) ∧ Dr wo wx) (fun _ i _ => O.length - (RowKit.intOf i).toNat)
      case atStart => exact ⟨0, Nat.zero_le _, rfl, rfl, Dr.refl _⟩
      case round =>
        obtain ⟨m, hm, rfl, rfl, hdr⟩ := hrel
        have HDR := Lib.hid hdr
        by_cases hlm : m < O.length
        · obtain ⟨g1, cap, epo, hg1, hc1⟩ := ownP_at HO.out (by omega)
          injection epo with ep1 ep2 ep3
          subst ep1
          have hml : (m : Int) < (O.length : Int) := by omega
          have HN2 := Lib.hid (any_take (p := fun y => decide (keyZ y = rid)) hlm)
          have e0 := (hc1 wr (hdr.block g1) m hlm).1
          have e1 := (HC.out wr (HB.out.trans (hdr.2.mono HB.out.size))).1
          rw [show (O[m]).1.id = keyZ O[m] from (HMEM.out _ (List.getElem_mem hlm)).1] at e0
          obtain ⟨b, hb⟩ : ∃ b, b = (O.take m).any fun y => decide (keyZ y = rid) := ⟨_, rfl⟩
          rw [← hb] at HN2 ⊢
          generalize keyZ O[m] = xid at *
          clear hc1 hg1 ep2 ep3 hb hdr
          cases b with
          | true =>
            rw [Bool.true_or] at HN2
            go_wp2_with fail
            go_region
            go_wp2_with fail
            go_roundw
            case rel => exact ⟨m + 1, by omega, congrArg _ (wrap_s HLO2.out hlm), by rw [HN2.out], HDR.out.drew⟩
            case measure =>
              rw [wrap_s HLO2.out hlm]
              exact int_lessV hlm
          | false =>
            rw [Bool.false_or] at HN2
            by_cases he : xid = rid
            · subst he
              go_wp2_with fail
              go_quiet (fail)
              go_wp2_with fail
              go_roundw
              case rel => exact ⟨m + 1, by omega, congrArg _ (wrap_s HLO2.out hlm), by rw [HN2.out]; simp, HDR.out.drewN _⟩
              case measure =>
                rw [wrap_s HLO2.out hlm]
                exact int_lessV hlm
            · have hne : (xid == rid) = false := by simpa using he
              go_wp2_with fail
              go_quiet (fail)
              go_wp2_with fail
              go_roundw
              case rel => exact ⟨m + 1, by omega, congrArg _ (wrap_s HLO2.out hlm), by rw [HN2.out]; simp [he], HDR.out.drewN _⟩
              case measure =>
                rw [wrap_s HLO2.out hlm]
                exact int_lessV hlm
        · obtain rfl : m = O.length := by omega
          rw [List.take_length] at *
          obtain ⟨wi, rfl⟩ : ∃ wi : World, wi = wr := ⟨_, rfl⟩
          have HBI := Lib.hid (HB.out.trans (hdr.2.mono HB.out.size))
          have HOI := Lib.hid (Rk.own_below HO.out hdr.2)
          obtain ⟨e0, e1, e2⟩ := HC.out wi HBI.out
          obtain ⟨b, hb⟩ : ∃ b, b = O.any fun y => decide (keyZ y = rid) := ⟨_, rfl⟩
          rw [← hb] at HN ⊢
          clear hb hdr
          cases b with
          | true =>
            rw [if_pos rfl] at HN
            go_wp2_with fail
            go_roundw
            case rel => exact ⟨k + 1, by omega, congrArg _ (wrap_s HLZ.out hlt), by unfold OneW; rw [HN.out]; exact ⟨HOI.out, HBI.out⟩⟩
            case measure =>
              rw [wrap_s HLZ.out hlt]
              exact int_lessV hlt
          | false =>
            rw [if_neg (by decide)] at HN
            obtain ⟨v', W', hap, ho', hb'⟩ := appendP HOI.out z (by have := HLO.out; have := HZ.out.1; omega) HBI.out.size
            have HX : Hid (OneW w Z (k + 1) v' W') := Lib.hid (by unfold OneW; rw [HN.out]; exact ⟨ho', HBI.out.trans (hb' _ (Nat.le_refl _))⟩)
            obtain ⟨⟨zid, ⟨vp, vn, vc⟩, ⟨fp, fn, fc⟩⟩, zp⟩ := z
            have hzid := HZID.out
            simp only at e0 e1 e2 hap hzid
            subst hzid
            clear ho' hb'
            go_wp2_with (at_builtin; refine wpList_append_run (by rfl) _ _ _ _ (by rfl) _ _ v' W' (by rfl) (by rfl) hap ?_)
            go_roundw
            case rel => exact ⟨k + 1, by omega, congrArg _ (wrap_s HLZ.out hlt), HX.out⟩
            case measure =>
              rw [wrap_s HLZ.out hlt]
              exact int_lessV hlt
    · obtain rfl : k = Z.length := by omega
      rw [List.take_length] at *
      have HGO := Lib.hid (oneZ_good HGOOD.out)
      have HRL := Lib.hid (rl_nodup Z a1)
      have HBR := Lib.hid (fun (R1 R2 : List (Rw Val)) (h1 : ∀ y, y ∈ R1 ↔ y ∈ rowsL (rlOf (ptsZ (oneZ Z)) a1)) (h2 : ∀ y, y ∈ R2 ↔ y ∈ rowsL (rlOf (ptsZ (oneZ Z).reverse) a1)) => both_rows Z a1 h1 h2)
      have HLO := Lib.hid (one_length keyZ Z)
      have HOK : Hid (∀ p ∈ ptsZ (oneZ Z), OkP p) := Lib.hid (fun p hp => by
        obtain ⟨z, hz, rfl⟩ := List.mem_map.1 hp
        exact HZ.out.2 z (one_mem keyZ hz))
      change Hid ((oneZ Z).length ≤ Z.length) at HLO
      generalize oneZ Z = O at *
      have HOL : Hid (O.length ≤ maxLen) := Lib.hid (by have := HLO.out; have := HLZ.out; omega)
      clear ho hb
      go_wp2_with fail
      go_loopw [6, 10] (fun o i wx => ∃ m : Nat, m ≤ O.length ∧ i = .int .i64 ((m : Int) - 1) ∧ TurW w wo O m o wx) (fun _ i _ => (RowKit.intOf i + 1).toNat)
      case atStart => exact ⟨O.length, Nat.le_refl _, congrArg _ (wrap_m HOL.out (Nat.le_refl _)), by unfold TurW; rw [List.drop_length]; exact ⟨Rk.own_none _ _, Below.refl _ _⟩⟩
      case round =>
        obtain ⟨m, hm, rfl, ht⟩ := hrel
        have HT := Lib.hid ht
        obtain ⟨wt, rfl⟩ : ∃ wt : World, wt = wr := ⟨_, rfl⟩
        cases m with
        | succ m =>
          rw [show (((m + 1 : Nat) : Int) - 1) = (m : Int) by omega]
          obtain ⟨g1, cap, epo, hg1, hc1⟩ := ownP_at HO.out (by omega)
          injection epo with ep1 ep2 ep3
          subst ep1
          have hml : (m : Int) < (O.length : Int) := by omega
          have hge : decide ((0 : Int) ≤ (m : Int)) = true := by simp
          obtain ⟨c0, c1, c2⟩ := hc1 wt (ht.2.block g1 hg1) m (by omega)
          have HTN := Lib.hid (tur_next (O := O) (m := m) (by omega))
          obtain ⟨v', W', hap, ho', hb'⟩ := appendP ht.1 O[m] (by have := HLO.out; have := HZ.out.1; simp; omega) ht.2.size
          have HX : Hid (TurW w wo O m v' W') := Lib.hid (by unfold TurW; rw [HTN.out]; exact ⟨ho', ht.2.trans (hb' _ (Nat.le_refl _))⟩)
          generalize O[m] = z at *
          obtain ⟨⟨zid, ⟨vp, vn, vc⟩, ⟨fp, fn, fc⟩⟩, zp⟩ := z
          simp only at c0 c1 c2 hap
          clear ht ho' hb' hc1 hg1 ep2 ep3
          go_wp2_with (at_builtin; refine wpList_append_run (by rfl) _ _ _ _ (by rfl) _ _ v' W' (by rfl) (by rfl) hap ?_)
          go_roundw
          case rel => exact ⟨m, by omega, congrArg _ (wrap_m HOL.out (by omega)), HX.out⟩
          case measure =>
            rw [wrap_m HOL.out (show m ≤ O.length by omega)]
            simp only [RowKit.intOf]
            omega
        | zero =>
          rw [show (((0 : Nat) : Int) - 1) = -1 by rfl]
          have hlt2 : decide ((0 : Int) ≤ -1) = false := by decide
          have ht' := ht
          unfold TurW at ht'
          rw [List.drop_zero] at ht'
          obtain ⟨pt, ct, et⟩ := ownP_form ht'.1
          rw [List.length_reverse] at et
          subst et
          have HT' := Lib.hid ht'
          have HBT := Lib.hid (HB.out.trans (ht.2.mono HB.out.size))
          have HBU1 := Lib.hid (build_any (ptsZ O) _ a1 wt (pts_own (Rk.own_below HO.out ht.2) HGO.out HBT.out) (by have := HLO.out; have := HZ.out.1; simp [ptsZ]; omega) HOK.out)
          clear ht ht' HT
          go_wp2_with fail
          refine HBU1.out.mono ?_
          rintro e w1 ⟨B1, R1, rfl, hix1, hm1, hb1⟩
          have HIX1 := Lib.hid hix1
          have HB1 := Lib.hid (HBT.out.trans (hb1.mono HBT.out.size))
          have HBU2 := Lib.hid (build_any (ptsZ O.reverse) _ a1 w1 (pts_own (Rk.own_below HT'.out.1 hb1) (fun z hz => HGO.out z (List.mem_reverse.1 hz)) HB1.out) (by have := HLO.out; have := HZ.out.1; simp [ptsZ]; omega) (fun p hp => HOK.out p (by simpa [ptsZ] using hp)))
          have HM1 := Lib.hid hm1
          clear hix1 hb1 hm1
          go_wp2_with fail
          refine HBU2.out.mono ?_
          rintro e w2 ⟨B2, R2, rfl, hix2, hm2, hb2⟩
          have HE := Lib.hid (HBR.out R1 R2 HM1.out hm2)
          have HIX2 := Lib.hid hix2
          have HIX1' := Lib.hid (HIX1.out.below hb2)
          have HB2 := Lib.hid (HB1.out.trans (hb2.mono HB1.out.size))
          clear hix2 hm2 hb2
          have HR : Hid (R1.length * 56 ≤ 140737488355328 ∧ ∀ r ∈ R1, ∀ v, r.2 = some v → OkV v) := Lib.hid (by
            obtain ⟨M, G, rb, h1, h2, h3, h4, h5, h6, h7, h8, h9, h10⟩ := HIX1.out
            exact ⟨h9, h10⟩)
          have HLA : Hid ((anyL R1).length ≤ maxLen) := Lib.hid (by have := any_len' R1; have := HR.out.1; unfold maxLen; omega)
          have HLV : Hid ((valsL ltV R1).length ≤ maxLen) := Lib.hid (by have := valsL_length ordV R1; have := HR.out.1; unfold maxLen; omega)
          have HA1 := Lib.hid (any_any HIX1'.out)
          go_wp2_with fail
          refine HA1.out.mono ?_
          rintro e w3 ⟨q1, rfl, ho3, hb3⟩
          have HO3 := Lib.hid ho3
          have HB3 := Lib.hid hb3
          have HA2 := Lib.hid (any_any (HIX2.out.below hb3))
          rw [← HE.out.2.1] at HA2
          clear ho3 hb3
          go_wp2_with fail
          refine HA2.out.mono ?_
          rintro e w4 ⟨q2, rfl, ho4, hb4⟩
          have HB4 := Lib.hid (HB3.out.trans (hb4.mono HB3.out.size))
          have HID := Lib.hid (ids_any (anyL R1) (anyL R1) q1 q2 w4 (HO3.out.at.below hb4) ho4.at HLA.out HLA.out)
          rw [eqB_same] at HID
          clear ho4 hb4
          go_wp2_with fail
          refine HID.out.mono ?_
          rintro e w5 ⟨rfl, hb5⟩
          have HB5 := Lib.hid (HB4.out.trans (hb5.mono HB4.out.size))
          have HV1 := Lib.hid (values_any (HIX1'.out.below HB5.out))
          clear hb5
          go_wp2_with fail
          refine HV1.out.mono ?_
          rintro e w6 ⟨q3, rfl, ho6, hb6⟩
          have HO6 := Lib.hid ho6
          have HB6 := Lib.hid (HB5.out.trans (hb6.mono HB5.out.size))
          have HV2 := Lib.hid (values_any (HIX2.out.below HB6.out))
          rw [← HE.out.2.2] at HV2
          clear ho6 hb6
          go_wp2_with fail
          refine HV2.out.mono ?_
          rintro e w7 ⟨q4, rfl, ho7, hb7⟩
          have HB7 := Lib.hid (HB6.out.trans (hb7.mono HB6.out.size))
          have HSM := Lib.hid (rsame_any (valsL ltV R1) (valsL ltV R1) q3 q4 w7 ((own_row flatV HO6.out).below hb7) (own_row flatV ho7) HLV.out)
          rw [decide_eq_true rfl] at HSM
          clear ho7 hb7
          go_wp2_with fail
          refine HSM.out.mono ?_
          rintro e w8 ⟨rfl, hb8⟩
          have HB8 := Lib.hid (HB7.out.trans (hb8.mono HB7.out.size))
          have HV3 := Lib.hid (values_any (HIX1'.out.below HB8.out))
          clear hb8
          go_wp2_with fail
          refine HV3.out.mono ?_
          rintro e w9 ⟨q5, rfl, ho9, hb9⟩
          have HB9 := Lib.hid (HB8.out.trans (hb9.mono HB8.out.size))
          have HO9 := Lib.hid ho9
          obtain ⟨pv, cv, rfl⟩ := (own_row flatV ho9).form
          clear ho9 hb9
          go_wp2_with fail
          have HX1 : Hid (∀ W, Below w9.heap.size w9 W → IxAt W wt.heap.size B1 R1) := Lib.hid (fun W hW => (HIX1'.out.below HB9.out).below hW)
          have HX2 : Hid (∀ W, Below w9.heap.size w9 W → IxAt W w1.heap.size B2 R2) := Lib.hid (fun W hW => (HIX2.out.below HB9.out).below hW)
          have HW9 : Hid (Below w.heap.size w w9) := Lib.hid (HB2.out.trans (HB9.out.mono HB2.out.size))
          go_loopw [14] (fun i wx => ∃ k : Nat, k ≤ (valsL ltV R1).length ∧ i = .int .i64 k ∧ Below w9.heap.size w9 wx) (fun i _ => (valsL ltV R1).length - (RowKit.intOf i).toNat)
          case atStart => exact ⟨0, Nat.zero_le _, rfl, Below.refl _ _⟩
          case round =>
            obtain ⟨k, hk, rfl, hb⟩ := hrel
            have HBK := Lib.hid hb
            by_cases hlt : k < (valsL ltV R1).length
            · obtain ⟨g, cap, ev, hg, hv⟩ := cells3_ownV HO9.out (by omega)
              injection ev with ev1 ev2 ev3
              subst ev1
              have hbd := hb.drew
              have HOKV : Hid (OkV (valsL ltV R1)[k]) := Lib.hid (by
                obtain ⟨i, hi⟩ := (mem_valsL ordV).1 (List.getElem_mem hlt)
                exact HR.out.2 _ hi _ rfl)
              have HC := Lib.hid (fun (W : World) (hW : Below w9.heap.size w9 W) => hv W (hW.block g hg) k hlt)
              have hklt : (k : Int) < ((valsL ltV R1).length : Int) := by omega
              generalize (valsL ltV R1)[k] = x at *
              have HLF : Hid ((findL R1 x).length ≤ maxLen) := Lib.hid (by
                have h1 : (findL R1 x).length ≤ R1.length := by have := findL_len R1 x R1.length; rwa [List.take_length] at this
                have := HR.out.1
                unfold maxLen
                omega)
              have CF : Hid (∀ (W : World) (B : Nat), (B = B1 ∨ B = B2) → Below w9.heap.size w9 W → Calls Try.prog 11 #[.pointer (some ⟨B, 0, none⟩), vv x] W fun e w' => ∃ u, e = .returned u ∧ Go.Proofs.Ytkmfkgjkgnlfnaa.IntsAt w' u (findL R1 x) ∧ (∀ v, Go.Proofs.Ytkmfkgjkgnlfnaa.IntsAt W v (findL R1 x) → Go.Proofs.Ytkmfkgjkgnlfnaa.IntsAt w' v (findL R1 x)) ∧ Below W.heap.size W w') := Lib.hid (fun W B hB hW => by
                rcases hB with rfl | rfl
                · exact (find_any (HX1.out W hW) x HOKV.out).mono fun e w' ⟨u, h1, h2, h3⟩ => ⟨u, h1, h2.at, fun v hv => hv.below h3, h3⟩
                · have h := find_any (HX2.out W hW) x HOKV.out
                  rw [← HE.out.1 x] at h
                  exact h.mono fun e w' ⟨u, h1, h2, h3⟩ => ⟨u, h1, h2.at, fun v hv => hv.below h3, h3⟩)
              have CI : Hid (∀ (W : World) (u v : Value), Go.Proofs.Ytkmfkgjkgnlfnaa.IntsAt W u (findL R1 x) → Go.Proofs.Ytkmfkgjkgnlfnaa.IntsAt W v (findL R1 x) → Calls Try.prog 10 #[u, v] W fun e w' => e = .returned (.bool true) ∧ Below W.heap.size W w') := Lib.hid (fun W u v hu hv => by
                have h := ids_any _ _ u v W hu hv HLF.out HLF.out
                rw [eqB_same] at h
                exact h)
              obtain ⟨xk, xn, xt⟩ := x
              generalize findL R1 ⟨xk, xn, xt⟩ = F at *
              simp only at HC
              have hS : wr.drew.cell? ⟨g, k * 3, none⟩ = some (.int .i64 xk) ∧ wr.drew.cell? ⟨g, k * 3 + 1, none⟩ = some (.int .i64 xn) ∧ wr.drew.cell? ⟨g, k * 3 + 2, none⟩ = some (.string xt) ∧ Below w9.heap.size w9 wr.drew := ⟨(HC.out _ hbd).1, (HC.out _ hbd).2.1, (HC.out _ hbd).2.2, hbd⟩
              have HK := Lib.hid (fun (y z : World) (b1 : Below w9.heap.size w9 y) (b2 : Below y.heap.size y z) => show z.cell? ⟨g, k * 3, none⟩ = some (.int .i64 xk) ∧ z.cell? ⟨g, k * 3 + 1, none⟩ = some (.int .i64 xn) ∧ z.cell? ⟨g, k * 3 + 2, none⟩ = some (.string xt) ∧ Below w9.heap.size w9 z from by
                have b4 := b1.trans (b2.mono b1.size)
                exact ⟨(HC.out _ b4).1, (HC.out _ b4).2.1, (HC.out _ b4).2.2, b4⟩)
              have HBEL := Lib.hid (fun (z : World) (h : z.cell? ⟨g, k * 3, none⟩ = some (.int .i64 xk) ∧ z.cell? ⟨g, k * 3 + 1, none⟩ = some (.int .i64 xn) ∧ z.cell? ⟨g, k * 3 + 2, none⟩ = some (.string xt) ∧ Below w9.heap.size w9 z) => h.2.2.2)
              clear hv ev2 ev3 hg hb hbd
              go_wp2_with fail
              go_region_held3 (fun x => x.cell? ⟨g, k * 3, none⟩ = some (.int .i64 xk) ∧ x.cell? ⟨g, k * 3 + 1, none⟩ = some (.int .i64 xn) ∧ x.cell? ⟨g, k * 3 + 2, none⟩ = some (.string xt) ∧ Below w9.heap.size w9 x) (first | assumption | exact HK.out _ _ (by assumption) hb3 | exact HK.out _ _ (HBEL.out _ (by assumption)) hb3)
                (first
                  | (go_at_call 11; refine (CF.out _ _ (by first | exact .inl rfl | exact .inr rfl) (by first | assumption | exact HBEL.out _ (by assumption))).mono ?_; rintro e wk ⟨u, rfl, hi, ht, hb3⟩; (first | (have hj := ht _ (by assumption)) | skip))
                  | (go_at_call 10; refine (CI.out _ _ _ (by assumption) (by assumption)).mono ?_; rintro e wk ⟨rfl, hb3⟩))
              have HBF := Lib.hid (HBEL.out _ (by assumption))
              go_wp2_with fail
              go_roundw
              case rel => exact ⟨k + 1, by omega, congrArg _ (wrap_s HLV.out hlt), HBF.out⟩
              case measure =>
                rw [wrap_s HLV.out hlt]
                exact int_lessV hlt
            · obtain rfl : k = (valsL ltV R1).length := by omega
              have HSU := Lib.hid (sure_any wr)
              clear hb
              go_wp2_with fail
              refine HSU.out.mono ?_
              rintro e wz ⟨rfl, hbz⟩
              have HBZ := Lib.hid (HBK.out.trans (hbz.mono HBK.out.size))
              clear hbz
              go_wp2_with fail
              go_ret
              exact ⟨rfl, HW9.out.trans (HBZ.out.mono HW9.out.size)⟩
end Wd
end Go.Proofs.Ytkmfkgjkgnlfnaa
