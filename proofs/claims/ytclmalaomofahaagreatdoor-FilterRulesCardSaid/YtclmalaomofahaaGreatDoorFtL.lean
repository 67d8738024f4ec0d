/- The ids of the points that pass, by the program and by the document. Conditions: those that each theorem names. -/
import Derived.Test.YtclmalaomofahaaGreatDoorFtK
import Derived.Test.YtclmalaomofahaaGreatDoorIdQ
import Derived.Deep.DeepCutAuto
namespace Go.Proofs.YtclmalaomofahaaGreatDoor
set_option linter.unusedVariables false
namespace Ft
open Go Go.RowKit Go.Shelf Go.Sort Pq Pq.Pl Px Ids
/-- The ids of the points that pass, in their order. -/
def idsOf (c : Cd) (L : List Pt) : List Int := (L.filter fun p => pass p.flds c).map fun p => p.id
theorem idsOf_next {c : Cd} {L : List Pt} {q : Nat} (h : q < L.length) : idsOf c (L.take (q + 1)) = idsOf c (L.take q) ++ (if pass (L[q]).flds c then [(L[q]).id] else []) := by
  unfold idsOf
  rw [List.take_add_one, List.getElem?_eq_getElem h, List.filter_append, List.map_append]
  simp only [Option.toList_some, List.filter_cons, List.filter_nil]
  split <;> rfl
theorem idsOf_len (c : Cd) (L : List Pt) : (idsOf c L).length ≤ L.length := by unfold idsOf; rw [List.length_map]; exact List.length_filter_le _ _
theorem wrap_p {n k : Nat} (h : n * 56 ≤ 140737488355328) (hk : k < n) : wrap64 ((k : Int) + 1) = ((k + 1 : Nat) : Int) := by unfold wrap64; omega
/-- A row of points, each of bearable size. -/
structure OkL (L : List Pt) : Prop where
  len : L.length * 56 ≤ 140737488355328
  ok : ∀ p ∈ L, FldsOk p.flds
set_option maxHeartbeats 2000000 in
set_option maxRecDepth 100000 in
theorem ids_any (c : Cd) (r : Rc) (L : List Pt) (v : Value) (w : World) (h : CdW (fun _ => True) w c r) (hbig : Big c) (hL : PtsAt w v L) (hok : OkL L) :
    Calls Tryz.prog 17 #[cv r, v] w fun e w' => ∃ u, e = .returned u ∧ Own w' w.heap.size u (setL (idsOf c L)) ∧ Below w.heap.size w w' := by
  have HL := Lib.hid hL
  have HO := Lib.hid hok
  have HC0 := Lib.hid h
  have HBG := Lib.hid hbig
  have HA := Lib.hid (Rk.fresh_alloc w (cobj r))
  have HZ := Lib.hid (Rk.heap_last w (cobj r))
  obtain ⟨lp, lc, rfl⟩ := hL.form
  clear h hbig hL hok
  obtain ⟨k0, k1, ⟨k2, k3, k4⟩, k5, k6, ⟨k7, k8, k9⟩⟩ := r
  obtain ⟨w1, hw1⟩ : ∃ w1, w1 = w.alloc (cobj ⟨k0, k1, ⟨k2, k3, k4⟩, k5, k6, ⟨k7, k8, k9⟩⟩) := ⟨_, rfl⟩
  rw [← hw1] at HA HZ
  go_enter Tryz.func17, Tryz.ntmps17
  go_wp2_with fail
  rw [← hw1]
  clear hw1
  go_loopw [5, 7, 10] (fun a pb i wr => ∃ q : Nat, q ≤ L.length ∧ i = .int .i64 q ∧ Own wr w1.heap.size a (idsOf c (L.take q)) ∧ Below w1.heap.size w1 wr) (fun _ _ i _ => L.length - (intOf i).toNat)
  case atStart => exact ⟨0, Nat.zero_le _, rfl, by simpa [idsOf] using own_nil w1 w1.heap.size, Below.refl _ _⟩
  case round =>
    obtain ⟨q, hq, rfl, ho, hb⟩ := hrel
    have HOW := Lib.hid ho
    have HBW := Lib.hid hb
    have HBX := Lib.hid (HA.out.trans (hb.mono HA.out.size))
    obtain ⟨wo, rfl⟩ : ∃ wo : World, wo = wr := ⟨_, rfl⟩
    clear ho hb
    by_cases hlt : q < L.length
    · obtain ⟨g, off, c', ev, hg, hc⟩ := pts_at (HL.out.below HBX.out) (fun p c e => by injection e with _ e; omega)
      injection ev with ev1 ev2 ev3
      subst ev1
      obtain ⟨⟨ri, ⟨vp, vn, vc⟩, ⟨fp, fn, fc⟩⟩, ⟨hid, _, hflds⟩, hcell⟩ := hc q hlt
      obtain ⟨c0, c1, c2⟩ := hcell wo rfl
      simp only [slv] at c0 c1 c2 hid hflds
      have HAL := Lib.hid (Rk.fresh_alloc wo (pbox ⟨ri, ⟨vp, vn, vc⟩, ⟨fp, fn, fc⟩⟩))
      have hz1 := (Rk.heap_old wo (pbox ⟨ri, ⟨vp, vn, vc⟩, ⟨fp, fn, fc⟩⟩) (Nat.lt_of_lt_of_le (Rk.lt_of_block HZ.out) HBW.out.size)).trans ((HBW.out.block _ (Rk.lt_of_block HZ.out)).trans HZ.out)
      obtain ⟨a0, a1, a2, a3, a4, a5, a6, a7⟩ := cells8 hz1
      simp only at a0 a1 a2 a3 a4 a5 a6 a7
      have HC := Lib.hid (pass_any c (L[q]).flds ⟨k0, k1, ⟨k2, k3, k4⟩, k5, k6, ⟨k7, k8, k9⟩⟩ ⟨ri, ⟨vp, vn, vc⟩, ⟨fp, fn, fc⟩⟩ _ ((HC0.out.below HBX.out).below HAL.out) HBG.out (hflds.below HAL.out) (HO.out.ok _ (List.getElem_mem hlt)))
      have HPB := Lib.hid (Rk.heap_last wo (pbox ⟨ri, ⟨vp, vn, vc⟩, ⟨fp, fn, fc⟩⟩))
      have HID := Lib.hid hid
      have hqn : (q : Int) < (L.length : Int) := by omega
      have HLT := Lib.hid hlt
      obtain ⟨b, hbb⟩ : ∃ b, b = pass (L[q]).flds c := ⟨_, rfl⟩
      change Hid (Calls _ _ _ _ fun e w' => e = Ending.returned (Value.bool (pass (L[q]).flds c)) ∧ _) at HC
      rw [← hbb] at HC
      have HNX : Hid (idsOf c (L.take (q + 1)) = idsOf c (L.take q) ++ (if b then [ri] else [])) := Lib.hid (by rw [hbb, hid]; exact idsOf_next hlt)
      clear hbb hc hcell hflds hg hz1 ev2 ev3 hid
      go_wp2_with fail
      refine HC.out.mono ?_
      clear HC
      rintro e w3 ⟨rfl, hb3⟩
      have HB3 := Lib.hid (HAL.out.trans (hb3.mono HAL.out.size))
      have HBN := Lib.hid (HBW.out.trans (HB3.out.mono HBW.out.size))
      obtain ⟨d0, d1, d2⟩ := cells3 ((hb3.block _ (Rk.lt_of_block HPB.out)).trans HPB.out)
      have HO3 := Lib.hid (Go.Proofs.YtclmalaomofahaaGreatDoor.own_below HOW.out HB3.out)
      clear hb3 a0 a1 a2 a3 a4 a5 a6 a7
      cases hbv : b
      · rw [hbv] at HNX
        simp only [Bool.false_eq_true, if_false, List.append_nil] at HNX
        go_wp2_with fail
        go_roundw
        case rel => exact ⟨q + 1, HLT.out, congrArg _ (wrap_p HO.out.len HLT.out), by rw [HNX.out]; exact HO3.out, HBN.out⟩
        case measure =>
          rw [wrap_p HO.out.len HLT.out]
          exact int_lessV HLT.out
      · rw [hbv] at HNX
        simp only [if_true] at HNX
        obtain ⟨v', w4, hap, ho4, hb4⟩ := append_one ri HO3.out (by have h1 := idsOf_len c (L.take q); have h2 := HO.out.len; have h3 := HLT.out; rw [List.length_take] at h1; omega) HBN.out.size
        have HO4 := Lib.hid ho4
        have HB4 := Lib.hid (HBN.out.trans hb4)
        clear ho4 hb4
        go_wp2_with (first | (at_builtin; refine wpList_append_run (by rfl) _ _ _ _ (by rfl) _ _ v' w4 (by rfl) (by rfl) hap ?_))
        go_roundw
        case rel => exact ⟨q + 1, HLT.out, congrArg _ (wrap_p HO.out.len HLT.out), by rw [HNX.out]; exact HO4.out, HB4.out⟩
        case measure =>
          rw [wrap_p HO.out.len HLT.out]
          exact int_lessV HLT.out
    · obtain rfl : q = L.length := by omega
      have ho := HOW.out
      rw [List.take_length] at ho
      have HLN : Hid ((idsOf c L).length < 4611686018427387904) := Lib.hid (by have := idsOf_len c L; have := HO.out.len; omega)
      have HS := Lib.hid (sort_own _ _ w1.heap.size wo ho HBW.out.size HLN.out)
      clear ho
      go_wp2_with fail
      refine HS.out.mono ?_
      clear HS
      rintro e w3 ⟨rfl, ho3, hb3⟩
      have HB3 := Lib.hid (HBW.out.trans hb3)
      have HCO := Lib.hid (compact_own _ _ w1.heap.size w3 ho3 HB3.out.size (by rw [srtL_length]; exact HLN.out))
      rw [rising_is] at HCO
      clear ho3 hb3
      go_wp2_with fail
      refine HCO.out.mono ?_
      clear HCO
      rintro e w4 ⟨u, rfl, ho4, hb4⟩
      have HO4 := Lib.hid ho4
      have HB4 := Lib.hid (HA.out.trans ((HB3.out.trans hb4).mono HA.out.size))
      clear ho4 hb4
      go_wp2_with fail
      go_ret
      exact ⟨_, rfl, Go.Joins.ownsRow_le HO4.out HA.out.size, HB4.out⟩
theorem setL_next {c : Cd} {L : List Pt} {q : Nat} (h : q < L.length) : setL (idsOf c (L.take (q + 1))) = if pass (L[q]).flds c then put (L[q]).id (setL (idsOf c (L.take q))) else setL (idsOf c (L.take q)) := by
  rw [idsOf_next h]
  split
  · unfold setL putAll
    rw [List.foldl_append]
    rfl
  · rw [List.append_nil]
theorem setL_len (l : List Int) : (setL l).length ≤ l.length := by have := (putAll_length l []).2; simpa [setL] using this
set_option maxHeartbeats 2000000 in
set_option maxRecDepth 100000 in
theorem rids_any (c : Cd) (r : Rc) (L : List Pt) (v : Value) (w : World) (h : CdW (fun _ => True) w c r) (hbig : Big c) (hL : PtsAt w v L) (hok : OkL L) :
    Calls Tryz.prog 18 #[cv r, v] w fun e w' => ∃ u, e = .returned u ∧ Own w' w.heap.size u (setL (idsOf c L)) ∧ Below w.heap.size w w' := by
  have HL := Lib.hid hL
  have HO := Lib.hid hok
  have HC0 := Lib.hid h
  have HBG := Lib.hid hbig
  have HA := Lib.hid (Rk.fresh_alloc w (cobj r))
  have HZ := Lib.hid (Rk.heap_last w (cobj r))
  obtain ⟨lp, lc, rfl⟩ := hL.form
  clear h hbig hL hok
  obtain ⟨k0, k1, ⟨k2, k3, k4⟩, k5, k6, ⟨k7, k8, k9⟩⟩ := r
  obtain ⟨w1, hw1⟩ : ∃ w1, w1 = w.alloc (cobj ⟨k0, k1, ⟨k2, k3, k4⟩, k5, k6, ⟨k7, k8, k9⟩⟩) := ⟨_, rfl⟩
  rw [← hw1] at HA HZ
  go_enter Tryz.func18, Tryz.ntmps18
  go_wp2_with fail
  rw [← hw1]
  clear hw1
  go_loopw [5, 6] (fun a i wr => ∃ q : Nat, q ≤ L.length ∧ i = .int .i64 q ∧ Own wr w1.heap.size a (setL (idsOf c (L.take q))) ∧ Below w1.heap.size w1 wr) (fun _ i _ => L.length - (intOf i).toNat)
  case atStart => exact ⟨0, Nat.zero_le _, rfl, by simpa [idsOf, setL, putAll] using own_nil w1 w1.heap.size, Below.refl _ _⟩
  case round =>
    obtain ⟨q, hq, rfl, ho, hb⟩ := hrel
    have HOW := Lib.hid ho
    have HBW := Lib.hid hb
    have HBX := Lib.hid (HA.out.trans (hb.mono HA.out.size))
    obtain ⟨wo, rfl⟩ : ∃ wo : World, wo = wr := ⟨_, rfl⟩
    clear ho hb
    by_cases hlt : q < L.length
    · obtain ⟨g, off, c', ev, hg, hc⟩ := pts_at (HL.out.below HBX.out) (fun p c e => by injection e with _ e; omega)
      injection ev with ev1 ev2 ev3
      subst ev1
      obtain ⟨⟨ri, ⟨vp, vn, vc⟩, ⟨fp, fn, fc⟩⟩, ⟨hid, _, hflds⟩, hcell⟩ := hc q hlt
      obtain ⟨c0, c1, c2⟩ := hcell wo rfl
      simp only [slv] at c0 c1 c2 hid hflds
      obtain ⟨a0, a1, a2, a3, a4, a5, a6, a7⟩ := cells8 ((HBW.out.block _ (Rk.lt_of_block HZ.out)).trans HZ.out)
      simp only at a0 a1 a2 a3 a4 a5 a6 a7
      have hdr : Below wo.heap.size wo wo.drew := (Below.refl _ _).drew
      have HC := Lib.hid (rpass_any c (L[q]).flds ⟨k0, k1, ⟨k2, k3, k4⟩, k5, k6, ⟨k7, k8, k9⟩⟩ ⟨ri, ⟨vp, vn, vc⟩, ⟨fp, fn, fc⟩⟩ wo.drew ((HC0.out.below HBX.out).below hdr) HBG.out (hflds.below hdr) (HO.out.ok _ (List.getElem_mem hlt)))
      have HCE := Lib.hid (fun (W : World) (hW : Below wo.heap.size wo W) => (hcell W (hW.block g hg)).1)
      have HID := Lib.hid hid
      have hqn : (q : Int) < (L.length : Int) := by omega
      have HLT := Lib.hid hlt
      obtain ⟨b, hbb⟩ : ∃ b, b = pass (L[q]).flds c := ⟨_, rfl⟩
      change Hid (Calls _ _ _ _ fun e w' => e = Ending.returned (Value.bool (pass (L[q]).flds c)) ∧ _) at HC
      rw [← hbb] at HC
      have HNX : Hid (setL (idsOf c (L.take (q + 1))) = if b then put ri (setL (idsOf c (L.take q))) else setL (idsOf c (L.take q))) := Lib.hid (by rw [hbb, hid]; exact setL_next hlt)
      clear hbb hc hcell hflds hg ev2 ev3 hid hdr
      go_upto_region 5 with fail
      go_cut [18] (fun bb wx => bb = .bool b ∧ Below wo.heap.size wo wx)
      case first =>
        go_region_with (go_at_call 9; refine HC.out.mono ?_; rintro e w5 ⟨rfl, hb5⟩)
        all_goals go_wp2_with fail
        all_goals go_meet
        all_goals exact ⟨rfl, (Below.refl _ _).drew.trans hb5⟩
      case rest =>
        obtain ⟨rfl, hb6⟩ := hcut
        obtain ⟨w5, rfl⟩ : ∃ w5 : World, w5 = wc := ⟨_, rfl⟩
        have HB6 := Lib.hid hb6
        have HBN := Lib.hid (HBW.out.trans (hb6.mono HBW.out.size))
        have HO5 := Lib.hid (Go.Proofs.YtclmalaomofahaaGreatDoor.own_below HOW.out hb6)
        have e0 := HCE.out w5 hb6
        clear hb6 HC a0 a1 a2 a3 a4 a5 a6 a7 c0 c1 c2
        cases hbv : b
        · rw [hbv] at HNX
          simp only [Bool.false_eq_true, if_false] at HNX
          go_wp2_with fail
          go_roundw
          case rel => exact ⟨q + 1, HLT.out, congrArg _ (wrap_p HO.out.len HLT.out), by rw [HNX.out]; exact HO5.out, HBN.out⟩
          case measure =>
            rw [wrap_p HO.out.len HLT.out]
            exact int_lessV HLT.out
        · rw [hbv] at HNX
          simp only [if_true] at HNX
          have HPU := Lib.hid (put_any _ _ ri w1.heap.size w5 HO5.out (by have h1 := idsOf_len c (L.take q); have h2 := HO.out.len; have h3 := HLT.out; have h4 := setL_len (idsOf c (L.take q)); rw [List.length_take] at h1; omega) (ris_putAll _ _ List.Pairwise.nil) HBN.out.size)
          go_wp2_with fail
          refine HPU.out.mono ?_
          clear HPU
          rintro e w6 ⟨u, rfl, ho6, hb6⟩
          have HO6 := Lib.hid ho6
          have HB7 := Lib.hid (HBN.out.trans hb6)
          clear ho6 hb6
          go_wp2_with fail
          go_roundw
          case rel => exact ⟨q + 1, HLT.out, congrArg _ (wrap_p HO.out.len HLT.out), by rw [HNX.out]; exact HO6.out, HB7.out⟩
          case measure =>
            rw [wrap_p HO.out.len HLT.out]
            exact int_lessV HLT.out
    · obtain rfl : q = L.length := by omega
      have ho := HOW.out
      rw [List.take_length] at ho
      have HOF := Lib.hid ho
      clear ho
      go_wp2_with fail
      go_ret
      exact ⟨_, rfl, Go.Joins.ownsRow_le HOF.out HA.out.size, HBX.out⟩
end Ft
end Go.Proofs.YtclmalaomofahaaGreatDoor
