/- The program's Of, the document's Of and All. Conditions: those that each theorem names. -/
import Derived.Test.YtbfaoelgbfhjdaaIdG
namespace Go.Proofs.Ytbfaoelgbfhjdaa
set_option linter.unusedVariables false
open Go Go.RowKit Ids
namespace Ids
open Classical in
noncomputable def ofL (L : List Int) : List Int := if okB (setL L) then setL L else []
theorem ofL_yes {L : List Int} (h : okB (setL L)) : ofL L = setL L := by unfold ofL; rw [if_pos h]
theorem ofL_no {L : List Int} (h : ¬ okB (setL L)) : ofL L = [] := by unfold ofL; rw [if_neg h]
theorem ofL_length (L : List Int) : (ofL L).length ≤ L.length := by
  by_cases h : okB (setL L)
  · rw [ofL_yes h]; exact setL_length L
  · rw [ofL_no h]; simp
theorem okB_set {L : List Int} : okB (setL L) ↔ ∀ x ∈ L, 1 ≤ x ∧ x ≤ 4503599627370496 := by
  constructor
  · intro h x hx
    exact h.2 x (mem_setL.mpr hx)
  · intro h
    exact ⟨ris_setL L, fun x hx => h x (mem_setL.mp hx)⟩
end Ids
theorem ret2I {x : Value} {k : IntKind} {a b : Int} (h : b = a) : Ending.returned (.tuple #[x, .int k a]) = .returned (.tuple #[x, .int k b]) := by rw [h]
theorem ints_nil (w : World) : IntsAt w (.slice none 0 0) [] := .inl ⟨rfl, none, 0, rfl⟩
set_option maxHeartbeats 1000000 in
set_option maxRecDepth 100000 in
theorem of_any (L : List Int) (v : Value) (w : World) (h : IntsAt w v L) (hl : L.length * 8 ≤ 140737488355328) :
    Calls Try.prog 10 #[v] w fun e w' => ∃ x, e = .returned (.tuple #[x, .int .i64 (chkE (setL L))]) ∧ Own w' w.heap.size x (ofL L) ∧ Below w.heap.size w w' := by
  have C1 := Lib.hid (rising_any L v w h hl)
  have HS := Lib.hid (show (setL L).length ≤ maxLen by have := setL_length L; unfold maxLen; omega)
  clear h hl
  by_cases hk : okB (setL L)
  · have HE := Lib.hid (chkE_yes hk)
    have HO := Lib.hid (ofL_yes hk)
    clear hk
    go_enter Try.func10, Try.ntmps10
    go_wp2_with (first
      | (go_at_call 30; refine C1.out.mono ?_; rintro e w1 ⟨s0, rfl, ho0, hb0⟩; have C2 := Lib.hid (check_any (setL L) s0 w1 ho0.at HS.out); rw [HE.out] at C2; have HO0 := Lib.hid ho0; have HB0 := Lib.hid hb0; clear ho0 hb0)
      | (go_at_call 12; refine C2.out.mono ?_; rintro e w2 ⟨rfl, rfl⟩))
    go_ret2
    exact ⟨_, ret2I HE.out, by rw [HO.out]; exact HO0.out, HB0.out⟩
  · have HE := Lib.hid (chkE_no hk)
    have HO := Lib.hid (ofL_no hk)
    clear hk
    go_enter Try.func10, Try.ntmps10
    go_wp2_with (first
      | (go_at_call 30; refine C1.out.mono ?_; rintro e w1 ⟨s0, rfl, ho0, hb0⟩; have C2 := Lib.hid (check_any (setL L) s0 w1 ho0.at HS.out); rw [HE.out] at C2; have HO0 := Lib.hid ho0; have HB0 := Lib.hid hb0; clear ho0 hb0)
      | (go_at_call 12; refine C2.out.mono ?_; rintro e w2 ⟨rfl, rfl⟩))
    go_ret2
    exact ⟨_, ret2I HE.out, by rw [HO.out]; exact own_nil _ _, HB0.out⟩
set_option maxHeartbeats 1000000 in
set_option maxRecDepth 100000 in
theorem ofRef_any (L : List Int) (v : Value) (w : World) (h : IntsAt w v L) (hl : L.length ≤ 17592186044416) :
    Calls Try.prog 11 #[v] w fun e w' => ∃ x, e = .returned (.tuple #[x, .int .i64 (chkE (setL L))]) ∧ Own w' w.heap.size x (ofL L) ∧ Below w.heap.size w w' := by
  have C1 := Lib.hid (set_any L v w h hl)
  obtain ⟨p, c, rfl⟩ := h.form
  have HC := Lib.hid (row_cells h)
  have HML : Hid (L.length ≤ maxLen) := Lib.hid (by unfold maxLen; omega)
  clear h hl
  go_enter Try.func11, Try.ntmps11
  go_wp2_with fail
  go_loop [4] (fun i => ∃ k : Nat, k ≤ L.length ∧ i = .int .i64 k ∧ Hid (∀ x ∈ L.take k, 1 ≤ x ∧ x ≤ 4503599627370496)) (fun i => L.length - (intOf i).toNat)
  case atStart => exact ⟨0, Nat.zero_le _, rfl, Lib.hid (by simp)⟩
  case round =>
    obtain ⟨k, hk, rfl, HA⟩ := hrel
    by_cases hlt : k < L.length
    · obtain ⟨b, off, rfl, hc⟩ := HC.out k hlt
      have hcell := hc w (Below.refl _ _)
      have hlt' : (k : Int) < (L.length : Int) := by omega
      have hx : L[k]? = some L[k] := List.getElem?_eq_getElem hlt
      generalize L[k] = x at hcell hx
      have HX := Lib.hid hx
      clear hc hx
      by_cases h1 : x < 1
      · have HN : Hid (¬ okB (setL L)) := Lib.hid (fun h => by have := okB_set.mp h x (List.mem_of_getElem? HX.out); omega)
        have HE := Lib.hid (chkE_no HN.out)
        have HO := Lib.hid (ofL_no HN.out)
        clear HA HX C1
        go_wp2_with fail
        go_ret2
        exact ⟨_, ret2I HE.out, by rw [HO.out]; exact own_nil _ _, Below.refl _ _⟩
      · by_cases h2 : 4503599627370496 < x
        · have HN : Hid (¬ okB (setL L)) := Lib.hid (fun h => by have := okB_set.mp h x (List.mem_of_getElem? HX.out); omega)
          have HE := Lib.hid (chkE_no HN.out)
          have HO := Lib.hid (ofL_no HN.out)
          clear HA HX C1
          go_wp2_with fail
          go_ret2
          exact ⟨_, ret2I HE.out, by rw [HO.out]; exact own_nil _ _, Below.refl _ _⟩
        · have HN : Hid (∀ y ∈ L.take (k + 1), 1 ≤ y ∧ y ≤ 4503599627370496) := Lib.hid (by
            rw [take_snoc HX.out]
            intro y hy
            rcases List.mem_append.mp hy with c | c
            · exact HA.out y c
            · obtain rfl : y = x := by simpa using c
              omega)
          clear HA HX
          go_wp2_with fail
          go_round
          case rel => exact ⟨k + 1, by omega, congrArg _ (wrap_s HML.out hlt), HN⟩
          case measure =>
            rw [wrap_s HML.out hlt]
            exact int_less hlt
    · obtain rfl : k = L.length := by omega
      have hx := HA.out
      rw [List.take_length] at hx
      have HN : Hid (okB (setL L)) := Lib.hid (okB_set.mpr hx)
      have HE := Lib.hid (chkE_yes HN.out)
      have HO := Lib.hid (ofL_yes HN.out)
      clear HA hx
      go_wp2_with (go_at_call 31; refine C1.out.mono ?_; rintro e w1 ⟨s0, rfl, ho0, hb0⟩)
      go_ret2
      exact ⟨_, ret2I HE.out, by rw [HO.out]; exact ho0, hb0⟩
theorem wh_is (a b : List Int) (x : Int) : wh a b x = (if hasB (setL a) x then 1 else 0) + (if hasB (setL b) x then 2 else 0) := by simp [wh, hasB, mem_setL]
set_option maxHeartbeats 1000000 in
theorem allRef_any (a b : List Int) (u v : Value) (w : World) (hu : IntsAt w u a) (hv : IntsAt w v b) (hl : a.length + b.length ≤ 17592186044416) :
    Calls Try.prog 25 #[u, v] w fun e w' => ∃ x y, e = .returned (.tuple #[x, y]) ∧ IntsAt w' x (uniL a b) ∧ IntsAt w' y ((uniL a b).map (wh a b)) ∧ Below w.heap.size w w' := by
  have C0 := Lib.hid (unionRef_any a b u v w hu hv hl)
  have C1 := Lib.hid fun wx (hq : Below w.heap.size w wx) => set_any a u wx (hu.below hq) (by omega)
  have C2 := Lib.hid fun wx (hq : Below w.heap.size w wx) => set_any b v wx (hv.below hq) (by omega)
  have HS1 := Lib.hid (show (setL a).length ≤ 17592186044416 by have := setL_length a; omega)
  have HS2 := Lib.hid (show (setL b).length ≤ 17592186044416 by have := setL_length b; omega)
  have HS := Lib.hid (show (uniL a b).length ≤ 17592186044416 by have := uniL_length a b; omega)
  have HML : Hid ((uniL a b).length ≤ maxLen) := Lib.hid (by have := HS.out; unfold maxLen; omega)
  clear hu hv hl
  go_enter Try.func25, Try.ntmps25
  go_wp2_with (first
    | (go_at_call 19; refine C0.out.mono ?_; clear C0; rintro e w0 ⟨s, rfl, ho, hb⟩; obtain ⟨p, c, hs⟩ := ho.at.form; subst hs; have HO := Lib.hid ho.at; have HB := Lib.hid hb; clear ho hb)
    | (go_at_call 31; refine (C1.out _ HB.out).mono ?_; clear C1; rintro e w1 ⟨s0, rfl, ho0, hb0⟩; obtain ⟨p0, c0, hs0⟩ := ho0.at.form; subst hs0; have HO0 := Lib.hid ho0.at; have HB0 := Lib.hid hb0; have HBB := Lib.hid (HB.out.trans (hb0.mono HB.out.size)); clear ho0 hb0)
    | (go_at_call 31; refine (C2.out _ HBB.out).mono ?_; clear C2; rintro e w2 ⟨s1, rfl, ho1, hb1⟩; obtain ⟨p1, c1, hs1⟩ := ho1.at.form; subst hs1; have HO1 := Lib.hid ho1.at; have HB1 := Lib.hid hb1; clear ho1 hb1))
  have HB2 : Hid (Below w.heap.size w w2) := Lib.hid (HBB.out.trans (HB1.out.mono HBB.out.size))
  have HI : Hid (IntsAt w2 (.slice p (uniL a b).length c) (uniL a b)) := Lib.hid ((HO.out.below HB0.out).below HB1.out)
  have HI0 : Hid (IntsAt w2 (.slice p0 (setL a).length c0) (setL a)) := Lib.hid (HO0.out.below HB1.out)
  have HI1 : Hid (IntsAt w2 (.slice p1 (setL b).length c1) (setL b)) := HO1
  have HC := Lib.hid (row_cells HI.out)
  clear HO HO0 HO1 HB0 HB1 HBB HB
  go_loopw [7, 8] (fun s i wr => ∃ k : Nat, k ≤ (uniL a b).length ∧ i = .int .i64 k ∧ Own wr w2.heap.size s (((uniL a b).take k).map (wh a b)) ∧ Below w2.heap.size w2 wr) (fun _ i _ => (uniL a b).length - (intOf i).toNat)
  case atStart => exact ⟨0, Nat.zero_le _, rfl, own_nil _ _, Below.refl _ _⟩
  case round =>
    obtain ⟨k, hk, rfl, ho, hb⟩ := hrel
    have HB := Lib.hid hb
    have HO := Lib.hid ho
    clear ho hb
    obtain ⟨wo, rfl⟩ : ∃ wo : World, wo = wr := ⟨_, rfl⟩
    by_cases hlt : k < (uniL a b).length
    · obtain ⟨b1, off, rfl, hc⟩ := HC.out k hlt
      have hcell := hc wo HB.out
      have hlt' : (k : Int) < ((uniL a b).length : Int) := by omega
      have hx : (uniL a b)[k]? = some (uniL a b)[k] := List.getElem?_eq_getElem hlt
      generalize (uniL a b)[k] = x at hcell hx
      have HF : Hid (((uniL a b).take (k + 1)).map (wh a b) = ((uniL a b).take k).map (wh a b) ++ [wh a b x]) := Lib.hid (by rw [take_snoc hx, List.map_append]; rfl)
      have CA := Lib.hid (in_any (setL a) _ x wo (HI0.out.below HB.out) HS1.out (ris_setL a))
      have CB := Lib.hid (in_any (setL b) _ x wo (HI1.out.below HB.out) HS2.out (ris_setL b))
      have hwh := wh_is a b x
      obtain ⟨n, hn⟩ : ∃ n, n = wh a b x := ⟨_, rfl⟩
      rw [← hn] at HF hwh
      obtain ⟨v3, w3, hr3, ho3, hb3⟩ := append_one n HO.out (by have h2 := HS.out; rw [List.length_map, List.length_take]; omega) HB.out.size
      rw [← HF.out] at ho3
      have HO3 := Lib.hid ho3
      have HB3 := Lib.hid (HB.out.trans hb3)
      clear hc hx ho3 hb3 hn
      cases hax : hasB (setL a) x <;> cases hbx : hasB (setL b) x
      all_goals
        rw [hax] at CA hwh
        rw [hbx] at CB hwh
        simp only [Bool.false_eq_true, if_false, if_true, Int.add_zero, Int.zero_add, Int.reduceAdd] at hwh
        subst hwh
        clear hax hbx
        go_wp2_with (first
          | (go_at_call 36; refine CA.out.mono ?_; clear CA; rintro e w4 ⟨rfl, rfl⟩)
          | (go_at_call 36; refine CB.out.mono ?_; clear CB; rintro e w4 ⟨rfl, rfl⟩)
          | (at_builtin; refine wpList_append_run rfl _ _ _ _ rfl _ _ _ _ rfl rfl hr3 ?_))
        go_roundw
        case rel => exact ⟨k + 1, by omega, congrArg _ (wrap_s HML.out hlt), HO3.out, HB3.out⟩
        case measure =>
          rw [wrap_s HML.out hlt]
          exact int_less hlt
    · obtain rfl : k = (uniL a b).length := by omega
      have ho := HO.out
      rw [List.take_length] at ho
      have HOE := Lib.hid ho
      clear ho HO
      go_wp2_with fail
      go_ret2
      exact ⟨_, _, rfl, HI.out.below HB.out, HOE.out.at, HB2.out.trans (HB.out.mono HB2.out.size)⟩
end Go.Proofs.Ytbfaoelgbfhjdaa
