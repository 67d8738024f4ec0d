/- The document's All, its two rows one's own; the head of a row. Conditions: those that each theorem names. -/
import Derived.Test.YtbfaoelgbfhjdaaIdR
namespace Go.Proofs.Ytbfaoelgbfhjdaa
set_option linter.unusedVariables false
open Go Go.RowKit Go.Shelf Ids
set_option maxHeartbeats 1000000 in
theorem allRef_own (a b : List Int) (u v : Value) (w : World) (hu : IntsAt w u a) (hv : IntsAt w v b) (hl : a.length + b.length ≤ 17592186044416) :
    Calls Try.prog 25 #[u, v] w fun e w' => ∃ x y, e = .returned (.tuple #[x, y]) ∧ Own w' w.heap.size x (uniL a b) ∧ Own w' w.heap.size y ((uniL a b).map (wh a b)) ∧ Below w.heap.size w w' := by
  have C0 := Lib.hid (unionRef_any a b u v w hu hv hl)
  have C1 := Lib.hid fun wx (hq : Below w.heap.size w wx) => set_any a u wx (hu.below hq) (by omega)
  have C2 := Lib.hid fun wx (hq : Below w.heap.size w wx) => set_any b v wx (hv.below hq) (by omega)
  have HS1 := Lib.hid (show (setL a).length ≤ 17592186044416 by have := setL_length a; omega)
  have HS2 := Lib.hid (show (setL b).length ≤ 17592186044416 by have := setL_length b; omega)
  have HS := Lib.hid (show (uniL a b).length ≤ 17592186044416 by have := uniL_length a b; omega)
  have HML : Hid ((uniL a b).length ≤ maxLen) := Lib.hid (by have := HS.out; unfold maxLen; omega)
  clear hu hv hl
  go_enter Try.func25, Try.ntmps25
  go_wp2_with (first
    | (go_at_call 19; refine C0.out.mono ?_; clear C0; rintro e w0 ⟨s, rfl, ho, hb⟩; obtain ⟨p, c, hs⟩ := ho.at.form; subst hs; have HOW := Lib.hid ho; have HO := Lib.hid ho.at; have HB := Lib.hid hb; clear ho hb)
    | (go_at_call 31; refine (C1.out _ HB.out).mono ?_; clear C1; rintro e w1 ⟨s0, rfl, ho0, hb0⟩; obtain ⟨p0, c0, hs0⟩ := ho0.at.form; subst hs0; have HO0 := Lib.hid ho0.at; have HB0 := Lib.hid hb0; have HBB := Lib.hid (HB.out.trans (hb0.mono HB.out.size)); clear ho0 hb0)
    | (go_at_call 31; refine (C2.out _ HBB.out).mono ?_; clear C2; rintro e w2 ⟨s1, rfl, ho1, hb1⟩; obtain ⟨p1, c1, hs1⟩ := ho1.at.form; subst hs1; have HO1 := Lib.hid ho1.at; have HB1 := Lib.hid hb1; clear ho1 hb1))
  have HB2 : Hid (Below w.heap.size w w2) := Lib.hid (HBB.out.trans (HB1.out.mono HBB.out.size))
  have HI : Hid (IntsAt w2 (.slice p (uniL a b).length c) (uniL a b)) := Lib.hid ((HO.out.below HB0.out).below HB1.out)
  have HI0 : Hid (IntsAt w2 (.slice p0 (setL a).length c0) (setL a)) := Lib.hid (HO0.out.below HB1.out)
  have HI1 : Hid (IntsAt w2 (.slice p1 (setL b).length c1) (setL b)) := HO1
  have HC := Lib.hid (row_cells HI.out)
  have HOW2 := Lib.hid (own_below (own_below HOW.out HB0.out) HB1.out)
  clear HO HO0 HO1 HB0 HB1 HBB HB HOW
  go_loopw [7, 8] (fun s i wr => ∃ k : Nat, k ≤ (uniL a b).length ∧ i = .int .i64 k ∧ Own wr w2.heap.size s (((uniL a b).take k).map (wh a b)) ∧ Below w2.heap.size w2 wr) (fun _ i _ => (uniL a b).length - (intOf i).toNat)
  case atStart => exact ⟨0, Nat.zero_le _, rfl, own_nil _ _, Below.refl _ _⟩
  case round =>
    obtain ⟨k, hk, rfl, ho, hb⟩ := hrel
    have HB := Lib.hid hb
    have HO := Lib.hid ho
    clear ho hb
    obtain ⟨wo, rfl⟩ : ∃ wo : World, wo = wr := ⟨_, rfl⟩
    by_cases hlt : k < (uniL a b).length
    · obtain ⟨b1, off, rfl, hc⟩ := HC.out k hlt
      have hcell := hc wo HB.out
      have hlt' : (k : Int) < ((uniL a b).length : Int) := by omega
      have hx : (uniL a b)[k]? = some (uniL a b)[k] := List.getElem?_eq_getElem hlt
      generalize (uniL a b)[k] = x at hcell hx
      have HF : Hid (((uniL a b).take (k + 1)).map (wh a b) = ((uniL a b).take k).map (wh a b) ++ [wh a b x]) := Lib.hid (by rw [take_snoc hx, List.map_append]; rfl)
      have CA := Lib.hid (in_any (setL a) _ x wo (HI0.out.below HB.out) HS1.out (ris_setL a))
      have CB := Lib.hid (in_any (setL b) _ x wo (HI1.out.below HB.out) HS2.out (ris_setL b))
      have hwh := wh_is a b x
      obtain ⟨n, hn⟩ : ∃ n, n = wh a b x := ⟨_, rfl⟩
      rw [← hn] at HF hwh
      obtain ⟨v3, w3, hr3, ho3, hb3⟩ := append_one n HO.out (by have h2 := HS.out; rw [List.length_map, List.length_take]; omega) HB.out.size
      rw [← HF.out] at ho3
      have HO3 := Lib.hid ho3
      have HB3 := Lib.hid (HB.out.trans hb3)
      clear hc hx ho3 hb3 hn
      cases hax : hasB (setL a) x <;> cases hbx : hasB (setL b) x
      all_goals
        rw [hax] at CA hwh
        rw [hbx] at CB hwh
        simp only [Bool.false_eq_true, if_false, if_true, Int.add_zero, Int.zero_add, Int.reduceAdd] at hwh
        subst hwh
        clear hax hbx
        go_wp2_with (first
          | (go_at_call 36; refine CA.out.mono ?_; clear CA; rintro e w4 ⟨rfl, rfl⟩)
          | (go_at_call 36; refine CB.out.mono ?_; clear CB; rintro e w4 ⟨rfl, rfl⟩)
          | (at_builtin; refine wpList_append_run rfl _ _ _ _ rfl _ _ _ _ rfl rfl hr3 ?_))
        go_roundw
        case rel => exact ⟨k + 1, by omega, congrArg _ (wrap_s HML.out hlt), HO3.out, HB3.out⟩
        case measure =>
          rw [wrap_s HML.out hlt]
          exact int_less hlt
    · obtain rfl : k = (uniL a b).length := by omega
      have ho := HO.out
      rw [List.take_length] at ho
      have HOE := Lib.hid ho
      clear ho HO
      go_wp2_with fail
      go_ret2
      exact ⟨_, _, rfl, own_below HOW2.out HB.out, own_base HOE.out HB2.out.size, HB2.out.trans (HB.out.mono HB2.out.size)⟩
/-- The first n numbers of a row. -/
theorem own_head {w : World} {base : Nat} {v : Value} {L : List Int} (h : Own w base v L) :
    (v = .slice none 0 0 ∧ L = []) ∨ ∃ g c, v = .slice (some ⟨g, 0, none⟩) L.length c ∧ L.length ≤ c ∧ ∀ n, n ≤ L.length → IntsAt w (.slice (some ⟨g, 0, none⟩) n c) (L.take n) := by
  rcases h.2 with ⟨rfl, h0⟩ | ⟨g, cap, cur, rfl, hb, hg, h1, h2, h3, h4⟩
  · exact .inl ⟨rfl, List.length_eq_zero_iff.mp h0⟩
  · refine .inr ⟨g, cap, rfl, h1, fun n hn => ?_⟩
    have hl : (L.take n).length = n := by rw [List.length_take]; omega
    have ho : Own w base (.slice (some ⟨g, 0, none⟩) n cap) (L.take n) := by
      unfold Own
      rw [hl]
      refine ⟨by rw [ints_length, hl, Nat.mul_one], .inr ⟨g, cap, cur, rfl, hb, hg, by omega, h2, h3, ?_⟩⟩
      have e : cur.toList.take (n * 1) = (cur.toList.take (L.length * 1)).take n := by rw [List.take_take]; congr 1; omega
      rw [e, h4, ints, ints, List.map_take]
    exact ho.at
end Go.Proofs.Ytbfaoelgbfhjdaa
