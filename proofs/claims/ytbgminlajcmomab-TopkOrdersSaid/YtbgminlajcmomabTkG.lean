/- The document's Sort and Add; the law's unlike. Conditions: those that each theorem names. -/
import Derived.Test.YtbgminlajcmomabTkF
namespace Go.Proofs.Ytbgminlajcmomab
set_option linter.unusedVariables false
open Go Go.RowKit Go.Shelf Go.Sort Tk
set_option maxHeartbeats 2000000 in
set_option maxRecDepth 100000 in
theorem rsort_any (m : Int) (L : List Ht) (v : Value) (w : World) (hL : HsAt w v L) (hl : L.length * 16 ≤ 140737488355328) :
    Calls Try.prog 12 #[.int .i64 m, v] w fun e w' => ∃ u, e = .returned u ∧ OwnH w' w.heap.size u (sortR m L) ∧ RowKit.Below w.heap.size w w' := by
  have HLA := Lib.hid hL
  have HN := Lib.hid hl
  have hm : L.length ≤ maxLen := by unfold maxLen; omega
  have HM := Lib.hid hm
  obtain ⟨pp, cc, rfl⟩ := hL.form
  clear hL hl hm
  unfold sortR
  by_cases hk : knownB m = true
  · rw [if_pos hk]
    rw [known_iff] at hk
    have m1 : (1 : Int) ≤ m := by omega
    have m3 : m ≤ 3 := by omega
    clear hk
    go_enter Try.func12, Try.ntmps12
    go_wp2_with fail
    go_loopw [5, 6] (fun u i wr => ∃ k : Nat, k ≤ L.length ∧ i = .int .i64 k ∧ Hid (OwnH wr w.heap.size u (foldR m (L.take k))) ∧ Hid (RowKit.Below w.heap.size w wr)) (fun _ i _ => L.length - (intOf i).toNat)
    case atStart => exact ⟨0, Nat.zero_le _, rfl, World.ownsRow_nil _ _ _ _, Below.refl _ _⟩
    case round =>
      obtain ⟨k, hk, rfl, HO, HB⟩ := hrel
      by_cases hlt : k < L.length
      · obtain ⟨g, off, c, e, hg, hc⟩ := HLA.out.at hlt
        injection e with e1 _ e3
        subst e1
        subst e3
        obtain ⟨a0, a1⟩ := hc wr (HB.out.block g hg)
        have HX := Lib.hid (List.getElem?_eq_getElem hlt)
        clear hc hg
        generalize L[k] = x at *
        obtain ⟨xi, xs⟩ := x
        have HC := Lib.hid (insert_any m (xi, xs) (foldR m (L.take k)) u5 wr (own_hits HO.out) (by rw [foldR_length, List.length_take]; have := HN.out; omega))
        go_wp2_with fail
        refine HC.out.mono ?_
        rintro e w2 ⟨u, rfl, ho, hb⟩
        have HO2 : Hid (OwnH w2 w.heap.size u (foldR m (L.take (k + 1)))) := Lib.hid (by rw [foldR_take HX.out]; exact Go.Joins.ownsRow_le ho HB.out.size)
        have HB2 := Lib.hid (HB.out.trans (hb.mono HB.out.size))
        clear ho hb a0 a1
        go_wp2_with fail
        go_roundw
        case rel => exact ⟨k + 1, by omega, congrArg _ (wrap_s HM.out hlt), HO2, HB2⟩
        case measure =>
          rw [wrap_s HM.out hlt]
          exact int_less hlt
      · obtain rfl : k = L.length := by omega
        have HO2 : Hid (OwnH wr w.heap.size u5 (foldR m L)) := Lib.hid (by have := HO.out; rwa [List.take_length] at this)
        go_wp2_with fail
        go_ret
        exact ⟨_, rfl, HO2.out, HB.out⟩
  · rw [if_neg hk]
    rw [known_iff] at hk
    go_enter Try.func12, Try.ntmps12
    go_wp2_with fail
    go_loop [5, 6] (fun u i => u = .slice none 0 0 ∧ i = .int .i64 0) (fun _ _ => 0)
    case atStart => exact ⟨rfl, rfl⟩
    case round =>
      obtain ⟨rfl, rfl⟩ := hrel
      rcases Nat.eq_zero_or_pos L.length with h0 | h0
      · have hz : ¬ (0 : Int) < (L.length : Int) := by omega
        go_wp2_with fail
        go_ret
        exact ⟨_, rfl, World.ownsRow_nil _ _ _ _, Below.refl _ _⟩
      · have hz : (0 : Int) < (L.length : Int) := by omega
        rcases (by omega : ¬ (1 : Int) ≤ m ∨ ((1 : Int) ≤ m ∧ ¬ m ≤ 3)) with h1 | ⟨h1, h2⟩
        · go_wp2_with fail
          go_ret
          exact ⟨_, rfl, World.ownsRow_nil _ _ _ _, Below.refl _ _⟩
        · go_wp2_with fail
          go_ret
          exact ⟨_, rfl, World.ownsRow_nil _ _ _ _, Below.refl _ _⟩
/-! ### The law's unlike -/
theorem mem_take_next {α} [DecidableEq α] {o : List α} {j : Nat} {x y : α} (h : o[j]? = some y) : (x ∈ o.take (j + 1)) ↔ (x ∈ o.take j ∨ y = x) := by
  rw [List.take_add_one, h]
  simp [eq_comm]
theorem own_gn {w w' : World} {base : Nat} {v : Value} {L : List Ht} (h : OwnH w base v L) (k : Gn w w') : OwnH w' base v L := by
  rcases h with ⟨l0, l1 | ⟨g', cap', cur, e', hb', hg', r'⟩⟩
  · exact ⟨l0, .inl l1⟩
  · exact ⟨l0, .inr ⟨g', cap', cur, e', hb', by rw [k.block (by
      rcases Nat.lt_or_ge g' w.heap.size with z | z
      · exact z
      · rw [Array.getElem?_eq_none z] at hg'; cases hg')]; exact hg', r'⟩⟩
set_option maxHeartbeats 4000000 in
set_option maxRecDepth 100000 in
theorem unlike_any (L : List Ht) (v : Value) (w : World) (hL : HsAt w v L) (hl : L.length * 16 ≤ 140737488355328) :
    Calls Try.prog 21 #[v] w fun e w' => ∃ u, e = .returned u ∧ OwnH w' w.heap.size u (ddF L) ∧ RowKit.Below w.heap.size w w' := by
  have mixed : Try.prog.follows .mixedOrders = true := by kernel_rfl
  have HLA := Lib.hid hL
  have HN := Lib.hid hl
  have hm : L.length ≤ maxLen := by unfold maxLen; omega
  have HM := Lib.hid hm
  obtain ⟨pp, cc, rfl⟩ := hL.form
  clear hL hl hm
  go_enter Try.func21, Try.ntmps21
  go_wp2_with fail
  go_loopw [3, 4] (fun u i wr => ∃ k : Nat, k ≤ L.length ∧ i = .int .i64 k ∧ Hid (OwnH wr w.heap.size u (ddF (L.take k))) ∧ Hid (RowKit.Below w.heap.size w wr)) (fun _ i _ => L.length - (intOf i).toNat)
  case atStart => exact ⟨0, Nat.zero_le _, rfl, World.ownsRow_nil _ _ _ _, Below.refl _ _⟩
  case round =>
    obtain ⟨k, hk, rfl, HO, HB⟩ := hrel
    by_cases hlt : k < L.length
    · obtain ⟨g, off, c, e, hg, hc⟩ := HLA.out.at hlt
      injection e with e1 _ e3
      subst e1
      subst e3
      have hcell := fun (W' : World) (hW' : Gn wr W') => hc W' ((HB.out.trans (hW'.below.mono HB.out.size)).block g hg)
      have HCL := Lib.hid hcell
      have HX := Lib.hid (List.getElem?_eq_getElem hlt)
      have hdl : (ddF (L.take k)).length ≤ k := by have := (ddF_fact (L.take k)).2.2; rw [List.length_take] at this; omega
      have HDL := Lib.hid hdl
      have HT := Lib.hid (ddF_take (List.getElem?_eq_getElem hlt))
      clear hc hg hcell hdl
      generalize L[k] = x at *
      generalize hoo : ddF (L.take k) = o at *
      clear hoo
      obtain ⟨xi, xs⟩ := x
      have HF := Lib.hid (own_hits HO.out).form
      obtain ⟨p3, c3, rfl⟩ := HF.out
      have HOM : Hid (o.length ≤ maxLen) := Lib.hid (by have := HDL.out; have := HM.out; omega)
      go_wp2_with fail
      generalize wr = W0 at *
      go_loopw [5, 6] (fun s i wx => ∃ (j : Nat) (b : Bool), j ≤ o.length ∧ i = .int .i64 j ∧ s = .bool b ∧ Hid (b = decide ((xi, xs) ∈ o.take j)) ∧ Hid (Gn W0 wx)) (fun _ i _ => o.length - (intOf i).toNat)
      case atStart => exact ⟨0, false, Nat.zero_le _, rfl, rfl, Lib.hid (by simp), Gn.refl _⟩
      case round =>
        obtain ⟨j, b, hj, rfl, rfl, HBM, HG⟩ := hrel
        generalize wr = W1 at *
        by_cases hjt : j < o.length
        · obtain ⟨g2, off2, c2, e2, hg2, hc2⟩ := (own_hits HO.out).at hjt
          injection e2 with e21 _ e23
          subst e21
          subst e23
          have hy0 := fun q => (hc2 (W1.drewN q) ((HG.out.drewN q).block hg2)).1
          have hy1 := fun q => (hc2 (W1.drewN q) ((HG.out.drewN q).block hg2)).2
          have HY := Lib.hid (List.getElem?_eq_getElem hjt)
          clear hc2 hg2
          generalize o[j] = y at *
          obtain ⟨yi, ys⟩ := y
          have hx0 := fun q => (HCL.out (W1.drewN q) (HG.out.drewN q)).1
          have hx1 := fun q => (HCL.out (W1.drewN q) (HG.out.drewN q)).2
          have HN1 : Hid (∀ b' : Bool, (b' = true ↔ (b = true ∨ ((yi, ys) : Ht) = (xi, xs))) → b' = decide ((xi, xs) ∈ o.take (j + 1))) := Lib.hid (by
            intro b' hb'
            rw [Bool.eq_iff_iff, hb', decide_eq_true_iff, mem_take_next HY.out, HBM.out, decide_eq_true_iff])
          cases b with
          | true =>
            go_wp2_with fail
            go_region
            go_wp2_with fail
            go_roundw
            case rel => exact ⟨j + 1, true, by omega, congrArg _ (wrap_s HOM.out hjt), rfl, Lib.hid (HN1.out true (by simp)), HG.out.drew⟩
            case measure =>
              rw [wrap_s HOM.out hjt]
              exact int_less hjt
          | false =>
            have HE := fun W => eqlH_run (yi, ys) (xi, xs) W
            simp only at HE hy0 hy1 hx0 hx1
            have k0 := hy0 0
            have k1 := hy1 0
            have l0 := hx0 0
            have l1 := hx1 0
            have r0 : W1.drewN 0 = W1 := rfl
            rw [r0] at k0 k1 l0 l1
            obtain ⟨r, hr⟩ : ∃ r, r = decide (((yi, ys) : Ht) = (xi, xs)) := ⟨_, rfl⟩
            rw [← hr] at HE
            have HR := Lib.hid hr
            clear hr r0 hy0 hy1 hx0 hx1
            go_wp2_with fail
            go_quiet (fail)
            go_wp2_with fail
            go_roundw
            case rel => exact ⟨j + 1, r, by omega, congrArg _ (wrap_s HOM.out hjt), rfl, Lib.hid (HN1.out r (by rw [HR.out]; simp)), HG.out.drewN _⟩
            case measure =>
              rw [wrap_s HOM.out hjt]
              exact int_less hjt
        · obtain rfl : j = o.length := by omega
          cases b with
          | true =>
            have HD : Hid (ddF (L.take (k + 1)) = o) := Lib.hid (by
              have h := HBM.out
              rw [List.take_length] at h
              rw [HT.out, if_pos (of_decide_eq_true h.symm)])
            go_wp2_with fail
            go_roundw
            case rel => exact ⟨k + 1, by omega, congrArg _ (wrap_s HM.out hlt), Lib.hid (by rw [HD.out]; exact own_gn HO.out HG.out), Lib.hid (HB.out.trans (HG.out.below.mono HB.out.size))⟩
            case measure =>
              rw [wrap_s HM.out hlt]
              exact int_less hlt
          | false =>
            have HD : Hid (ddF (L.take (k + 1)) = o ++ [(xi, xs)]) := Lib.hid (by
              have h := HBM.out
              rw [List.take_length] at h
              rw [HT.out, if_neg (of_decide_eq_false h.symm)])
            have hW1 : w.heap.size ≤ W1.heap.size := Nat.le_trans HB.out.size HG.out.size
            obtain ⟨a0, a1⟩ := HCL.out W1 HG.out
            obtain ⟨v', W', hr, ho', hb', -⟩ := push_hit (W := W1) (xi, xs) (own_gn HO.out HG.out) (by have h1 := HN.out; have h2 := HDL.out; omega) hW1
            have HB2 := Lib.hid ((HB.out.trans (HG.out.below.mono HB.out.size)).trans hb')
            have HO2 := Lib.hid ho'
            have HR := Lib.hid hr
            clear hr ho' hb' hW1
            go_wp2_with (at_builtin; refine wpList_append_run rfl _ _ _ _ rfl _ _ v' W' rfl rfl (fun ty => HR.out ty) ?_)
            go_roundw
            case rel => exact ⟨k + 1, by omega, congrArg _ (wrap_s HM.out hlt), Lib.hid (by rw [HD.out]; exact HO2.out), HB2⟩
            case measure =>
              rw [wrap_s HM.out hlt]
              exact int_less hlt
    · obtain rfl : k = L.length := by omega
      have HO2 : Hid (OwnH wr w.heap.size u3 (ddF L)) := Lib.hid (by have := HO.out; rwa [List.take_length] at this)
      go_wp2_with fail
      go_ret
      exact ⟨_, rfl, HO2.out, HB.out⟩
end Go.Proofs.Ytbgminlajcmomab
