/- The program's index: Greatest, Entries, Between. Conditions: those that each theorem names. -/
import Derived.Test.YtioidkbpjkcjeaaRnI
import Derived.Test.YtioidkbpjkcjeaaIdL
namespace Go.Proofs.Ytioidkbpjkcjeaa
set_option linter.unusedVariables false
open Go Go.RowKit Go.Shelf Go.Sort Ids
namespace Rn
def lastN (L : List En) : Int := (L.getLast?.map (fun x => x.1)).getD 0
set_option maxHeartbeats 2000000 in
set_option maxRecDepth 100000 in
theorem greatest_any {B K : Nat} {L : List En} (w : World) (h : IxO w B K L) (hl : L.length ≤ 1125899906842624) :
    Calls Try.prog 11 #[.pointer (some ⟨K, 0, none⟩)] w fun e w' => e = .returned (.tuple #[.int .i64 (lastN L), .bool (!L.isEmpty)]) ∧ Gn w w' := by
  have HI := Lib.hid h
  obtain ⟨_, p, c, hk, ho⟩ := h
  have HC := Lib.hid (all_some K p L.length c w hk)
  have HO := Lib.hid (own_entries ho)
  have HLN := Lib.hid (fun (W : World) (hW : Gn w W) => len_any W (HI.out.below hW.below))
  clear hk ho
  unfold cmpV at HC
  rcases Nat.eq_zero_or_pos L.length with h0 | h0
  · have hL : L = [] := List.length_eq_zero_iff.mp h0
    subst hL
    have HA := Lib.hid (fun W => at_out (.func (.func 21) #[] #[]) p 0 c (-1) W (.inl (by decide)))
    clear h0 hl
    go_enter Try.func11, Try.ntmps11
    go_wp2_with fail
    refine HC.out.mono ?_
    rintro e w1 ⟨rfl, hg⟩
    have HG := Lib.hid hg
    clear hg HC
    go_wp2_with fail
    refine (HLN.out _ HG.out).mono ?_
    rintro e w2 ⟨rfl, hg⟩
    have HG2 := Lib.hid (HG.out.trans hg)
    clear hg
    go_wp2_with fail
    refine (HA.out _).mono ?_
    rintro e w3 ⟨rfl, hg⟩
    have HF := Lib.hid ((HG2.out.trans hg).alloc (hobj (0, 0)))
    clear hg
    go_wp2_with fail
    go_ret2
    exact ⟨rfl, HF.out⟩
  · obtain ⟨k, hk⟩ : ∃ k, k = L.length - 1 := ⟨_, rfl⟩
    have hkl : k < L.length := by omega
    have HA := Lib.hid (fun (W : World) (hW : Gn w W) => at_in L (.func (.func 21) #[] #[]) p c k W (HO.out.below hW.below) hkl)
    have HR : Hid (lastN L = (L[k]).1 ∧ (!L.isEmpty) = true) := Lib.hid (by
      refine ⟨?_, by cases L with | nil => simp at h0 | cons _ _ => rfl⟩
      unfold lastN
      rw [List.getLast?_eq_getElem?, ← hk, List.getElem?_eq_getElem hkl]
      rfl)
    have hw1 : wrap64 ((L.length : Int) - 1) = (k : Int) := by unfold wrap64; omega
    have hw2 : IntKind.i64.wrap ((L.length : Int) - 1) = (k : Int) := by rw [IntKind.wrap_i64]; omega
    rw [HR.out.1, HR.out.2]
    generalize L[k] = x at *
    generalize L.length = n at *
    clear hk hkl h0 hl
    go_enter Try.func11, Try.ntmps11
    go_wp2_with fail
    refine HC.out.mono ?_
    rintro e w1 ⟨rfl, hg⟩
    have HG := Lib.hid hg
    clear hg HC
    go_wp2_with fail
    refine (HLN.out _ HG.out).mono ?_
    rintro e w2 ⟨rfl, hg⟩
    have HG2 := Lib.hid (HG.out.trans hg)
    clear hg
    go_wp2_with fail
    refine (HA.out _ HG2.out).mono ?_
    rintro e w3 ⟨rfl, hg⟩
    have HF := Lib.hid ((HG2.out.trans hg).alloc (hobj x))
    clear hg
    go_wp2_with fail
    go_ret2
    exact ⟨rfl, HF.out⟩
set_option maxHeartbeats 2000000 in
set_option maxRecDepth 100000 in
theorem entries_any {B K : Nat} {L : List En} (w : World) (h : IxO w B K L) (hl : L.length * 16 ≤ 140737488355328) :
    Calls Try.prog 12 #[.pointer (some ⟨K, 0, none⟩)] w fun e w' => ∃ u, e = .returned u ∧ OwnH w' w.heap.size u L ∧ Below w.heap.size w w' := by
  obtain ⟨_, p, c, hk, ho⟩ := h
  have HC := Lib.hid (all_some K p L.length c w hk)
  have HO := Lib.hid (fun (W : World) (hW : Gn w W) => clone_any L (.slice p L.length c) W ((own_hsP ho).below hW.below) hl)
  have hfd := field1
  clear hk ho
  unfold cmpV at HC
  generalize L.length = n at *
  go_enter Try.func12, Try.ntmps12
  go_wp2_with fail
  refine HC.out.mono ?_
  rintro e w1 ⟨rfl, hg⟩
  have HG := Lib.hid hg
  clear hg HC
  go_wp2_with fail
  refine (HO.out _ HG.out).mono ?_
  rintro e w2 ⟨u, rfl, ho, hb⟩
  have HF : Hid (OwnH w2 w.heap.size u L ∧ Below w.heap.size w w2) := Lib.hid ⟨Go.Joins.ownsRow_le ho HG.out.size, HG.out.below.trans (hb.mono HG.out.size)⟩
  clear ho hb
  go_wp2_with fail
  go_ret
  exact ⟨_, rfl, HF.out⟩
/-- The ids of a row, in order, each once. -/
def idsE (R : List En) : List Int := uniL (R.map (fun x => x.2)) []
theorem seg_len (low high : Int) (L : List En) : (seg low high L).length ≤ L.length := List.length_filter_le _ _
set_option maxHeartbeats 4000000 in
set_option maxRecDepth 100000 in
theorem between_any {B K : Nat} {L : List En} (low high : Int) (w : World) (h : IxO w B K L) (hg : Good L) :
    Calls Try.prog 15 #[.pointer (some ⟨K, 0, none⟩), .int .i64 low, .int .i64 high] w fun e w' => ∃ u, e = .returned u ∧ Own w' w.heap.size u (idsE (seg low high L)) ∧ Below w.heap.size w w' := by
  have HB := Lib.hid (ibetween_any low high w h hg)
  have hrl : (seg low high L).length ≤ 8796093022208 := by have := seg_len low high L; have := hg.len; omega
  clear h hg
  generalize seg low high L = R at *
  obtain ⟨m, hm⟩ : ∃ m, m = R.length := ⟨_, rfl⟩
  have HM := Lib.hid hm
  have hmb : m ≤ 8796093022208 := by omega
  have HMB := Lib.hid hmb
  have HMM : Hid (m ≤ maxLen) := Lib.hid (by unfold maxLen; omega)
  have HU := Lib.hid (fun (u : Value) (W : World) (hu : IntsAt W u (R.map (fun x => x.2))) => union_any (R.map (fun x => x.2)) [] u (.slice none 0 0) W hu (.inl ⟨rfl, none, 0, rfl⟩) (by simp; omega))
  clear hm hrl hmb
  go_enter Try.func15, Try.ntmps15
  go_wp2_with fail
  refine HB.out.mono ?_
  rintro e w1 ⟨u, rfl, hs, hg⟩
  obtain ⟨p, c, rfl⟩ := hs.form
  rw [← HM.out] at hs ⊢
  have HS := Lib.hid hs
  have HG := Lib.hid hg.below
  clear hs hg HB
  go_wp2_with fail
  go_loopw [7, 9, 15] (fun s e i wr => ∃ k : Nat, k ≤ m ∧ i = .int .i64 k ∧ Own wr w1.heap.size s ((R.take k).map (fun x => x.2)) ∧ Below w1.heap.size w1 wr) (fun _ _ i _ => m - (intOf i).toNat)
  case atStart => exact ⟨0, Nat.zero_le _, rfl, World.ownsRow_nil _ _ _ _, Below.refl _ _⟩
  case round =>
    obtain ⟨k, hk, rfl, ho, hb⟩ := hrel
    have HB := Lib.hid hb
    have HO := Lib.hid ho
    clear ho hb
    obtain ⟨wo, rfl⟩ : ∃ wo : World, wo = wr := ⟨_, rfl⟩
    by_cases hlt : k < m
    · have hkR : k < R.length := by rw [← HM.out]; exact hlt
      have HS2 := HS.out.below HB.out
      rcases HS2 with ⟨e0, _⟩ | ⟨g, off, c', e0, hgl, hc⟩
      · rw [e0] at hkR; cases hkR
      · injection e0 with e1 e2 e3
        subst e1; subst e3; clear e2
        obtain ⟨a0, a1⟩ := hc wo rfl k hkR
        have hx : R[k]? = some R[k] := List.getElem?_eq_getElem hkR
        obtain ⟨x, hxe⟩ : ∃ x, x = R[k] := ⟨_, rfl⟩
        rw [← hxe] at a0 a1 hx
        have HF : Hid ((R.take (k + 1)).map (fun x => x.2) = (R.take k).map (fun x => x.2) ++ [x.2]) := Lib.hid (by rw [List.take_add_one, hx, List.map_append]; rfl)
        have hb2 : Below w1.heap.size w1 (wo.alloc (hobj x)) := HB.out.alloc HB.out.size _
        obtain ⟨v3, w3, hr3, ho3, hb3⟩ := append_one x.2 (Go.Proofs.Ytioidkbpjkcjeaa.own_below HO.out (fresh_alloc wo (hobj x))) (by have := HMB.out; simp; omega) hb2.size
        rw [← HF.out] at ho3
        rw [show (wo.alloc (hobj x)).heap.size = wo.heap.size + 1 by simp] at hr3
        have HO3 := Lib.hid ho3
        have HB3 := Lib.hid (hb2.trans hb3)
        have hk1 : (k : Int) < (m : Int) := by omega
        clear hc hx ho3 hb3 hxe hkR hb2 HF
        go_wp2_with (first | (at_builtin; refine wpList_append_run rfl _ _ _ _ rfl _ _ _ _ rfl rfl hr3 ?_))
        go_roundw
        case rel => exact ⟨k + 1, by omega, by first | rfl | exact congrArg _ (wrap_s HMM.out hlt) | go_num, HO3.out, HB3.out⟩
        case measure =>
          rw [wrap_s HMM.out hlt]
          exact int_less hlt
    · obtain rfl : k = m := by omega
      have hall : (R.take k).map (fun x => x.2) = R.map (fun x => x.2) := by rw [HM.out, List.take_length]
      rw [hall] at HO
      have HU2 := Lib.hid (HU.out _ wo (HO.out).at)
      have HB2 := Lib.hid (HG.out.trans (HB.out.mono HG.out.size))
      clear hall
      go_wp2_with (first | (go_at_call 27; refine HU2.out.mono ?_; rintro e w2 ⟨u2, rfl, ho2, hb2⟩))
      have HF : Hid (Own w2 w.heap.size u2 (idsE R) ∧ Below w.heap.size w w2) := Lib.hid ⟨Go.Joins.ownsRow_le ho2 HB2.out.size, HB2.out.trans (hb2.mono HB2.out.size)⟩
      clear ho2 hb2
      go_ret
      exact ⟨_, rfl, HF.out⟩
end Rn
end Go.Proofs.Ytioidkbpjkcjeaa
