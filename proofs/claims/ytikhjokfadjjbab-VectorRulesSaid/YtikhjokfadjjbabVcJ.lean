/- fit of the laws of chapter 6: a vector of so many components out of any row. Conditions: those that each theorem names. -/
import Derived.Test.YtikhjokfadjjbabVcI
namespace Go.Proofs.Ytikhjokfadjjbab
set_option linter.unusedVariables false
open Go Go.RowKit Vc
def fitX (x : Int) : Int := max (-32768) (min x 32767)
def fitAt (L : List Int) (i : Nat) : Int := ((L[i]?).map fitX).getD 0
def fitL (L : List Int) (n : Nat) : List Int := (List.range n).map (fitAt L)
theorem fitL_length (L : List Int) (n : Nat) : (fitL L n).length = n := by simp [fitL]
theorem fitL_next (L : List Int) (n : Nat) : fitL L (n + 1) = fitL L n ++ [fitAt L n] := by simp [fitL, List.range_succ]
theorem fitX_bd (x : Int) : -32768 ≤ fitX x ∧ fitX x ≤ 32767 := by unfold fitX; omega
theorem fitAt_bd (L : List Int) (i : Nat) : -32768 ≤ fitAt L i ∧ fitAt L i ≤ 32767 := by
  unfold fitAt
  cases L[i]? with
  | none => decide
  | some x => exact fitX_bd x
theorem fitL_vec (L : List Int) (n : Nat) (h1 : 1 ≤ n) (h2 : n ≤ 64) : vecB (fitL L n) = true := by
  simp only [vecB, fitL_length, Bool.and_eq_true, decide_eq_true_eq, List.all_eq_true]
  refine ⟨⟨h1, h2⟩, fun x hx => ?_⟩
  simp only [fitL, List.mem_map] at hx
  obtain ⟨i, _, rfl⟩ := hx
  exact partB_is.mpr (fitAt_bd L i)
theorem fitL_alike (L M : List Int) (n : Nat) (h1 : 1 ≤ n) (h2 : n ≤ 64) : alikeB (fitL L n) (fitL M n) = true := by
  simp [alikeB, fitL_vec _ n h1 h2, fitL_length]
theorem own_alloc {w : World} {base : Nat} {v : Value} {L : List Int} (h : Own w base v L) (o : Obj) : Own (w.alloc o) base v L := World.ownsRow.alloc h o
theorem own_grown {w wr : World} {v : Value} {L : List Int} (hown : Own wr w.heap.size v L) (hbel : Below w.heap.size w wr) (o : Obj) (w' : World) (hg : (wr.alloc o).grownBy w' v.ownBlock) : Below w.heap.size w w' :=
  (hbel.alloc hbel.size _).grown hg (by have := hbel.size; simp; omega) fun g hg => (hown.block g hg).1
set_option maxHeartbeats 1000000 in
theorem fit_any (L : List Int) (v : Value) (N : Nat) (w : World) (h : IntsAt w v L) (hN : N ≤ 64) :
    Calls Try.prog 20 #[v, .int .i64 (N : Int)] w fun e w' => ∃ u, e = .returned u ∧ Own w' w.heap.size u (fitL L N) ∧ Below w.heap.size w w' := by
  have HI := Lib.hid h
  obtain ⟨p0, c0, hv⟩ := h.form
  have HV := Lib.hid hv
  subst hv
  clear h
  go_enter Try.func20, Try.ntmps20
  go_wp2
  go_loopw [5, 6] (fun v i wr => ∃ k : Nat, k ≤ N ∧ i = .int .i64 k ∧ Own wr w.heap.size v (fitL L k) ∧ Below w.heap.size w wr) (fun _ i _ => N - (intOf i).toNat)
  case atStart => exact ⟨0, Nat.zero_le _, rfl, World.ownsRow_nil _ _ _ _, Below.refl _ _⟩
  case round =>
    obtain ⟨k, hk, rfl, hown, hbel⟩ := hrel
    by_cases hlt : k < N
    · have HA := Lib.hid fun X : Int => append_ints (own_alloc hown (.cells #[.int .i64 X] 3)) (new_ints wr [X] 1 rfl) (by rw [fitL_length]; simp; omega) (by have := hbel.size; simp; omega)
      have HN := Lib.hid (fitL_next L k)
      have HB := Lib.hid (own_grown hown hbel)
      have hin := HI.out.below hbel
      clear hown hbel
      by_cases hkl : k < L.length
      · rcases hin with ⟨e, _⟩ | ⟨g, off, c, hs, hg, hc⟩
        · rw [e] at hkl; simp at hkl
        · obtain ⟨rfl, _, rfl⟩ : p0 = some ⟨g, off, none⟩ ∧ L.length = L.length ∧ c0 = c := by simpa using hs
          have hcell := hc wr rfl k hkl
          have hkl' : (k : Int) < L.length := by omega
          have hat : fitAt L k = fitX L[k] := by simp [fitAt, List.getElem?_eq_getElem hkl]
          rw [hat] at HN
          clear hat hc hs
          generalize L[k] = x at *
          have hX : max (-32768) (min x 32767) = fitX x := rfl
          generalize fitX x = X at *
          obtain ⟨v', w', hr, h2, h3⟩ := HA.out X
          have HO := Lib.hid h2
          have HG := Lib.hid (HB.out _ _ h3)
          clear h2 h3 HA HB
          go_wp2_with (at_builtin; refine wpList_append_run rfl _ _ _ _ rfl _ _ _ _ rfl rfl hr ?_)
          go_roundw
          case rel => exact ⟨k + 1, by omega, by go_num, by rw [HN.out]; exact HO.out, HG.out⟩
          case measure => simp [intOf]; omega
      · have hkl' : ¬ (k : Int) < L.length := by omega
        have hat : fitAt L k = 0 := by simp [fitAt, List.getElem?_eq_none (by omega : L.length ≤ k)]
        rw [hat] at HN
        obtain ⟨v', w', hr, h2, h3⟩ := HA.out 0
        have HO := Lib.hid h2
        have HG := Lib.hid (HB.out _ _ h3)
        clear h2 h3 HA HB hin hat
        go_wp2_with (at_builtin; refine wpList_append_run rfl _ _ _ _ rfl _ _ _ _ rfl rfl hr ?_)
        go_roundw
        case rel => exact ⟨k + 1, by omega, by go_num, by rw [HN.out]; exact HO.out, HG.out⟩
        case measure => simp [intOf]; omega
    · obtain rfl : k = N := by omega
      have HO := Lib.hid hown
      have HB := Lib.hid hbel
      clear hown hbel
      go_wp2
      go_ret
      exact ⟨_, rfl, HO.out, HB.out⟩
end Go.Proofs.Ytikhjokfadjjbab
