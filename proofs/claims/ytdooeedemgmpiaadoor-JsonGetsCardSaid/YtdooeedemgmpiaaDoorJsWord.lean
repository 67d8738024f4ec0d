/- The reader's call that reads a word. Conditions: none but those that each theorem names. -/
import Derived.Test.YtdooeedemgmpiaaDoorJsRd
namespace Go.Proofs.YtdooeedemgmpiaaDoor
set_option linter.unusedVariables false
open Go Go.RowKit Js

theorem extract_one (t : ByteArray) (k : Nat) (h : k < t.size) : (t.extract k (k + 1)).data.toList = [t.data.toList[k]'(by simpa using h)] := by
  have h' : k < t.data.toList.length := by simpa using h
  rw [ByteArray.data_extract, Array.toList_extract, List.extract_eq_take_drop, show k + 1 - k = 1 by omega, List.drop_eq_getElem_cons h']
  rfl
theorem word_step {t : ByteArray} {k : Nat} (h : k < t.size) (l : Bs) : word (t.data.toList.drop k) l = match l with | [] => .no eJson [] | d :: r => if takes (t.extract k (k + 1)) l = true then word (t.data.toList.drop (k + 1)) r else .no eJson (d :: r) := by
  have h' : k < t.data.toList.length := by simpa using h
  rw [List.drop_eq_getElem_cons h']
  cases l with
  | nil => rfl
  | cons d r =>
    simp only [word, takes, extract_one t k h]
    by_cases e : d = t.data.toList[k]
    · rw [if_pos e, if_pos (by simp [e])]
    · rw [if_neg e, if_neg (by simpa using e)]
theorem contains_part {t : ByteArray} (k : Nat) (h : k < t.size) (h0 : t.data.toList.contains 0 = false) : (t.extract k (k + 1)).data.toList.contains 0 = false := by
  rw [extract_one t k h]
  have := List.getElem_mem (l := t.data.toList) (n := k) (by simpa using h)
  simp only [List.contains_eq_mem, decide_eq_false_iff_not] at h0 ⊢
  simp only [List.mem_singleton]
  intro e; rw [e] at h0; exact h0 this
def WordR (R : Nat) (s t : ByteArray) (l : Bs) (w : World) (k : Nat) (wr : World) : Prop := ∃ l', Rd R s l' wr ∧ Gr (one' R) w wr ∧ word (t.data.toList.drop k) l' = word t.data.toList l
set_option maxHeartbeats 1000000 in
theorem word_any (R : Nat) (s t : ByteArray) (l : Bs) (w : World) (h : Rd R s l w) (hs : s.size ≤ maxLen) (ht : t.size ≤ 1000) (h0 : t.data.toList.contains 0 = false) :
    Calls Tryd.prog 34 #[.pointer (some ⟨R, 0, none⟩), .string t] w fun e w' => e = .returned (.int .i64 (word t.data.toList l).err) ∧ Gr (one' R) w w' ∧ Rd R s (word t.data.toList l).rest w' := by
  have H := Lib.hid h
  have H0 := Lib.hid h0
  clear h h0
  go_enter Tryd.func34, Tryd.ntmps34
  go_wp2_with fail
  go_loopw [8] (fun i wr => ∃ k : Nat, k ≤ t.size ∧ i = .int .i64 k ∧ WordR R s t l w k wr) (fun i _ => t.size - (intOf i).toNat)
  case atStart => exact ⟨0, Nat.zero_le _, rfl, l, H.out, Gr.refl _ _, rfl⟩
  case round =>
    obtain ⟨k, hk, rfl, l', hr, hg, he⟩ := hrel
    have HR := Lib.hid hr
    have HG := Lib.hid hg
    have HE := Lib.hid he
    clear hr hg he
    by_cases hlt : k < t.size
    · by_cases hx : takes (t.extract k (k + 1)) l' = true
      · obtain ⟨c, l'', rfl⟩ : ∃ c l'', l' = c :: l'' := by
          cases l' with
          | nil => simp [takes] at hx
          | cons c l'' => exact ⟨_, _, rfl⟩
        have HS : Hid (word (t.data.toList.drop (k + 1)) l'' = word t.data.toList l) := Lib.hid (by rw [← HE.out, word_step hlt]; simp [hx])
        have HX := Lib.hid hx
        clear hx
        go_wp2_with fail
        refine (take_yes R s _ c l'' _ HR.out hs HX.out).mono ?_
        rintro e w1 ⟨rfl, hg1, hr1⟩
        have HF : Hid (WordR R s t l w (k + 1) w1) := Lib.hid ⟨l'', hr1, HG.out.trans hg1, HS.out⟩
        clear hg1 hr1
        go_wp2_with fail
        go_roundw
        case rel => exact ⟨k + 1, by omega, by go_num, HF.out⟩
        case measure => simp [intOf]; omega
      · have hx' : takes (t.extract k (k + 1)) l' = false := by simpa using hx
        have HS : Hid (word t.data.toList l = .no eJson l') := Lib.hid (by
          rw [← HE.out, word_step hlt]
          cases l' with
          | nil => rfl
          | cons d r => simp [hx'])
        have HX := Lib.hid hx'
        clear hx hx'
        go_wp2_with fail
        refine (take_no R s _ l' _ HR.out hs (contains_part k hlt H0.out) HX.out).mono ?_
        rintro e w1 ⟨rfl, hg1⟩
        have hr1 := HR.out.kept (hg1.block R HR.out.lt (fun x => x))
        have HR1 := Lib.hid hr1
        have HG1 := Lib.hid hg1
        clear hr1 hg1
        go_wp2_with fail
        go_ret
        rw [HS.out]
        exact ⟨rfl, HG.out.trans HG1.out.weak, HR1.out⟩
    · obtain rfl : k = t.size := by omega
      have HS : Hid (word t.data.toList l = .ok () l') := Lib.hid (by rw [← HE.out, List.drop_of_length_le (by simp)]; cases l' <;> rfl)
      go_wp2_with fail
      go_ret
      rw [HS.out]
      exact ⟨rfl, HG.out, HR.out⟩
end Go.Proofs.YtdooeedemgmpiaaDoor
