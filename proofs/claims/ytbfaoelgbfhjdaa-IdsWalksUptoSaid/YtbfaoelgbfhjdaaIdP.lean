/- The program's readSteps and Decode. Conditions: those that each theorem names. -/
import Derived.Test.YtbfaoelgbfhjdaaIdO
namespace Go.Proofs.Ytbfaoelgbfhjdaa
set_option linter.unusedVariables false
open Go Go.RowKit Ids
namespace Ids
def rdL (s : List UInt8) : List Int := (rd s 0).getD []
theorem smV_none {l : List UInt8} (h : smR 8 l = none) : smV l = (0, 0) := by unfold smV; rw [h]; rfl
theorem smV_some {l : List UInt8} {p : Nat × Nat} (h : smR 8 l = some p) : smV l = p := by unfold smV; rw [h]; rfl
theorem rd_len : ∀ (m : Nat) (s : List UInt8) (last : Int) (l : List Int), s.length ≤ m → rd s last = some l → l.length ≤ s.length := by
  intro m
  induction m with
  | zero =>
    intro s last l hs h
    obtain rfl : s = [] := List.eq_nil_of_length_eq_zero (by omega)
    rw [rd_nil] at h; injection h with h; subst h; simp
  | succ m ih =>
    intro s last l hs h
    by_cases he : s = []
    · subst he
      rw [rd_nil] at h; injection h with h; subst h; simp
    · cases hr : smR 8 s with
      | none => rw [rd_no he hr] at h; cases h
      | some p =>
        obtain ⟨n, k⟩ := p
        obtain ⟨i1, _, i3, i4, i5⟩ := smR_is _ _ _ _ hr
        rw [rd_yes hr] at h
        split at h
        · cases h
        · cases hl : rd (s.drop k) (last + n) with
          | none => rw [hl] at h; cases h
          | some l' =>
            rw [hl] at h
            simp only [Option.map_some] at h
            injection h with h
            subst h
            have := ih (s.drop k) (last + n) l' (by simp; omega) hl
            simp at this ⊢
            omega
theorem rdL_len (s : List UInt8) : (rdL s).length ≤ s.length := by
  unfold rdL
  cases h : rd s 0 with
  | none => simp
  | some l => exact rd_len _ s 0 l (Nat.le_refl _) h
end Ids
theorem ext_drop (s : ByteArray) (k : Nat) : (s.extract k s.size).data.toList = s.data.toList.drop k := by
  have hl : s.data.toList.length = s.size := Array.length_toList
  rw [ByteArray.data_extract, Array.toList_extract, List.extract_eq_take_drop, List.take_of_length_le (by simp)]
theorem ext_take (s : ByteArray) (k : Nat) : (s.extract 0 k).data.toList = s.data.toList.take k := by simp
theorem toL' (s : ByteArray) : s.toList = s.data.toList := Go.ByteArray.toList_eq s
def strLen : Value → Nat
  | .string t => t.size
  | _ => 0
def StepsP (s : ByteArray) (w : World) (e : Ending) (w' : World) : Prop :=
  ∃ u, e = .returned (.tuple #[u, .bool (rd s.data.toList 0).isSome]) ∧ Own w' w.heap.size u (rdL s.data.toList) ∧ Below w.heap.size w w'
theorem StepsP.no {s : ByteArray} {w w' : World} (h : rd s.data.toList 0 = none) (hb : Below w.heap.size w w') : StepsP s w (.returned (.tuple #[.slice none 0 0, .bool false])) w' := by
  refine ⟨_, by rw [h]; rfl, ?_, hb⟩
  have : rdL s.data.toList = [] := by unfold rdL; rw [h]; rfl
  rw [this]; exact own_nil _ _
theorem StepsP.yes {s : ByteArray} {w w' : World} {u : Value} {l : List Int} (h : rd s.data.toList 0 = some l) (ho : Own w' w.heap.size u l) (hb : Below w.heap.size w w') : StepsP s w (.returned (.tuple #[u, .bool true])) w' := by
  refine ⟨_, by rw [h]; rfl, ?_, hb⟩
  have : rdL s.data.toList = l := by unfold rdL; rw [h]; rfl
  rw [this]; exact ho
set_option maxHeartbeats 2000000 in
set_option maxRecDepth 100000 in
theorem readSteps_any (s : ByteArray) (w : World) (hs : s.size ≤ 16777215) :
    Calls Try.prog 43 #[.string s] w (StepsP s w) := by
  have HS := Lib.hid hs
  clear hs
  go_enter Try.func43, Try.ntmps43
  go_wp2
  go_loopw [0, 4, 5] (fun x l y wr => ∃ (t : ByteArray) (pre : List Int) (last : Int), x = .string t ∧ y = .int .i64 last ∧ Own wr w.heap.size l pre ∧ Hid (rd s.data.toList 0 = (rd t.data.toList last).map (pre ++ ·)) ∧ Hid (0 ≤ last ∧ last ≤ 4503599627370496) ∧ Hid (pre.length + t.size ≤ s.size) ∧ Below w.heap.size w wr) (fun x _ _ _ => strLen x)
  case atStart => exact ⟨s, [], 0, rfl, rfl, own_nil _ _, Lib.hid (by simp), Lib.hid (by omega), Lib.hid (by simp), Below.refl _ _⟩
  case round =>
    obtain ⟨t, pre, last, rfl, rfl, ho, HR, HLB, HSZ, hb⟩ := hrel
    have HO := Lib.hid ho
    have HB := Lib.hid hb
    clear ho hb
    obtain ⟨wo, rfl⟩ : ∃ wo : World, wo = wr := ⟨_, rfl⟩
    by_cases ht : t.data.toList = []
    · have he : t.toList = [] := by rw [toL', ht]
      have HE : Hid (rd s.data.toList 0 = some pre) := Lib.hid (by rw [HR.out, ht, rd_nil]; simp)
      clear ht HR
      go_wp2_with fail
      go_ret2
      exact StepsP.yes HE.out HO.out HB.out
    · have he : t.toList.isEmpty = false := by
        rw [toL']
        cases h : t.data.toList with
        | nil => exact absurd h ht
        | cons _ _ => rfl
      have CS := Lib.hid (readSmall_any t wo (by have := HSZ.out; have := HS.out; omega))
      cases hr : smR 8 t.data.toList with
      | none =>
        rw [smV_none hr] at CS
        have HE : Hid (rd s.data.toList 0 = none) := Lib.hid (by rw [HR.out, rd_no ht hr]; rfl)
        clear ht HR hr
        go_wp2_with (go_at_call 50; refine CS.out.mono ?_; rintro e w2 ⟨rfl, rfl⟩)
        go_ret2
        exact StepsP.no HE.out HB.out
      | some p =>
        obtain ⟨n, k⟩ := p
        rw [smV_some hr] at CS
        obtain ⟨i1, i2, i3, i4, i5⟩ := smR_is _ _ _ _ hr
        have hk0 : ((k : Int) == 0) = false := by simp; omega
        have hy := rd_yes (last := last) hr
        have hsub : wrap64 (4503599627370496 - last) = 4503599627370496 - last := wrapI _ (by have := HLB.out; omega)
        by_cases hg : 4503599627370496 - last < (n : Int)
        · rw [if_pos hg] at hy
          have HE : Hid (rd s.data.toList 0 = none) := Lib.hid (by rw [HR.out, hy]; rfl)
          have hg' : (4503599627370496 : Int) - last < (n : Int) := hg
          clear ht HR hr hy i1 i2 i3 i4 i5 hg
          go_wp2_with (go_at_call 50; refine CS.out.mono ?_; rintro e w2 ⟨rfl, rfl⟩)
          go_ret2
          exact StepsP.no HE.out HB.out
        · rw [if_neg hg] at hy
          have hg' : ¬ (4503599627370496 : Int) - last < (n : Int) := hg
          have hkl : k ≤ t.size := by
            have h9 : t.data.toList.length = t.size := Array.length_toList
            omega
          obtain ⟨z, hz⟩ : ∃ z, z = last + (n : Int) := ⟨_, rfl⟩
          rw [← hz] at hy
          have hadd : wrap64 (last + (n : Int)) = z := by rw [wrapI _ (by have := HLB.out; omega), hz]
          obtain ⟨v3, w3, hr3, ho3, hb3⟩ := append_one z HO.out (by have := HSZ.out; have := HS.out; omega) HB.out.size
          have HO3 := Lib.hid ho3
          have HB3 := Lib.hid (HB.out.trans hb3)
          have HR2 : Hid (rd s.data.toList 0 = (rd (t.extract k t.size).data.toList z).map ((pre ++ [z]) ++ ·)) := Lib.hid (by
            rw [HR.out, hy, ext_drop, Option.map_map]
            congr 1
            funext l
            simp)
          have HLB2 : Hid (0 ≤ z ∧ z ≤ 4503599627370496) := Lib.hid (by have := HLB.out; omega)
          have HES : Hid ((t.extract k t.size).size = t.size - k) := Lib.hid (by simp)
          have HSZ2 : Hid ((pre ++ [z]).length + (t.extract k t.size).size ≤ s.size) := Lib.hid (by have := HSZ.out; rw [HES.out]; simp; omega)
          have HME : Hid ((t.extract k t.size).size < t.size) := Lib.hid (by rw [HES.out]; omega)
          have hk1 : (0 : Int) ≤ (k : Int) := by omega
          have hk2 : (k : Int) ≤ (t.size : Int) := by omega
          clear ht HR hr hy i1 i2 i3 i4 i5 hg ho3 hb3 hz
          go_wp2_with (first
            | (go_at_call 50; refine CS.out.mono ?_; rintro e w2 ⟨rfl, rfl⟩)
            | (at_builtin; refine wpList_append_run rfl _ _ _ _ rfl _ _ _ _ rfl rfl hr3 ?_))
          go_roundw
          case rel => exact ⟨_, _, z, rfl, rfl, HO3.out, HR2, HLB2, HSZ2, HB3.out⟩
          case measure => exact HME.out
theorem decB_eq (s : List UInt8) (h : ¬ s.length < 4) : decB s = match rd (s.drop 4) 0 with
  | none => none
  | some l => if l.length = unfL (s.take 4) then some l else none := by unfold decB; rw [if_neg h]; cases rd (s.drop 4) 0 <;> rfl
/-- What Decode answers. -/
def DecP (s : ByteArray) (w : World) (e : Ending) (w' : World) : Prop :=
  ∃ u, e = .returned (.tuple #[u, .int .i64 (if (decB s.data.toList).isSome then 0 else 80)]) ∧ Own w' w.heap.size u ((decB s.data.toList).getD []) ∧ Below w.heap.size w w'
theorem DecP.no {s : ByteArray} {w w' : World} (h : decB s.data.toList = none) (hb : Below w.heap.size w w') : DecP s w (.returned (.tuple #[.slice none 0 0, .int .i64 80])) w' := by
  refine ⟨_, by rw [h]; rfl, ?_, hb⟩
  rw [h]; exact own_nil _ _
theorem DecP.yes {s : ByteArray} {w w' : World} {u : Value} {l : List Int} (h : decB s.data.toList = some l) (ho : Own w' w.heap.size u l) (hb : Below w.heap.size w w') : DecP s w (.returned (.tuple #[u, .int .i64 0])) w' := by
  refine ⟨_, by rw [h]; rfl, ?_, hb⟩
  rw [h]; exact ho
set_option maxHeartbeats 2000000 in
set_option maxRecDepth 100000 in
theorem decode_any (s : ByteArray) (w : World) (hs : s.size ≤ 16777215) :
    Calls Try.prog 28 #[.string s] w (DecP s w) := by
  have hl : s.data.toList.length = s.size := Array.length_toList
  by_cases h4 : s.size < 4
  · have HD : Hid (decB s.data.toList = none) := Lib.hid (by unfold decB; rw [if_pos (by omega)])
    have h4' : (s.size : Int) < 4 := by omega
    clear hl hs
    go_enter Try.func28, Try.ntmps28
    go_wp2_with fail
    go_ret2
    exact DecP.no HD.out (Below.refl _ _)
  · have h4' : ¬ (s.size : Int) < 4 := by omega
    have h4'' : (4 : Int) ≤ (s.size : Int) := by omega
    have hs4 : (s.extract 0 4).size = 4 := by simp; omega
    have CU := Lib.hid (unfix_any (s.extract 0 4) w (by omega) (by omega))
    rw [ext_take] at CU
    have CR := readSteps_any (s.extract 4 s.size) w (by simp; omega)
    unfold StepsP rdL at CR
    rw [ext_drop] at CR
    have hd := decB_eq s.data.toList (by omega)
    have hU := unfL_lt (s.data.toList.take 4)
    rw [show (s.data.toList.take 4).length = 4 by simp; omega] at hU
    have HU : Hid (unfL (s.data.toList.take 4) < 4294967296) := Lib.hid hU
    obtain ⟨N, hN⟩ : ∃ N, N = unfL (s.data.toList.take 4) := ⟨_, rfl⟩
    rw [← hN] at CU hd HU
    have hsz : ∀ l, rd (s.data.toList.drop 4) 0 = some l → l.length ≤ 16777215 := fun l h => by
      have := rd_len _ _ 0 l (Nat.le_refl _) h
      simp at this; omega
    clear hl hs hs4 hU hN h4
    cases hr : rd (s.data.toList.drop 4) 0 with
    | none =>
      rw [hr] at CR hd
      have HD : Hid (decB s.data.toList = none) := Lib.hid hd
      simp only [Option.isSome_none] at CR
      have CR' := Lib.hid CR
      clear CR hd hr hsz
      go_enter Try.func28, Try.ntmps28
      go_wp2_with (first
        | (go_at_call 42; refine CU.out.mono ?_; rintro e w2 ⟨rfl, rfl⟩)
        | (go_at_call 43; refine CR'.out.mono ?_; rintro e w3 ⟨u, rfl, ho, hb⟩; have HB := Lib.hid hb; clear ho hb))
      go_ret2
      exact DecP.no HD.out HB.out
    | some l =>
      rw [hr] at CR hd
      have hsz := hsz l hr
      have hwr : IntKind.u64.wrap (l.length : Int) = (l.length : Int) := IntWalk.u64_in _ (by omega)
      simp only [Option.isSome_some, Option.getD_some] at CR hd
      have CR' := Lib.hid CR
      by_cases hc : l.length = N
      · rw [if_pos hc] at hd
        have HD : Hid (decB s.data.toList = some l) := Lib.hid hd
        have hne : ((l.length : Int) != (N : Int)) = false := by simp [hc]
        clear CR hd hr hsz hc HU
        go_enter Try.func28, Try.ntmps28
        go_wp2_with (first
          | (go_at_call 42; refine CU.out.mono ?_; rintro e w2 ⟨rfl, rfl⟩)
          | (go_at_call 43; refine CR'.out.mono ?_; rintro e w3 ⟨u, rfl, ho, hb⟩; obtain ⟨p, c, hu⟩ := ho.at.form; subst hu; have HO := Lib.hid ho; have HB := Lib.hid hb; clear ho hb))
        go_ret2
        exact DecP.yes HD.out HO.out HB.out
      · rw [if_neg hc] at hd
        have HD : Hid (decB s.data.toList = none) := Lib.hid hd
        have hne : ((l.length : Int) != (N : Int)) = true := by simp; omega
        clear CR hd hr hsz hc HU
        go_enter Try.func28, Try.ntmps28
        go_wp2_with (first
          | (go_at_call 42; refine CU.out.mono ?_; rintro e w2 ⟨rfl, rfl⟩)
          | (go_at_call 43; refine CR'.out.mono ?_; rintro e w3 ⟨u, rfl, ho, hb⟩; obtain ⟨p, c, hu⟩ := ho.at.form; subst hu; have HO := Lib.hid ho; have HB := Lib.hid hb; clear ho hb))
        go_ret2
        exact DecP.no HD.out HB.out
end Go.Proofs.Ytbfaoelgbfhjdaa
