/- Manifests as plain data: which may be, their lines, what is read of lines. No program is named here. Conditions: none but those that each theorem names. -/
import Derived.Test.YtgpedeagaghpfaaGreatDoorWlPlain
import Derived.Test.YtgpedeagaghpfaaGreatDoorMfDg
namespace Go.Proofs.YtgpedeagaghpfaaGreatDoor
set_option linter.unusedVariables false
open Go
namespace Mf
abbrev bl (s : ByteArray) : Bs := s.data.toList
structure Mn where
  segs : List ByteArray
  log : ByteArray
  next : Int
  seq : Int
def Mn.zero : Mn := ⟨[], ⟨#[]⟩, 0, 0⟩
/-- A file's name, below a number. -/
def isNm (next : Int) : Bs → Bool
  | [] => false
  | c :: d => (c == 115 || c == 108) && (decide (1 ≤ numR d) && decide (numR d < next))
/-- The program's test. -/
def isNmP (next : Int) : Bs → Bool
  | [] => false
  | c :: d => (c == 115 || c == 108) && (decide (1 ≤ numS d) && (decide (numS d < next) && (Lib.itoa (numS d) == d)))
theorem nm_prog (next : Int) (h : next ≤ 4503599627370496) (s : Bs) : isNmP next s = isNm next s := by
  cases s with
  | nil => rfl
  | cons c d =>
    unfold isNmP isNm
    show (_ && _) = (_ && _)
    generalize (c == 115 || c == 108) = g
    refine congrArg (g && ·) ?_
    rw [Bool.eq_iff_iff]
    simp only [Bool.and_eq_true, decide_eq_true_eq, beq_iff_eq]
    constructor
    · rintro ⟨h1, h2, h3⟩
      rw [itoa_pos _ (by omega)] at h3
      have := numR_dec (numS d).toNat (by omega)
      rw [h3] at this
      omega
    · rintro ⟨h1, h2⟩
      obtain ⟨h3, h4⟩ := numR_of (s := d) (by omega)
      obtain ⟨n, hn⟩ := Int.eq_ofNat_of_zero_le (show 0 ≤ numR d by omega)
      rw [hn] at h1 h2 h3 h4
      rw [Int.toNat_natCast] at h3
      have h5 := numS_dec n (by omega)
      rw [h3, h5]
      exact ⟨h1, h2, itoa_nat n⟩
def may (m : Mn) : Bool :=
  decide (1 ≤ m.next) && (decide (m.next ≤ 4503599627370496) && (decide (0 ≤ m.seq) && (decide (m.seq ≤ 4503599627370496) && (decide (m.segs.length ≤ 1024) && (isNm m.next (bl m.log) && (m.segs.all (fun s => isNm m.next (bl s)) && decide (bl m.log ∉ m.segs.map bl ∧ (m.segs.map bl).Nodup)))))))
theorem may_iff (m : Mn) : may m = true ↔ 1 ≤ m.next ∧ m.next ≤ 4503599627370496 ∧ 0 ≤ m.seq ∧ m.seq ≤ 4503599627370496 ∧ m.segs.length ≤ 1024 ∧ isNm m.next (bl m.log) = true ∧ (∀ s ∈ m.segs, isNm m.next (bl s) = true) ∧ bl m.log ∉ m.segs.map bl ∧ (m.segs.map bl).Nodup := by
  unfold may
  simp only [Bool.and_eq_true, decide_eq_true_eq, List.all_eq_true]
/-! ### the lines -/
def wLode : Bs := [108, 111, 100, 101, 115, 116, 97, 114]
def wNext : Bs := [110, 101, 120, 116]
def wSeq : Bs := [115, 101, 113]
def wLog : Bs := [108, 111, 103]
def wSeg : Bs := [115, 101, 103, 109, 101, 110, 116]
def wSum : Bs := [115, 117, 109]
/-- A line without its end. -/
def ln0 (w t : Bs) : Bs := w ++ 32 :: t
def lineB (w t : Bs) : Bs := w ++ 32 :: (t ++ [10])
theorem lineB_eq (w t : Bs) : lineB w t = ln0 w t ++ [10] := by simp [lineB, ln0]
def heads (m : Mn) : List Bs := [ln0 wLode [49], ln0 wNext (Lib.itoa m.next), ln0 wSeq (Lib.itoa m.seq), ln0 wLog (bl m.log)]
def linesOf (m : Mn) : List Bs := heads m ++ m.segs.map fun s => ln0 wSeg (bl s)
def bodyB (m : Mn) : Bs := joinL (linesOf m)
def tailB (b : Bs) : Bs := lineB wSum (Lib.decDigits (Wl.crcL b))
def encB (m : Mn) : Bs := bodyB m ++ tailB (bodyB m)
theorem joinL_app (A B : List Bs) : joinL (A ++ B) = joinL A ++ joinL B := by simp [joinL]
theorem body_eq (m : Mn) : bodyB m = lineB wLode [49] ++ (lineB wNext (Lib.itoa m.next) ++ (lineB wSeq (Lib.itoa m.seq) ++ (lineB wLog (bl m.log) ++ m.segs.flatMap fun s => lineB wSeg (bl s)))) := by
  unfold bodyB linesOf heads
  rw [joinL_app]
  simp [joinL, lineB_eq, List.flatMap_map]
theorem nm_parts {next : Int} {s : Bs} (h : isNm next s = true) : ∃ c n, s = c :: Lib.decDigits n ∧ (c = 115 ∨ c = 108) ∧ 1 ≤ n ∧ (n : Int) < next ∧ n ≤ 4503599627370496 := by
  cases s with
  | nil => cases h
  | cons c d =>
    unfold isNm at h
    simp only [Bool.and_eq_true, decide_eq_true_eq, Bool.or_eq_true, beq_iff_eq] at h
    obtain ⟨h1, h2, h3⟩ := h
    obtain ⟨h4, h5⟩ := numR_of (s := d) (by omega)
    exact ⟨c, (numR d).toNat, by rw [← h4], h1, by omega, by omega, by omega⟩
theorem nm_no {next : Int} {s : Bs} (h : isNm next s = true) {c : UInt8} (h1 : c ≠ 115) (h2 : c ≠ 108) (h3 : digB c = false) : c ∉ s := by
  obtain ⟨a, n, rfl, ha, _⟩ := nm_parts h
  rw [List.mem_cons, not_or]
  refine ⟨fun e => ?_, no_dig (dec_all n).1 h3⟩
  rcases ha with rfl | rfl
  · exact h1 e
  · exact h2 e
theorem ln0_no {w t : Bs} (hw : (10 : UInt8) ∉ w) (ht : (10 : UInt8) ∉ t) : (10 : UInt8) ∉ ln0 w t := by
  unfold ln0
  rw [List.mem_append, List.mem_cons]
  rintro (h | h | h)
  · exact hw h
  · revert h; decide
  · exact ht h
theorem itoa_no {n : Int} (h : 0 ≤ n) {c : UInt8} (hc : digB c = false) : c ∉ Lib.itoa n := by rw [itoa_pos n h]; exact no_dig (dec_all _).1 hc
theorem lines_no {m : Mn} (h : may m = true) : ∀ x ∈ linesOf m, (10 : UInt8) ∉ x := by
  obtain ⟨h1, h2, h3, h4, h5, h6, h7, _⟩ := (may_iff m).1 h
  intro x hx
  unfold linesOf heads at hx
  simp only [List.mem_append, List.mem_cons, List.not_mem_nil, or_false, List.mem_map] at hx
  rcases hx with (rfl | rfl | rfl | rfl) | ⟨s, hs, rfl⟩
  · exact ln0_no (by decide) (by decide)
  · exact ln0_no (by decide) (itoa_no (by omega) (by decide))
  · exact ln0_no (by decide) (itoa_no h3 (by decide))
  · exact ln0_no (by decide) (nm_no h6 (by decide) (by decide) (by decide))
  · exact ln0_no (by decide) (nm_no (h7 s hs) (by decide) (by decide) (by decide))
/-! ### what the program reads -/
def stepR (m : Mn) (p : Bs) : Mn :=
  if (Lib.cut p [32]).1 = wNext then { m with next := numS (Lib.cut p [32]).2.1 }
  else if (Lib.cut p [32]).1 = wSeq then { m with seq := numS (Lib.cut p [32]).2.1 }
  else if (Lib.cut p [32]).1 = wLog then { m with log := ⟨(Lib.cut p [32]).2.1.toArray⟩ }
  else if (Lib.cut p [32]).1 = wSeg then { m with segs := m.segs ++ [⟨(Lib.cut p [32]).2.1.toArray⟩] }
  else m
def piecesB (s : ByteArray) : List ByteArray := Lib.splitB ⟨#[10]⟩ 0 (min 1029 (s.size + 1) - 1) s
def rd (s : ByteArray) : Mn := (piecesB s).foldl (fun m p => stepR m (bl p)) Mn.zero
theorem rd_list (s : ByteArray) : rd s = (Lib.splitK [10] 0 (min 1029 (s.size + 1) - 1) (bl s)).foldl stepR Mn.zero := by
  have h := Lib.splitB_data ⟨#[10]⟩ 0 (min 1029 (s.size + 1) - 1) s
  have e : (⟨#[10]⟩ : ByteArray).data.toList = [10] := rfl
  rw [e] at h
  rw [show bl s = s.data.toList from rfl, ← h, List.foldl_map]
  rfl
theorem cut_ln0 {w : Bs} (t : Bs) (h : (32 : UInt8) ∉ w) : Lib.cut (ln0 w t) [32] = (w, t, true) := cut_at 32 w t h
theorem mk_bl (s : ByteArray) : (⟨(bl s).toArray⟩ : ByteArray) = s := by cases s; simp [bl]
theorem step_none {p : Bs} (h1 : (Lib.cut p [32]).1 ≠ wNext) (h2 : (Lib.cut p [32]).1 ≠ wSeq) (h3 : (Lib.cut p [32]).1 ≠ wLog) (h4 : (Lib.cut p [32]).1 ≠ wSeg) (m : Mn) : stepR m p = m := by
  unfold stepR; rw [if_neg h1, if_neg h2, if_neg h3, if_neg h4]
theorem step_lode (m : Mn) (t : Bs) : stepR m (ln0 wLode t) = m := by
  refine step_none ?_ ?_ ?_ ?_ m <;> (rw [cut_ln0 t (by decide)]; dsimp only; decide)
theorem step_sum (m : Mn) (t : Bs) : stepR m (ln0 wSum t) = m := by
  refine step_none ?_ ?_ ?_ ?_ m <;> (rw [cut_ln0 t (by decide)]; dsimp only; decide)
theorem step_nil (m : Mn) : stepR m [] = m := by
  have : Lib.cut ([] : Bs) [32] = ([], [], false) := cut_none 32 [] (by simp)
  refine step_none ?_ ?_ ?_ ?_ m <;> (rw [this]; dsimp only; decide)
theorem step_next (m : Mn) (t : Bs) : stepR m (ln0 wNext t) = { m with next := numS t } := by
  unfold stepR; rw [cut_ln0 t (by decide)]; dsimp only; rw [if_pos rfl]
theorem step_seq (m : Mn) (t : Bs) : stepR m (ln0 wSeq t) = { m with seq := numS t } := by
  unfold stepR; rw [cut_ln0 t (by decide)]; dsimp only; rw [if_neg (by decide), if_pos rfl]
theorem step_log (m : Mn) (t : Bs) : stepR m (ln0 wLog t) = { m with log := ⟨t.toArray⟩ } := by
  unfold stepR; rw [cut_ln0 t (by decide)]; dsimp only; rw [if_neg (by decide), if_neg (by decide), if_pos rfl]
theorem step_seg (m : Mn) (t : Bs) : stepR m (ln0 wSeg t) = { m with segs := m.segs ++ [⟨t.toArray⟩] } := by
  unfold stepR; rw [cut_ln0 t (by decide)]; dsimp only; rw [if_neg (by decide), if_neg (by decide), if_neg (by decide), if_pos rfl]
theorem fold_segs : ∀ (L : List ByteArray) (m : Mn), (L.map fun s => ln0 wSeg (bl s)).foldl stepR m = { m with segs := m.segs ++ L }
  | [], m => by simp
  | s :: L, m => by
    rw [List.map_cons, List.foldl_cons, step_seg, fold_segs L]
    simp
theorem fold_heads (m : Mn) (h1 : 0 ≤ m.next) (h2 : m.next ≤ 4503599627370496) (h3 : 0 ≤ m.seq) (h4 : m.seq ≤ 4503599627370496) : (heads m).foldl stepR Mn.zero = ⟨[], m.log, m.next, m.seq⟩ := by
  unfold heads
  simp only [List.foldl_cons, List.foldl_nil]
  rw [step_lode, step_next, step_seq, step_log, mk_bl]
  obtain ⟨a, ha⟩ := Int.eq_ofNat_of_zero_le h1
  obtain ⟨b, hb⟩ := Int.eq_ofNat_of_zero_le h3
  rw [ha, hb, itoa_nat, itoa_nat, numS_dec a (by omega), numS_dec b (by omega)]
  rfl
/-- The tail of any lines, cut on: nothing more is read of it. -/
theorem fold_tail (k : Nat) (b : Bs) (m : Mn) : (Lib.splitK [10] 0 k (tailB b)).foldl stepR m = m := by
  have hno : (10 : UInt8) ∉ ln0 wSum (Lib.decDigits (Wl.crcL b)) := ln0_no (by decide) (no_dig (dec_all _).1 (by decide))
  have he : tailB b = ln0 wSum (Lib.decDigits (Wl.crcL b)) ++ 10 :: [] := by unfold tailB; rw [lineB_eq]
  cases k with
  | zero =>
    show [tailB b].foldl stepR m = m
    have : tailB b = ln0 wSum (Lib.decDigits (Wl.crcL b) ++ [10]) := rfl
    rw [this, List.foldl_cons, step_sum]; rfl
  | succ k =>
    rw [he, splitK_hit 10 _ _ _ hno, List.foldl_cons, step_sum]
    cases k with
    | zero =>
      show [([] : Bs)].foldl stepR m = m
      rw [List.foldl_cons, step_nil]; rfl
    | succ k =>
      have h0 : Lib.index ([] : Bs) [10] = -1 := index_none 10 [] (by simp)
      rw [Lib.splitK, h0]
      show [([] : Bs)].foldl stepR m = m
      rw [List.foldl_cons, step_nil]; rfl
theorem joinL_len (L : List Bs) : L.length ≤ (joinL L).length := by
  induction L with
  | nil => simp
  | cons x L ih => rw [joinL_cons]; simp; omega
theorem enc_len (m : Mn) : (linesOf m).length ≤ (encB m).length := by
  have := joinL_len (linesOf m)
  unfold encB bodyB
  simp; omega
/-- What a manifest that may be is written as is read as it was. -/
theorem rd_enc {m : Mn} (h : may m = true) (s : ByteArray) (hs : bl s = encB m) : rd s = m := by
  obtain ⟨h1, h2, h3, h4, h5, h6, h7, _⟩ := (may_iff m).1 h
  have hz : s.size = (encB m).length := by rw [← hs]; exact (Array.length_toList).symm
  have hl := enc_len m
  have hn : (linesOf m).length = 4 + m.segs.length := by simp [linesOf, heads]; omega
  rw [rd_list, hs]
  obtain ⟨k, hk⟩ : ∃ k, min 1029 (s.size + 1) - 1 = (linesOf m).length + k := ⟨min 1029 (s.size + 1) - 1 - (linesOf m).length, by omega⟩
  rw [hk]
  unfold encB bodyB
  rw [splitK_lines (linesOf m) _ k (lines_no h), List.foldl_append, fold_tail]
  unfold linesOf
  rw [List.foldl_append, fold_heads m (by omega) h2 h3 h4, fold_segs]
  simp
/-- The manifest whose bytes a text is. -/
def dec (s : ByteArray) : Option Mn := if may (rd s) = true ∧ encB (rd s) = bl s then some (rd s) else none
theorem dec_some {s : ByteArray} {m : Mn} : dec s = some m ↔ may m = true ∧ encB m = bl s := by
  unfold dec
  constructor
  · intro h
    split at h
    · rename_i hc
      injection h with h
      subst h
      exact hc
    · cases h
  · rintro ⟨h1, h2⟩
    have := rd_enc h1 s h2.symm
    rw [this, if_pos ⟨h1, h2⟩]
theorem dec_of (s : ByteArray) (y : Mn) (b : Bool) (hb : ∀ m, may m = true → encB m = bl s → y = m ∧ b = true) : (if b = true ∧ may y = true ∧ encB y = bl s then some y else none) = dec s := by
  split
  · rename_i h
    exact (dec_some.2 ⟨h.2.1, h.2.2⟩).symm
  · rename_i h
    cases hd : dec s with
    | none => rfl
    | some m =>
      obtain ⟨h1, h2⟩ := dec_some.1 hd
      obtain ⟨h3, h4⟩ := hb m h1 h2
      rw [h3, h4] at h
      exact absurd ⟨rfl, h1, h2⟩ h
end Mf
end Go.Proofs.YtgpedeagaghpfaaGreatDoor
