/- Values in memory: rows of them, their order as the library's sort asks it, values as keys of a map. Conditions: those that each theorem names. -/
import Derived.Test.YtkmfkgjkgnlfnaaPlQ
import Derived.Test.YtkmfkgjkgnlfnaaRkS
import Derived.Test.YtkmfkgjkgnlfnaaWdGp
import Derived.Test.YtkmfkgjkgnlfnaaWdLay
import Derived.Test.YtkmfkgjkgnlfnaaMp
import Derived.DeepKeys4
namespace Go.Proofs.Ytkmfkgjkgnlfnaa
set_option linter.unusedVariables false
namespace Wd
open Go Go.RowKit Go.Shelf Go.Sort Go.Maps Pq Pq.Pl Rk
/-! ### The order is an order -/
theorem bytes_trans : ∀ a b c : List UInt8, Op.bytesLess a b = true → Op.bytesLess b c = true → Op.bytesLess a c = true
  | [], [], _, h, _ => by simp [Op.bytesLess] at h
  | [], _ :: _, [], _, h => by simp [Op.bytesLess] at h
  | [], _ :: _, _ :: _, _, _ => rfl
  | _ :: _, [], _, h, _ => by simp [Op.bytesLess] at h
  | _ :: _, _ :: _, [], _, h => by simp [Op.bytesLess] at h
  | x :: a, y :: b, z :: c, h1, h2 => by
    have ih := bytes_trans a b c
    have key : ∀ (p q : UInt8) (s t : List UInt8), Op.bytesLess (p :: s) (q :: t) = true ↔ p < q ∨ (p = q ∧ Op.bytesLess s t = true) := by
      intro p q s t
      simp only [Op.bytesLess]
      by_cases g1 : p < q
      · have g3 : ¬ p = q := fun e => by subst e; rw [UInt8.lt_iff_toNat_lt] at g1; omega
        simp [g1]
      · by_cases g2 : q < p
        · have g3 : ¬ p = q := fun e => by subst e; exact g1 g2
          simp [g1, g3]
        · have g3 : p = q := UInt8.toNat_inj.1 (by rw [UInt8.lt_iff_toNat_lt] at g1 g2; omega)
          subst g3
          simp [g1]
    rw [key] at h1 h2 ⊢
    rcases h1 with h1 | ⟨rfl, h1⟩
    · rcases h2 with h2 | ⟨rfl, h2⟩
      · exact .inl (by rw [UInt8.lt_iff_toNat_lt] at h1 h2 ⊢; omega)
      · exact .inl h1
    · rcases h2 with h2 | ⟨rfl, h2⟩
      · exact .inl h2
      · exact .inr ⟨rfl, ih h1 h2⟩
theorem val_ext {a b : Val} (h : eqV a b = true) : a = b := by
  obtain ⟨k, n, t⟩ := a
  obtain ⟨k', n', t'⟩ := b
  unfold eqV eqT at h
  simp only [Bool.and_eq_true, beq_iff_eq] at h
  obtain ⟨rfl, rfl, h⟩ := h
  rw [Go.ByteArray.toList_eq, Go.ByteArray.toList_eq] at h
  have : t = t' := by
    apply ByteArray.ext
    exact Array.toList_inj.1 h
  rw [this]
theorem eqV_self (a : Val) : eqV a a = true := by unfold eqV eqT; simp
instance : DecidableEq Val := fun a b => if h : eqV a b = true then .isTrue (val_ext h) else .isFalse fun e => h (by subst e; exact eqV_self a)
instance : Inhabited Val := ⟨⟨0, 0, ⟨#[]⟩⟩⟩
theorem eqV_is (a b : Val) : eqV a b = decide (a = b) := by
  by_cases h : a = b
  · subst h; rw [eqV_self]; simp
  · rw [decide_eq_false h]
    cases e : eqV a b with
    | false => rfl
    | true => exact absurd (val_ext e) h
theorem cmp_zero (a b : Val) : cmpV a b = 0 ↔ a = b := by
  have h := cmpV_zero a b
  rw [eqV_is] at h
  constructor
  · intro e; rw [e] at h; exact of_decide_eq_true h.symm
  · rintro rfl; simpa using h
def ltV (a b : Val) : Bool := decide (cmpV a b < 0)
theorem ltV_iff (a b : Val) : ltV a b = true ↔ a.kind < b.kind ∨ (a.kind = b.kind ∧ (a.n < b.n ∨ (a.n = b.n ∧ Op.bytesLess a.text.toList b.text.toList = true))) := by
  unfold ltV cmpV lessT eqT
  rw [decide_eq_true_eq]
  rcases Int.lt_trichotomy a.kind b.kind with h | h | h
  · have h2 : ¬ b.kind < a.kind := by omega
    simp [h]
  · rw [h]
    rcases Int.lt_trichotomy a.n b.n with h | h | h
    · simp [h]
    · rw [h]
      cases hb : Op.bytesLess a.text.toList b.text.toList with
      | true => simp
      | false =>
        simp
        split <;> omega
    · have h2 : ¬ a.n < b.n := by omega
      have h3 : ¬ a.n = b.n := by omega
      simp [h, h2, h3]
  · have h2 : ¬ a.kind < b.kind := by omega
    have h3 : ¬ a.kind = b.kind := by omega
    simp [h, h2, h3]
theorem ordV : Wd.Order ltV where
  irr a := by
    cases h : ltV a a with
    | false => rfl
    | true =>
      rcases (ltV_iff a a).1 h with e | ⟨_, e | ⟨_, e⟩⟩
      · omega
      · omega
      · rw [bytes_self] at e; cases e
  tr {a b c} h1 h2 := by
    rw [ltV_iff] at h1 h2 ⊢
    rcases h1 with h1 | ⟨e1, h1⟩
    · rcases h2 with h2 | ⟨e2, h2⟩
      · exact .inl (by omega)
      · exact .inl (by omega)
    · rcases h2 with h2 | ⟨e2, h2⟩
      · exact .inl (by omega)
      · refine .inr ⟨by omega, ?_⟩
        rcases h1 with h1 | ⟨e3, h1⟩
        · rcases h2 with h2 | ⟨e4, h2⟩
          · exact .inl (by omega)
          · exact .inl (by omega)
        · rcases h2 with h2 | ⟨e4, h2⟩
          · exact .inl (by omega)
          · exact .inr ⟨by omega, bytes_trans _ _ _ h1 h2⟩
  tri a b := by
    have h1 := cmpV_bd a b
    have h2 := cmpV_turned a b
    rcases Int.lt_trichotomy (cmpV a b) 0 with h | h | h
    · exact .inr (.inl (decide_eq_true h))
    · exact .inl ((cmp_zero a b).1 h)
    · exact .inr (.inr (decide_eq_true (by omega)))
theorem ltOf_is : ltOf cmpV = ltV := rfl
theorem swoV : SWO (ltOf cmpV) where
  irrefl := ordV.irr
  trans x y z := ordV.tr
  ntrans x y z h1 h2 := by
    rw [ltOf_is] at *
    cases h : ltV x z with
    | false => rfl
    | true =>
      rcases ordV.tri x y with e | e | e
      · subst e; rw [h] at h2; cases h2
      · rw [e] at h1; cases h1
      · have := ordV.tr e h; rw [this] at h2; cases h2
theorem totV (x y : Val) (h1 : ltOf cmpV x y = false) (h2 : ltOf cmpV y x = false) : x = y := by
  rw [ltOf_is] at *
  rcases ordV.tri x y with e | e | e
  · exact e
  · rw [e] at h1; cases h1
  · rw [e] at h2; cases h2
/-- Sorted unlike values rise. -/
theorem sort_ris {L : List Val} (h : L.Nodup) : RisV ltV (L.mergeSort fun x y => !(ltOf cmpV) y x) := by
  have hp := List.mergeSort_perm L (fun x y => !(ltOf cmpV) y x)
  have hs := List.pairwise_mergeSort (le := fun x y => !(ltOf cmpV) y x) (fun a b c h1 h2 => by
      simp only [Bool.not_eq_true'] at *; exact swoV.ntrans c b a h2 h1) (fun a b => by
      cases h : (ltOf cmpV) b a with
      | false => simp
      | true => rw [ltOf_is] at *; rw [ordV.asymm h]; simp) L
  have hn : (L.mergeSort fun x y => !(ltOf cmpV) y x).Nodup := hp.nodup_iff.2 h
  refine (hs.and hn).imp fun {a b} ⟨h1, h2⟩ => ?_
  simp only [Bool.not_eq_true'] at h1
  rcases ordV.tri a b with e | e | e
  · exact absurd e h2
  · exact e
  · rw [ltOf_is] at h1; rw [e] at h1; cases h1
/-! ### Values as values -/
abbrev vv (v : Val) : Value := .agg #[.int .i64 v.kind, .int .i64 v.n, .string v.text]
def encV (v : Val) : List Value := [.int .i64 v.kind, .int .i64 v.n, .string v.text]
abbrev vobj (v : Val) : Obj := .cells #[.int .i64 v.kind, .int .i64 v.n, .string v.text] 24
theorem flatV : Flat Try.prog encV 3 24 43 32 where
  under := Try.underlying43
  info := info_of (z := .agg #[.int .i64 0, .int .i64 0, .string ⟨#[]⟩]) (by kernel_rfl) rfl
  pos := by decide
  len _ := rfl
  one x u hu := by simp [encV] at hu; rcases hu with rfl | rfl | rfl <;> rfl
theorem vv_inj {a b : Val} (h : vv a = vv b) : a = b := by
  obtain ⟨k, n, t⟩ := a
  obtain ⟨k', n', t'⟩ := b
  injection h with h
  injection h with h
  injection h with h1 h
  injection h with h2 h
  injection h with h3 _
  injection h1 with _ h1
  injection h2 with _ h2
  injection h3 with h3
  subst h1; subst h2; subst h3; rfl
/-- A value of numbers of 64 bits and a text of bearable size. -/
def OkV (v : Val) : Prop := (Lit.int .i64 v.kind).wf = true ∧ (Lit.int .i64 v.n).wf = true ∧ v.text.size ≤ Room
theorem val_keyed : Keyed Try.prog 24 := Keyed.of_law (deep_law_laid (m := 5) (by kernel_rfl) (by decide) (of_decide_eq_true (by kernel_rfl)) (by kernel_rfl) (by kernel_rfl))
set_option maxRecDepth 100000 in
theorem key_val (x : Val) (h : OkV x) : ∃ l, keyOf Try.prog 24 (vv x) = some l := by
  obtain ⟨a, b, t⟩ := x
  obtain ⟨h1, h2, h3⟩ := h
  simp only at h1 h2 h3
  have h3 : t.size ≤ maxLen := room_len h3
  have hs : 0 < Try.prog.types.size := of_decide_eq_true (by kernel_rfl)
  obtain ⟨d, hd⟩ : ∃ d, Try.prog.types.size + 1 = d + 1 + 1 := ⟨Try.prog.types.size - 1, by omega⟩
  have c1 : Try.prog.cellsOf 3 = 1 := by kernel_rfl
  have c3 : Try.prog.cellsOf 9 = 1 := by kernel_rfl
  have c2 : Try.prog.cellsOf 24 = 3 := by kernel_rfl
  have kt : Try.prog.keyType 24 = true := by kernel_rfl
  have hi : ∀ n, (Lit.int .i64 n).wf = true → Try.prog.keyLits (d + 1) 3 [.int .i64 n] = some [.int .i64 n] := fun n hn => by
    rw [Program.keyLits.eq_def]
    simp only [Try.underlying3]
    simp [hn]
  have hst : ∃ q, Try.prog.keyLits (d + 1) 9 [.string t] = some q := by
    rw [Program.keyLits.eq_def]
    simp only [Try.underlying9]
    simp [h3]
  obtain ⟨q, hst⟩ := hst
  unfold keyOf
  rw [Try.underlying24, hd]
  simp only [kt, Value.formed, Try.underlying24, c2, Bool.true_and]
  rw [if_pos (by rfl), Program.keyLits.eq_def]
  simp only [Try.underlying24]
  simp [Value.cells, c1, c2, c3, hi a h1, hi b h2, hst]
end Wd
end Go.Proofs.Ytkmfkgjkgnlfnaa
