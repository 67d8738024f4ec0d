/- A scalar quantizer, plain: spans, codes, values, what is learnt of rows. Plain mathematics, no condition but those that each theorem names. -/
import Derived.Test.YtfgmkdghpdpdkaaVcPlain
namespace Go.Proofs.Ytfgmkdghpdpdkaa
namespace Sc
open Vc
abbrev Sp := Int × Int
def spansL (lo hi : List Int) : List Sp := lo.zip hi
def lowB (s : Sp) : Bool := decide (s.1 ≤ s.2)
def mayB (lo hi : List Int) : Bool := vecB lo && (vecB hi && (decide (lo.length = hi.length) && (spansL lo hi).all lowB))
def codeI (s : Sp) (x : Int) : Int := if x < s.1 then 0 else if s.2 < x then 255 else if s.1 = s.2 then 0 else (x - s.1) * 255 / (s.2 - s.1)
def valueI (s : Sp) (c : Int) : Int := s.1 + c * (s.2 - s.1) / 255
def stepI (s : Sp) : Int := (s.2 - s.1) / 255 + 1
/-- A span that may be: both ends are components. -/
def OkS (s : Sp) : Prop := -32768 ≤ s.1 ∧ s.1 ≤ s.2 ∧ s.2 ≤ 32767
theorem may_of {lo hi : List Int} (h : mayB lo hi = true) : vecB lo = true ∧ vecB hi = true ∧ lo.length = hi.length ∧ (spansL lo hi).all lowB = true := by
  simpa [mayB] using h
theorem spans_len {lo hi : List Int} (h : lo.length = hi.length) : (spansL lo hi).length = lo.length := by simp [spansL, h]
theorem spans_at {lo hi : List Int} (h : lo.length = hi.length) (k : Nat) (hk : k < lo.length) : (spansL lo hi)[k]'(by rw [spans_len h]; exact hk) = (lo[k], hi[k]'(by omega)) := by simp [spansL]
theorem ok_of {lo hi : List Int} (h : mayB lo hi = true) : ∀ s ∈ spansL lo hi, OkS s := by
  obtain ⟨h1, h2, h3, h4⟩ := may_of h
  intro s hs
  obtain ⟨k, hk, rfl⟩ := List.getElem_of_mem hs
  have hk' : k < lo.length := by rw [← spans_len h3]; exact hk
  have e := List.all_eq_true.1 h4 _ hs
  rw [spans_at h3 k hk'] at e ⊢
  have a := (parts_of h1).2.2 k hk'
  have b := (parts_of h2).2.2 k (by omega)
  simp only [lowB, decide_eq_true_eq] at e
  exact ⟨a.1, e, b.2⟩
theorem code_bd {s : Sp} (h : OkS s) (x : Int) : 0 ≤ codeI s x ∧ codeI s x ≤ 255 := by
  obtain ⟨h1, h2, h3⟩ := h
  unfold codeI
  by_cases c1 : x < s.1
  · simp [c1]
  · rw [if_neg c1]
    by_cases c2 : s.2 < x
    · simp [c2]
    · rw [if_neg c2]
      by_cases c3 : s.1 = s.2
      · simp [c3]
      · rw [if_neg c3]
        have hw : 0 < s.2 - s.1 := by omega
        refine ⟨Int.ediv_nonneg (by omega) (by omega), ?_⟩
        rw [← Int.lt_add_one_iff]
        refine Int.ediv_lt_of_lt_mul hw ?_
        have : (x - s.1) * 255 ≤ (s.2 - s.1) * 255 := by omega
        omega
theorem value_bd {s : Sp} (h : OkS s) {c : Int} (h0 : 0 ≤ c) (h1 : c ≤ 255) : s.1 ≤ valueI s c ∧ valueI s c ≤ s.2 := by
  obtain ⟨a1, a2, a3⟩ := h
  unfold valueI
  have hw : 0 ≤ s.2 - s.1 := by omega
  have p0 : 0 ≤ c * (s.2 - s.1) := Int.mul_nonneg h0 hw
  have p1 : c * (s.2 - s.1) ≤ 255 * (s.2 - s.1) := Int.mul_le_mul_of_nonneg_right h1 hw
  generalize c * (s.2 - s.1) = p at *
  omega
/-- What a component's code tells of it. -/
theorem near {s : Sp} (h : OkS s) {x : Int} (hx : s.1 ≤ x) (hx2 : x ≤ s.2) : valueI s (codeI s x) - x ≤ stepI s ∧ x - valueI s (codeI s x) ≤ stepI s := by
  obtain ⟨a1, a2, a3⟩ := h
  unfold valueI codeI stepI
  rw [if_neg (by omega), if_neg (by omega)]
  by_cases c3 : s.1 = s.2
  · rw [if_pos c3]; omega
  · rw [if_neg c3]
    have hw : 0 < s.2 - s.1 := by omega
    have e := Int.mul_ediv_add_emod ((x - s.1) * 255) (s.2 - s.1)
    have m0 := Int.emod_nonneg ((x - s.1) * 255) (show s.2 - s.1 ≠ 0 by omega)
    have m1 := Int.emod_lt_of_pos ((x - s.1) * 255) hw
    rw [Int.mul_comm (s.2 - s.1)] at e
    generalize (x - s.1) * 255 / (s.2 - s.1) * (s.2 - s.1) = p at *
    generalize (x - s.1) * 255 % (s.2 - s.1) = r at *
    omega
/-! ### What is learnt -/
def wide (s : Sp) (x : Int) : Sp := (min s.1 x, max s.2 x)
def rowsB (M : List (List Int)) : Bool := decide (M ≠ []) && M.all (fun v => vecB v && decide (v.length = (M.headD []).length))
def lowsL (r : List Int) (M : List (List Int)) : List Int := M.foldl (fun a v => List.zipWith min a v) r
def highsL (r : List Int) (M : List (List Int)) : List Int := M.foldl (fun a v => List.zipWith max a v) r
def learnL (S : List Sp) (M : List (List Int)) : List Sp := M.foldl (fun S v => List.zipWith wide S v) S
def trainLo (M : List (List Int)) : List Int := lowsL (M.headD []) M
def trainHi (M : List (List Int)) : List Int := highsL (M.headD []) M
theorem zip_wide : ∀ (a b v : List Int), List.zipWith wide (a.zip b) v = (List.zipWith min a v).zip (List.zipWith max b v)
  | [], _, _ => by simp
  | _ :: _, [], v => by cases v <;> simp
  | _ :: _, _ :: _, [] => by simp
  | x :: a, y :: b, z :: v => by simp [zip_wide a b v, wide]
theorem learn_zip : ∀ (M : List (List Int)) (a b : List Int), learnL (a.zip b) M = (lowsL a M).zip (highsL b M)
  | [], a, b => rfl
  | v :: M, a, b => by
    show learnL (List.zipWith wide (a.zip b) v) M = (lowsL (List.zipWith min a v) M).zip (highsL (List.zipWith max b v) M)
    rw [zip_wide, learn_zip M]
theorem zip_min_self : ∀ (a : List Int), List.zipWith min a a = a
  | [] => rfl
  | x :: a => by simp [zip_min_self a]
theorem zip_max_self : ∀ (a : List Int), List.zipWith max a a = a
  | [] => rfl
  | x :: a => by simp [zip_max_self a]
theorem lows_len {n : Nat} : ∀ (M : List (List Int)) (a : List Int), a.length = n → (∀ v ∈ M, v.length = n) → (lowsL a M).length = n
  | [], a, h, _ => h
  | v :: M, a, h, hM => lows_len M _ (by simp [h, hM v (by simp)]) fun u hu => hM u (by simp [hu])
theorem highs_len {n : Nat} : ∀ (M : List (List Int)) (a : List Int), a.length = n → (∀ v ∈ M, v.length = n) → (highsL a M).length = n
  | [], a, h, _ => h
  | v :: M, a, h, hM => highs_len M _ (by simp [h, hM v (by simp)]) fun u hu => hM u (by simp [hu])
theorem rows_of {M : List (List Int)} (h : rowsB M = true) : ∃ r R, M = r :: R ∧ vecB r = true ∧ ∀ v ∈ M, vecB v = true ∧ v.length = r.length := by
  simp only [rowsB, Bool.and_eq_true, decide_eq_true_eq, List.all_eq_true] at h
  cases M with
  | nil => exact absurd rfl h.1
  | cons r R => exact ⟨r, R, rfl, (h.2 r (by simp)).1, fun v hv => h.2 v hv⟩
/-- What is learnt holds at each component: it bounds what the rows hold there, and is one of it. -/
theorem lows_at {n k : Nat} (hk : k < n) : ∀ (M : List (List Int)) (a : List Int), a.length = n → (∀ v ∈ M, v.length = n) →
    (lowsL a M)[k]! ≤ a[k]! ∧ (∀ v ∈ M, (lowsL a M)[k]! ≤ v[k]!) ∧ ((lowsL a M)[k]! = a[k]! ∨ ∃ v ∈ M, (lowsL a M)[k]! = v[k]!)
  | [], a, h, _ => ⟨Int.le_refl _, fun v hv => (by cases hv), .inl rfl⟩
  | v :: M, a, h, hM => by
    have hv := hM v (by simp)
    obtain ⟨i1, i2, i3⟩ := lows_at hk M (List.zipWith min a v) (by simp [h, hv]) fun u hu => hM u (by simp [hu])
    have e : (List.zipWith min a v)[k]! = min a[k]! v[k]! := by
      rw [getElem!_pos _ _ (by simp [h, hv]; omega), getElem!_pos a k (by omega), getElem!_pos v k (by omega)]; simp
    rw [e] at i1 i3
    refine ⟨?_, fun u hu => ?_, ?_⟩
    · show (lowsL (List.zipWith min a v) M)[k]! ≤ _; omega
    · rcases List.mem_cons.1 hu with rfl | hu
      · show (lowsL (List.zipWith min a u) M)[k]! ≤ _; omega
      · exact i2 u hu
    · rcases i3 with i3 | ⟨u, hu, i3⟩
      · show (lowsL (List.zipWith min a v) M)[k]! = _ ∨ ∃ u ∈ _, (lowsL (List.zipWith min a v) M)[k]! = _
        rcases Int.le_total a[k]! v[k]! with c | c
        · exact .inl (by omega)
        · exact .inr ⟨v, by simp, by omega⟩
      · exact .inr ⟨u, by simp [hu], i3⟩
theorem highs_at {n k : Nat} (hk : k < n) : ∀ (M : List (List Int)) (a : List Int), a.length = n → (∀ v ∈ M, v.length = n) →
    a[k]! ≤ (highsL a M)[k]! ∧ (∀ v ∈ M, v[k]! ≤ (highsL a M)[k]!) ∧ ((highsL a M)[k]! = a[k]! ∨ ∃ v ∈ M, (highsL a M)[k]! = v[k]!)
  | [], a, h, _ => ⟨Int.le_refl _, fun v hv => (by cases hv), .inl rfl⟩
  | v :: M, a, h, hM => by
    have hv := hM v (by simp)
    obtain ⟨i1, i2, i3⟩ := highs_at hk M (List.zipWith max a v) (by simp [h, hv]) fun u hu => hM u (by simp [hu])
    have e : (List.zipWith max a v)[k]! = max a[k]! v[k]! := by
      rw [getElem!_pos _ _ (by simp [h, hv]; omega), getElem!_pos a k (by omega), getElem!_pos v k (by omega)]; simp
    rw [e] at i1 i3
    refine ⟨?_, fun u hu => ?_, ?_⟩
    · show _ ≤ (highsL (List.zipWith max a v) M)[k]!; omega
    · rcases List.mem_cons.1 hu with rfl | hu
      · show _ ≤ (highsL (List.zipWith max a u) M)[k]!; omega
      · exact i2 u hu
    · rcases i3 with i3 | ⟨u, hu, i3⟩
      · show (highsL (List.zipWith max a v) M)[k]! = _ ∨ ∃ u ∈ _, (highsL (List.zipWith max a v) M)[k]! = _
        rcases Int.le_total a[k]! v[k]! with c | c
        · exact .inr ⟨v, by simp, by omega⟩
        · exact .inl (by omega)
      · exact .inr ⟨u, by simp [hu], i3⟩
theorem vec_get {v : List Int} (h : vecB v = true) {k : Nat} (hk : k < v.length) : -32768 ≤ v[k]! ∧ v[k]! ≤ 32767 := by
  rw [getElem!_pos v k hk]; exact (parts_of h).2.2 k hk
/-- What is learnt of rows that may be learnt from is a quantizer that may be, and spans each row. -/
theorem train_may {M : List (List Int)} (h : rowsB M = true) : mayB (trainLo M) (trainHi M) = true ∧ (trainLo M).length = (M.headD []).length ∧ (trainHi M).length = (M.headD []).length ∧
    ∀ v ∈ M, ∀ k, k < v.length → (trainLo M)[k]! ≤ v[k]! ∧ v[k]! ≤ (trainHi M)[k]! := by
  obtain ⟨r, R, rfl, hr, hM⟩ := rows_of h
  have hlen : ∀ v ∈ r :: R, v.length = r.length := fun v hv => (hM v hv).2
  obtain ⟨n1, n64, _⟩ := parts_of hr
  have l1 : (trainLo (r :: R)).length = r.length := lows_len (r :: R) r rfl hlen
  have l2 : (trainHi (r :: R)).length = r.length := highs_len (r :: R) r rfl hlen
  have lo : ∀ k, k < r.length → (trainLo (r :: R))[k]! ≤ r[k]! ∧ (∀ v ∈ r :: R, (trainLo (r :: R))[k]! ≤ v[k]!) ∧ -32768 ≤ (trainLo (r :: R))[k]! := fun k hk => by
    obtain ⟨a1, a2, a3⟩ := lows_at hk (r :: R) r rfl hlen
    refine ⟨a1, a2, ?_⟩
    rcases a3 with a3 | ⟨v, hv, a3⟩
    · have := vec_get hr hk; show _ ≤ (lowsL r (r :: R))[k]!; omega
    · have := vec_get (hM v hv).1 (k := k) (by rw [(hM v hv).2]; exact hk); show _ ≤ (lowsL r (r :: R))[k]!; omega
  have hi : ∀ k, k < r.length → r[k]! ≤ (trainHi (r :: R))[k]! ∧ (∀ v ∈ r :: R, v[k]! ≤ (trainHi (r :: R))[k]!) ∧ (trainHi (r :: R))[k]! ≤ 32767 := fun k hk => by
    obtain ⟨a1, a2, a3⟩ := highs_at hk (r :: R) r rfl hlen
    refine ⟨a1, a2, ?_⟩
    rcases a3 with a3 | ⟨v, hv, a3⟩
    · have := vec_get hr hk; show (highsL r (r :: R))[k]! ≤ _; omega
    · have := vec_get (hM v hv).1 (k := k) (by rw [(hM v hv).2]; exact hk); show (highsL r (r :: R))[k]! ≤ _; omega
  have vec : ∀ L : List Int, L.length = r.length → (∀ k, k < r.length → -32768 ≤ L[k]! ∧ L[k]! ≤ 32767) → vecB L = true := fun L hL hb => by
    simp only [vecB, Bool.and_eq_true, decide_eq_true_eq, List.all_eq_true]
    refine ⟨⟨by omega, by omega⟩, fun x hx => ?_⟩
    obtain ⟨k, hk, rfl⟩ := List.getElem_of_mem hx
    have := hb k (by omega)
    rw [getElem!_pos L k hk] at this
    exact partB_is.2 this
  refine ⟨?_, l1, l2, fun v hv k hk => ⟨(lo k (by rw [← hlen v hv]; exact hk)).2.1 v hv, (hi k (by rw [← hlen v hv]; exact hk)).2.1 v hv⟩⟩
  simp only [mayB, Bool.and_eq_true, decide_eq_true_eq]
  refine ⟨vec _ l1 fun k hk => ?_, vec _ l2 fun k hk => ?_, by rw [l1, l2], ?_⟩
  · have a := lo k hk; have b := vec_get hr hk; omega
  · have a := hi k hk; have b := vec_get hr hk; omega
  · rw [List.all_eq_true]
    intro s hs
    obtain ⟨k, hk, rfl⟩ := List.getElem_of_mem hs
    have e := spans_len (show (trainLo (r :: R)).length = (trainHi (r :: R)).length by rw [l1, l2])
    have hk' : k < (trainLo (r :: R)).length := by rw [← e]; exact hk
    rw [spans_at (by rw [l1, l2]) k hk']
    have a := (lo k (by omega)).1
    have b := (hi k (by omega)).1
    rw [getElem!_pos (trainLo (r :: R)) k hk'] at a
    rw [getElem!_pos (trainHi (r :: R)) k (by omega)] at b
    simp only [lowB, decide_eq_true_eq]
    omega
/-- The first row's own spans, widened by the others, are what is learnt of all. -/
theorem learn_first (r : List Int) (R : List (List Int)) : learnL (r.zip r) R = (trainLo (r :: R)).zip (trainHi (r :: R)) := by
  rw [learn_zip]
  show _ = (lowsL (List.zipWith min r r) R).zip (highsL (List.zipWith max r r) R)
  rw [zip_min_self, zip_max_self]
def codeU (s : Sp) (x : Int) : UInt8 := UInt8.ofNat (codeI s x).toNat
def valueU (s : Sp) (c : UInt8) : Int := valueI s (c.toNat : Int)
def encL (S : List Sp) (v : List Int) : List UInt8 := List.zipWith codeU S v
def decL (S : List Sp) (c : List UInt8) : List Int := List.zipWith valueU S c
def errL (S : List Sp) : List Int := S.map stepI
theorem codeU_is {s : Sp} (h : OkS s) (x : Int) : ((codeU s x).toNat : Int) = codeI s x := by
  have := code_bd h x
  unfold codeU
  rw [UInt8.toNat_ofNat']
  omega
theorem enc_len {S : List Sp} {v : List Int} (h : S.length = v.length) : (encL S v).length = S.length := by simp [encL]; omega
theorem enc_at {S : List Sp} {v : List Int} {k : Nat} {s : Sp} {x : Int} (hs : S[k]? = some s) (hx : v[k]? = some x) : (encL S v)[k]? = some (codeU s x) := by
  simp [encL, List.getElem?_zipWith, hs, hx]
theorem dec_len {S : List Sp} {c : List UInt8} (h : S.length = c.length) : (decL S c).length = S.length := by simp [decL]; omega
theorem dec_at {S : List Sp} {c : List UInt8} {k : Nat} {s : Sp} {x : UInt8} (hs : S[k]? = some s) (hx : c[k]? = some x) : (decL S c)[k]? = some (valueU s x) := by
  simp [decL, List.getElem?_zipWith, hs, hx]
end Sc
end Go.Proofs.Ytfgmkdghpdpdkaa
