/- Counts and estimates, plain: how many of a total pass all of some sets, or one of them. Plain mathematics, no condition but those that each theorem names. -/
import Derived.Test.YtmkilmglmeohmaaProg
import Derived.Lib.Hide
namespace Go.Proofs.Ytmkilmglmeohmaa
set_option linter.unusedVariables false
namespace Ss
/-- A number as it counts. -/
def inn (n t : Int) : Int := min (max n 0) t
/-- n times x, divided by t. -/
def scl (n x t : Int) : Int := if t = 0 then 0 else if n * x ≤ 9223372036854775807 then n * x / t else n / t * x
def andF (t : Int) (l : List Int) (n : Int) : Int := l.foldl (fun n x => scl n (inn x t) t) n
def andL (t : Int) (l : List Int) : Int := andF (max t 0) l (max t 0)
def outs (t : Int) (l : List Int) : List Int := l.map fun x => t - inn x t
def orL (t : Int) (l : List Int) : Int := max t 0 - andL (max t 0) (outs (max t 0) l)
theorem inn_bd {n t : Int} (h : 0 ≤ t) : 0 ≤ inn n t ∧ inn n t ≤ t := by unfold inn; omega
theorem scl_zero (n x : Int) : scl n x 0 = 0 := by simp [scl]
theorem scl_bd {n x t : Int} (hn : 0 ≤ n) (hn' : n ≤ t) (hx : 0 ≤ x) (hx' : x ≤ t) : 0 ≤ scl n x t ∧ scl n x t ≤ n ∧ scl n x t ≤ x := by
  unfold scl
  by_cases h0 : t = 0
  · rw [if_pos h0]; omega
  · have ht : 0 < t := by omega
    rw [if_neg h0]
    split
    · have h1 : 0 ≤ n * x := Int.mul_nonneg hn hx
      refine ⟨Int.ediv_nonneg h1 (by omega), ?_, ?_⟩
      · apply Int.ediv_le_of_le_mul ht
        exact Int.mul_le_mul_of_nonneg_left hx' hn
      · apply Int.ediv_le_of_le_mul ht
        rw [Int.mul_comm n x]
        exact Int.mul_le_mul_of_nonneg_left hn' hx
    · by_cases h1 : n = t
      · subst h1
        rw [Int.ediv_self h0]; omega
      · rw [Int.ediv_eq_zero_of_lt hn (by omega)]; omega
theorem andF_bd {t : Int} (ht : 0 ≤ t) : ∀ (l : List Int) (n : Int), 0 ≤ n → n ≤ t → 0 ≤ andF t l n ∧ andF t l n ≤ n ∧ ∀ x ∈ l, andF t l n ≤ inn x t
  | [], n, h, h' => ⟨h, Int.le_refl _, fun x hx => by cases hx⟩
  | y :: l, n, h, h' => by
    obtain ⟨b1, b2⟩ := inn_bd (n := y) ht
    obtain ⟨s1, s2, s3⟩ := scl_bd h h' b1 b2
    obtain ⟨i1, i2, i3⟩ := andF_bd ht l (scl n (inn y t) t) s1 (by omega)
    have e : andF t (y :: l) n = andF t l (scl n (inn y t) t) := rfl
    rw [e]
    refine ⟨i1, by omega, fun x hx => ?_⟩
    rcases List.mem_cons.1 hx with rfl | hx
    · omega
    · exact i3 x hx
theorem andF_next {t n : Int} {l : List Int} {k : Nat} (h : k < l.length) : andF t (l.take (k + 1)) n = scl (andF t (l.take k) n) (inn l[k] t) t := by
  unfold andF
  rw [List.take_add_one, List.getElem?_eq_getElem h, List.foldl_append]
  rfl
theorem andL_bd (t : Int) (l : List Int) : 0 ≤ andL t l ∧ andL t l ≤ max t 0 ∧ ∀ x ∈ l, andL t l ≤ inn x (max t 0) := by
  have := andF_bd (t := max t 0) (by omega) l (max t 0) (by omega) (by omega)
  exact this
theorem orL_bd (t : Int) (l : List Int) : 0 ≤ orL t l ∧ orL t l ≤ max t 0 ∧ ∀ x ∈ l, inn x (max t 0) ≤ orL t l := by
  obtain ⟨h1, h2, h3⟩ := andL_bd (max t 0) (outs (max t 0) l)
  have e : max (max t 0) 0 = max t 0 := by omega
  rw [e] at h2 h3
  unfold orL
  refine ⟨by omega, by omega, fun x hx => ?_⟩
  have hm := h3 (max t 0 - inn x (max t 0)) (List.mem_map.2 ⟨x, hx, rfl⟩)
  have hb := inn_bd (n := x) (t := max t 0) (by omega)
  generalize andL (max t 0) (outs (max t 0) l) = A at *
  generalize inn x (max t 0) = X at *
  unfold inn at hm
  omega
theorem outs_len (t : Int) (l : List Int) : (outs t l).length = l.length := by simp [outs]
theorem outs_next {t : Int} {l : List Int} {k : Nat} (h : k < l.length) : outs t (l.take (k + 1)) = outs t (l.take k) ++ [t - inn l[k] t] := by
  unfold outs
  rw [List.take_add_one, List.getElem?_eq_getElem h, List.map_append]
  rfl
end Ss
end Go.Proofs.Ytmkilmglmeohmaa
