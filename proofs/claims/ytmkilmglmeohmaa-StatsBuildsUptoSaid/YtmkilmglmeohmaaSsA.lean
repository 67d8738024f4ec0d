/- How many of a total pass all, or one, of some sets: the program's And and Or, and the document's. Conditions: those that each theorem names. -/
import Derived.Test.YtmkilmglmeohmaaRowX
import Derived.Test.YtmkilmglmeohmaaSsPlain
import Derived.Test.YtmkilmglmeohmaaNumR
namespace Go.Proofs.Ytmkilmglmeohmaa
set_option linter.unusedVariables false
open Go Go.RowKit
namespace Ss
theorem retI {k : IntKind} {a b : Int} (h : b = a) : Ending.returned (.int k a) = .returned (.int k b) := by rw [h]
theorem within_any (n t : Int) (w : World) :
    Calls Try.prog 24 #[.int .i64 n, .int .i64 t] w fun e w' => e = .returned (.int .i64 (inn n t)) ∧ w = w' := by
  go_enter Try.func24, Try.ntmps24
  go_wp2
  go_ret
  exact ⟨retI rfl, rfl⟩
theorem quo_pos {a b : Int} (ha : 0 ≤ a) : a.tdiv b = a / b := Int.tdiv_eq_ediv_of_nonneg ha
theorem quo_bd {a b : Int} (ha : 0 ≤ a) (ha' : a ≤ 9223372036854775807) (hb : 0 < b) : 0 ≤ a / b ∧ a / b ≤ 9223372036854775807 := by
  refine ⟨Int.ediv_nonneg ha (by omega), ?_⟩
  have := Int.ediv_le_self b ha
  omega
set_option maxHeartbeats 1000000 in
theorem scaled_any (n x t : Int) (w : World) (hn : 0 ≤ n) (hn' : n ≤ t) (hx : 0 ≤ x) (hx' : x ≤ t) (ht : t ≤ 9223372036854775807) :
    Calls Try.prog 23 #[.int .i64 n, .int .i64 x, .int .i64 t] w fun e w' => e = .returned (.int .i64 (scl n x t)) ∧ w = w' := by
  by_cases h0 : t = 0
  · subst h0
    clear hn hn' hx hx' ht
    go_enter Try.func23, Try.ntmps23
    go_wp2
    go_ret
    exact ⟨retI (scl_zero _ _), rfl⟩
  · have hb := scl_bd hn hn' hx hx'
    have ht0 : (t == 0) = false := by simp; omega
    by_cases hf : n * x ≤ 9223372036854775807
    · have h1 : 0 ≤ n * x := Int.mul_nonneg hn hx
      have hs : scl n x t = n * x / t := by unfold scl; rw [if_neg h0, if_pos hf]
      have CM := Lib.hid (fun W => mul_fit n x W (by omega) (by omega) (by omega) hf)
      rw [hs] at hb ⊢
      have q := quo_pos (b := t) h1
      have HQ := Lib.hid q
      have HB := Lib.hid (show -9223372036854775808 ≤ n * x / t ∧ n * x / t ≤ 9223372036854775807 by omega)
      have HT := Lib.hid ht0
      clear hn hn' hx hx' ht h1 hs hb hf q
      generalize n * x = p at *
      go_enter Try.func23, Try.ntmps23
      go_wp2_with (go_at_call 30; refine (CM.out _).mono ?_; rintro e w' ⟨rfl, rfl⟩)
      go_ret
      exact ⟨retI (by rw [HQ.out]; exact (wrap64_in _ HB.out).symm), rfl⟩
    · have hs : scl n x t = n / t * x := by unfold scl; rw [if_neg h0, if_neg hf]
      have CM := Lib.hid (fun W => mul_over n x W (by omega) (by omega) (by omega))
      rw [hs] at hb ⊢
      have q := quo_pos (b := t) hn
      have qb := quo_bd (b := t) hn (by omega) (by omega)
      have HQ := Lib.hid q
      have HQB := Lib.hid qb
      have HB := Lib.hid (show -9223372036854775808 ≤ n / t * x ∧ n / t * x ≤ 9223372036854775807 by omega)
      clear hn hn' hx hx' ht hs hb hf q qb
      go_enter Try.func23, Try.ntmps23
      go_wp2_with (go_at_call 30; refine (CM.out _).mono ?_; rintro e w' ⟨rfl, rfl⟩)
      go_ret
      exact ⟨retI (by rw [HQ.out, wrap64_in (n / t) (by have := HQB.out; omega)]; exact (wrap64_in _ HB.out).symm), rfl⟩
end Ss
end Go.Proofs.Ytmkilmglmeohmaa
