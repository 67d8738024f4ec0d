/- The least of two rising rows; the iterator that All answers. Conditions: those that each theorem names. -/
import Derived.RangeFuncNested
import Derived.RangeFuncBound
import Derived.RangeFuncBox
import Derived.RangeFuncCalls
import Derived.RangeFuncLeaves
import Derived.Shelf.Abstract
import Derived.OwnWalkIn
import Derived.TacticsInMore
import Derived.LoopNIn
import Derived.LoopIn
import Derived.BigQuiet
import Derived.Test.YtioidkbpjkcjeaaIdH
namespace Go.Proofs.Ytioidkbpjkcjeaa
set_option linter.unusedVariables false
open Go Go.RowKit Ids
namespace Ids
def lst : List Int → List Int → Int × Int
  | a :: _, [] => (a, 1)
  | [], b :: _ => (b, 2)
  | a :: _, b :: _ => if a < b then (a, 1) else if b < a then (b, 2) else (a, 3)
  | [], [] => (0, 0)
/-- What a step over two rows tells and leaves. -/
def Stp (A B : List Int) (X k : Int) (A' B' : List Int) : Prop :=
  lst A B = (X, k) ∧ walk A B = (X, k) :: walk A' B' ∧ ((k = 1 ∧ A = X :: A' ∧ B' = B) ∨ (k = 2 ∧ B = X :: B' ∧ A' = A) ∨ (k = 3 ∧ A = X :: A' ∧ B = X :: B'))
theorem stp_is : ∀ (A B : List Int), (A ≠ [] ∨ B ≠ []) → ∃ X k A' B', Stp A B X k A' B'
  | [], [], h => by simp at h
  | a :: A, [], _ => ⟨a, 1, A, [], by simp [lst], by rw [walk], .inl ⟨rfl, rfl, rfl⟩⟩
  | [], b :: B, _ => ⟨b, 2, [], B, by simp [lst], by rw [walk], .inr (.inl ⟨rfl, rfl, rfl⟩)⟩
  | a :: A, b :: B, _ => by
    by_cases h1 : a < b
    · exact ⟨a, 1, A, b :: B, by simp [lst, h1], by rw [walk, if_pos h1], .inl ⟨rfl, rfl, rfl⟩⟩
    · by_cases h2 : b < a
      · exact ⟨b, 2, a :: A, B, by simp [lst, h1, h2], by rw [walk, if_neg h1, if_pos h2], .inr (.inl ⟨rfl, rfl, rfl⟩)⟩
      · obtain rfl : a = b := by omega
        exact ⟨a, 3, A, B, by simp [lst], by rw [walk, if_neg h1, if_neg h2], .inr (.inr ⟨rfl, rfl, rfl⟩)⟩
end Ids
/-- The blocks from m up to n have not turned. -/
def Kr (m n : Nat) (W W' : World) : Prop := ∀ k, m ≤ k → k < n → W'.heap[k]? = W.heap[k]?
theorem Kr.refl (m n : Nat) (W : World) : Kr m n W W := fun _ _ _ => rfl
theorem Kr.trans {m n : Nat} {A B C : World} (h : Kr m n A B) (k : Kr m n B C) : Kr m n A C := fun i h1 h2 => (k i h1 h2).trans (h i h1 h2)
theorem Kr.drewN (m n : Nat) (W : World) (q : Nat) : Kr m n W (W.drewN q) := fun _ _ _ => rfl
theorem Kr.of_below {m n : Nat} {A B : World} (h : Below n A B) : Kr m n A B := fun k _ hk => h.block k hk
theorem Kr.cell {m n : Nat} {A B : World} (h : Kr m n A B) {p : Addr} (h1 : m ≤ p.block) (h2 : p.block < n) : B.cell? p = A.cell? p := World.cell?_of_block (h _ h1 h2)
/-- A row that lies from m on, below n₀. -/
def Low (m n₀ : Nat) (w : World) (v : Value) (L : List Int) : Prop :=
  (L = [] ∧ ∃ p c, v = .slice p 0 c) ∨ ∃ g off c, v = .slice (some ⟨g, off, none⟩) L.length c ∧ (m ≤ g ∧ g < n₀) ∧ L.length ≤ c ∧ ∀ j (h : j < L.length), w.cell? ⟨g, off + j, none⟩ = some (.int .i64 L[j])
theorem Low.below {m n₀ : Nat} {w w' : World} {v : Value} {L : List Int} (h : Low m n₀ w v L) (hb : Kr m n₀ w w') : Low m n₀ w' v L := by
  rcases h with h | ⟨g, off, c, rfl, h1, h2, h3⟩
  · exact .inl h
  · exact .inr ⟨g, off, c, rfl, h1, h2, fun j hj => (hb.cell (p := ⟨g, off + j, none⟩) h1.1 h1.2).trans (h3 j hj)⟩
theorem Low.form {m n₀ : Nat} {w : World} {v : Value} {L : List Int} (h : Low m n₀ w v L) : ∃ p c, v = .slice p L.length c := by
  rcases h with ⟨rfl, p, c, rfl⟩ | ⟨g, off, c, rfl, _⟩
  · exact ⟨p, c, rfl⟩
  · exact ⟨_, c, rfl⟩
theorem Low.cons {m n₀ : Nat} {w : World} {v : Value} {x : Int} {L : List Int} (h : Low m n₀ w v (x :: L)) :
    ∃ g off c, v = .slice (some ⟨g, off, none⟩) (L.length + 1) c ∧ w.cell? ⟨g, off, none⟩ = some (.int .i64 x) ∧ L.length + 1 ≤ c ∧ (c = 1 → Low m n₀ w (.slice (some ⟨g, off, none⟩) L.length 0) L) ∧ Low m n₀ w (.slice (some ⟨g, off + 1, none⟩) L.length (c - 1)) L := by
  rcases h with ⟨h0, _⟩ | ⟨g, off, c, rfl, h1, h2, h3⟩
  · cases h0
  · refine ⟨g, off, c, rfl, h3 0 (by simp), h2, fun hc => ?_, .inr ⟨g, off + 1, c - 1, rfl, h1, by simp at h2; omega, fun j hj => ?_⟩⟩
    · simp only [List.length_cons] at h2
      obtain rfl : L = [] := List.eq_nil_of_length_eq_zero (by omega)
      exact .inl ⟨rfl, _, _, rfl⟩
    · have := h3 (j + 1) (by simpa using hj)
      rw [show off + 1 + j = off + (j + 1) by omega, this]
      rfl
theorem Own.low {w : World} {base n₀ : Nat} {v : Value} {L : List Int} (h : Own w base v L) (hn : w.heap.size ≤ n₀) : Low base n₀ w v L := by
  by_cases h0 : L = []
  · subst h0
    obtain ⟨p, c, rfl⟩ := h.at.form
    exact .inl ⟨rfl, p, c, rfl⟩
  · obtain ⟨g, cap, hv, hb, hg⟩ := own_form h (by cases L with | nil => exact absurd rfl h0 | cons _ _ => simp)
    subst hv
    have hcap : L.length ≤ cap := by
      rcases h.2 with ⟨_, h1⟩ | ⟨g2, cap2, cur, e, _, _, h1, _⟩
      · exact absurd (List.length_eq_zero_iff.mp h1) h0
      · injection e with _ _ e3; omega
    refine .inr ⟨g, 0, cap, rfl, ⟨hb, by omega⟩, hcap, fun j hj => ?_⟩
    have := (own_cell h j _ (List.getElem?_eq_getElem hj)).1
    rwa [Nat.zero_add]
set_option maxHeartbeats 2000000 in
theorem least_any (A B : List Int) (u v : Value) (m n₀ : Nat) (X k : Int) (w : World) (hu : Low m n₀ w u A) (hv : Low m n₀ w v B) (h : A ≠ [] ∨ B ≠ []) (hx : lst A B = (X, k)) :
    Calls Try.prog 53 #[u, v] w fun e w' => e = .returned (.tuple #[.int .i64 X, .int .i64 k]) ∧ ∃ q, w' = w.drewN q := by
  have mixed : Try.prog.follows .mixedOrders = true := by kernel_rfl
  cases A with
  | nil =>
    cases B with
    | nil => simp at h
    | cons b B =>
      obtain ⟨p, c, rfl⟩ := hu.form
      obtain ⟨g2, o2, c2, rfl, hc2, hle2, _⟩ := hv.cons
      simp only [lst, Prod.mk.injEq] at hx
      obtain ⟨rfl, rfl⟩ := hx
      clear hu hv h
      simp only [List.length_nil]
      have e1 : (((B.length + 1 : Nat) : Int) == 0) = false := by simp; omega
      have e2 : ((B.length : Int) + 1 == 0) = false := by simp; omega
      have e3 : decide ((0 : Int) < 0) = false := by decide
      have e4 : (0 : Int) < (B.length : Int) + 1 := by omega
      go_enter Try.func53, Try.ntmps53
      go_wp2_with fail
      go_quiet (fail)
      go_wp2_with fail
      go_quiet (fail)
      go_wp2_with fail
      go_ret2
      exact ⟨rfl, _, rfl⟩
  | cons a A =>
    obtain ⟨g1, o1, c1, rfl, hc1, hle1, _⟩ := hu.cons
    have e4 : (0 : Int) < (A.length : Int) + 1 := by omega
    have e2 : ((A.length : Int) + 1 == 0) = false := by simp; omega
    cases B with
    | nil =>
      obtain ⟨p, c, rfl⟩ := hv.form
      simp only [lst, Prod.mk.injEq] at hx
      obtain ⟨rfl, rfl⟩ := hx
      clear hu hv h
      simp only [List.length_nil]
      go_enter Try.func53, Try.ntmps53
      go_wp2_with fail
      go_quiet (fail)
      go_wp2_with fail
      go_ret2
      exact ⟨rfl, _, rfl⟩
    | cons b B =>
      obtain ⟨g2, o2, c2, rfl, hc2, hle2, _⟩ := hv.cons
      have f2 : ((B.length : Int) + 1 == 0) = false := by simp; omega
      have f4 : (0 : Int) < (B.length : Int) + 1 := by omega
      have g4 : decide ((0 : Int) < (A.length : Int) + 1) = true := by simp
      clear hu hv h
      by_cases h1 : a < b
      · have hl1 : lst (a :: A) (b :: B) = (a, 1) := by simp [lst, h1]
        rw [hl1] at hx
        injection hx with hx1 hx2
        subst hx1 hx2
        clear hl1
        have d1 : decide (a < b) = true := by simp [h1]
        go_enter Try.func53, Try.ntmps53
        go_wp2_with fail
        go_quiet (fail)
        go_wp2_with fail
        go_ret2
        exact ⟨rfl, _, rfl⟩
      · have d1 : decide (a < b) = false := by simp [h1]
        by_cases h2 : b < a
        · have hl1 : lst (a :: A) (b :: B) = (b, 2) := by simp [lst, h1, h2]
          rw [hl1] at hx
          injection hx with hx1 hx2
          subst hx1 hx2
          have d2 : decide (b < a) = true := by simp [h2]
          clear hl1 h1
          go_enter Try.func53, Try.ntmps53
          go_wp2_with fail
          go_quiet (fail)
          go_wp2_with fail
          go_quiet (fail)
          go_wp2_with fail
          go_ret2
          exact ⟨rfl, _, rfl⟩
        · obtain rfl : a = b := by omega
          have hl1 : lst (a :: A) (a :: B) = (a, 3) := by simp [lst]
          rw [hl1] at hx
          injection hx with hx1 hx2
          subst hx1 hx2
          clear hl1 h1 h2
          go_enter Try.func53, Try.ntmps53
          go_wp2_with fail
          go_quiet (fail)
          go_wp2_with fail
          go_quiet (fail)
          go_wp2_with fail
          go_ret2
          exact ⟨rfl, _, rfl⟩
end Go.Proofs.Ytioidkbpjkcjeaa
