/- Rows of structs cut in two. Conditions: those that each theorem names. -/
import Derived.Test.YtkmfkgjkgnlfnaaRk
namespace Go.Proofs.Ytkmfkgjkgnlfnaa
set_option linter.unusedVariables false
open Go Go.RowKit
namespace Rk
section
variable {α : Type} {P : Program} {enc : α → List Value} {k T ST b : Nat}
/-- A row of one's own cut in two, as the machine cuts it. -/
theorem own_cuts (F : Flat P enc k T ST b) {w : World} {base n c : Nat} {p : Option Addr} {L : List α} (h : Own enc k T w base (.slice p n c) L) (a : Nat) (ha : a ≤ L.length) :
    ∃ (p1 p2 : Option Addr) (n2 c1 c2 : Nat), (∀ (K : IntKind) (W : World), (Instr.slice ST (.slice p n c) none (some (.int K (a : Int))) none).run P W = .ok (.slice p1 a c1) W) ∧ (∀ (K : IntKind) (W : World), (Instr.slice ST (.slice p n c) (some (.int K (a : Int))) none none).run P W = .ok (.slice p2 n2 c2) W) ∧
      RowAt enc k w (.slice p1 a c1) (L.take a) ∧ RowAt enc k w (.slice p2 n2 c2) (L.drop a) := by
  obtain ⟨i0, z, hi, hz0, hz1, hz2, hz3⟩ := F.info
  have he : P.elem ST = T := by simp [Program.elem, F.under]
  have hsz : ∀ W : World, (sizeOf (P.elem ST)).run P W = .ok k W := fun W => by rw [he]; simp [sizeOf, typeInfo, hi, hz1]
  have hu : P.underlying ST = some (.slice (P.elem ST)) := by rw [he]; exact F.under
  rcases h.2 with ⟨e, h0⟩ | ⟨g, cap, cur, e, hb, hg, h1, h2, h3, h4⟩
  · injection e with e1 e2 e3
    subst e1; subst e2; subst e3
    have hL : L = [] := List.length_eq_zero_iff.mp h0
    subst hL
    obtain rfl : a = 0 := by simpa using ha
    refine ⟨none, none, 0, 0, 0, fun K W => ?_, fun K W => ?_, .inl ⟨rfl, _, _, rfl⟩, .inl ⟨rfl, _, _, rfl⟩⟩
    · rw [run_slice_h W ST none 0 0 hu K _ (by omega) (by omega), hsz]; simp [Result.andThen, sliced]
    · rw [run_slice_l W ST none 0 0 hu K _ (by omega) (by omega), hsz]; simp [Result.andThen, sliced]
  · injection e with e1 e2 e3
    subst e1; subst e2; subst e3
    have hrow := own_row F h
    rcases hrow with ⟨rfl, _⟩ | ⟨g', off, c', e, hgl, hc⟩
    · obtain rfl : a = 0 := by simpa using ha
      refine ⟨_, _, _, _, _, fun K W => ?_, fun K W => ?_, .inl ⟨rfl, some ⟨g, 0, none⟩, c, rfl⟩, .inl ⟨rfl, some ⟨g, 0, none⟩, c, rfl⟩⟩
      · rw [run_slice_h W ST _ _ _ hu K _ (by omega) (by omega), hsz]; simp [Result.andThen, sliced, Addr.add]
      · rw [run_slice_l W ST _ _ _ hu K _ (by omega) (by simp), hsz]; simp [Result.andThen, sliced, Addr.add]
    · injection e with e1 _ e3
      injection e1 with e1
      injection e1 with e1 e2
      subst e1; subst e2; subst e3
      rcases Nat.lt_or_ge a c with hac | hac
      · refine ⟨some ⟨g, 0, none⟩, some ⟨g, 0 + a * k, none⟩, L.length - a, c, c - a, fun K W => ?_, fun K W => ?_, row_take hgl hc ha, row_drop hgl hc ha⟩
        · rw [run_slice_h W ST _ _ _ hu K _ (by omega) (by omega), hsz]; simp [Result.andThen, sliced, Addr.add]
        · rw [run_slice_l W ST _ _ _ hu K _ (by omega) (by omega), hsz]
          have hne : ¬ c = a := by omega
          simp [Result.andThen, sliced, Addr.add, hne]
          intro e; exact e.symm
      · obtain rfl : a = c := by omega
        obtain rfl : a = L.length := by omega
        refine ⟨some ⟨g, 0, none⟩, some ⟨g, 0, none⟩, 0, L.length, 0, fun K W => ?_, fun K W => ?_, row_take hgl hc ha, .inl ⟨by simp, _, _, rfl⟩⟩
        · rw [run_slice_h W ST _ _ _ hu K _ (by omega) (by omega), hsz]; simp [Result.andThen, sliced, Addr.add]
        · rw [run_slice_l W ST _ _ _ hu K _ (by omega) (by omega), hsz]; simp [Result.andThen, sliced]
end
end Rk
end Go.Proofs.Ytkmfkgjkgnlfnaa
