/- The program's clone of a JSON value. Conditions: those that each theorem names. -/
import Derived.Test.YtdooeedemgmpiaaDoorJgB
import Derived.Test.YtdooeedemgmpiaaDoorJgLay
import Derived.Deep.DeepCutAuto
import Derived.Deep.CutRange
namespace Go.Proofs.YtdooeedemgmpiaaDoor
set_option linter.unusedVariables false
open Go Go.RowKit Js
namespace Jg
theorem clone_names {S : Nat → Prop} {p : Option Addr} {c : Nat} {ns : List ByteArray} (w : World) (h : NamesAt S w p ns) (hl : ns.length ≤ 8796093022208) :
    Calls Tryd.prog 15 #[.slice p ns.length c] w fun e w' => ∃ u, e = .returned u ∧ w'.ownsRow w.heap.size 9 1 u ns.length (ns.map Value.string) ∧ Below w.heap.size w w' := by
  rcases Nat.eq_zero_or_pos ns.length with h0 | h0
  · have e1 : ns = [] := List.length_eq_zero_iff.1 h0
    subst e1
    cases p with
    | none =>
      refine (Tryd.slices_Clone_string_nil 0 c w).mono ?_
      rintro e w' ⟨rfl, rfl⟩
      exact ⟨_, rfl, World.ownsRow_nil _ _ _ _, Below.refl _ _⟩
    | some a =>
      refine (Tryd.slices_Clone_string_zero a c w).mono ?_
      rintro e w' ⟨u, rfl, h1, _, h2⟩
      exact ⟨_, rfl, h1, h2⟩
  · obtain ⟨g, off, rfl, _, hc⟩ := names_cells h h0
    refine (Tryd.slices_Clone_string g off ns.length c ns w (Nat.le_refl _) (by omega) (hc w rfl)).mono ?_
    rintro e w' ⟨u, rfl, h1, _, h2⟩
    rw [List.take_length] at h1
    exact ⟨_, rfl, h1, h2⟩
theorem infoJ : (Tryd.prog.info? 25).map (fun i => (i.zero, i.size, i.bytes)) = some (some (.agg #[.int .i64 0, .int .i64 0, .string ⟨#[]⟩, .slice none 0 0, .slice none 0 0]), 5, 80) := by kernel_rfl
/-- The cells of a row of values, as they lie there. -/
def Lies (w : World) (p : Option Addr) (l : List J) (vs : List Value) : Prop := vs.length = l.length ∧ (0 < l.length → ∃ g off, p = some ⟨g, off, none⟩ ∧ ∀ j u, (vs.flatMap vcells)[j]? = some u → w.cell? ⟨g, off + j, none⟩ = some u)
theorem kids_lie {S : Nat → Prop} {w : World} {p : Option Addr} {l : List J} (h : KidsAt S w p 0 l) : ∃ vs : List Value, Lies w p l vs ∧ ∀ q (hq : q < l.length), ∃ np nc lp lc, vs[q]? = some (.agg #[.int .i64 l[q].kind, .int .i64 l[q].num, .string l[q].text, .slice np l[q].names.length nc, .slice lp l[q].list.length lc]) ∧ JAt S w l[q] (.agg #[.int .i64 l[q].kind, .int .i64 l[q].num, .string l[q].text, .slice np l[q].names.length nc, .slice lp l[q].list.length lc]) := by
  have each : ∀ q, ∃ v : Value, ∀ hq : q < l.length, ∃ g off np nc lp lc, p = some ⟨g, off, none⟩ ∧ v = .agg #[.int .i64 l[q].kind, .int .i64 l[q].num, .string l[q].text, .slice np l[q].names.length nc, .slice lp l[q].list.length lc] ∧ JAt S w l[q] v ∧
      w.cell? ⟨g, off + q * 5, none⟩ = some (.int .i64 l[q].kind) ∧ w.cell? ⟨g, off + q * 5 + 1, none⟩ = some (.int .i64 l[q].num) ∧ w.cell? ⟨g, off + q * 5 + 2, none⟩ = some (.string l[q].text) ∧ w.cell? ⟨g, off + q * 5 + 3, none⟩ = some (.slice np l[q].names.length nc) ∧ w.cell? ⟨g, off + q * 5 + 4, none⟩ = some (.slice lp l[q].list.length lc) := by
    intro q
    by_cases hq : q < l.length
    · obtain ⟨g, off, np, nc, lp, lc, hp, _, _, _, hj, hc⟩ := kid_cells h q hq
      exact ⟨_, fun _ => ⟨g, off, np, nc, lp, lc, hp, rfl, hj, hc w rfl⟩⟩
    · exact ⟨.slice none 0 0, fun c => absurd c hq⟩
  obtain ⟨F, hF⟩ := Classical.axiomOfChoice each
  have hget : ∀ q (hq : q < l.length), ((List.range l.length).map F)[q]? = some (F q) := fun q hq => by simp [hq]
  refine ⟨(List.range l.length).map F, ⟨by simp, fun h0 => ?_⟩, fun q hq => ?_⟩
  · obtain ⟨g, off, _, _, _, _, hp, _⟩ := hF 0 h0
    refine ⟨g, off, hp, fun j u hj => ?_⟩
    have hlen : ∀ v ∈ (List.range l.length).map F, (vcells v).length = 5 := fun v hv => by
      obtain ⟨i, hi, rfl⟩ := List.mem_map.1 hv
      obtain ⟨_, _, _, _, _, _, _, hv, _⟩ := hF i (List.mem_range.1 hi)
      rw [hv]; rfl
    have hjl : j < l.length * 5 := by
      have := (List.getElem?_eq_some_iff.1 hj).1
      rw [List.length_flatMap] at this
      have e : (((List.range l.length).map F).map fun v => (vcells v).length) = List.replicate l.length 5 := by
        rw [List.eq_replicate_iff]
        refine ⟨by simp, fun b hb => ?_⟩
        obtain ⟨v, hv, rfl⟩ := List.mem_map.1 hb
        exact hlen v hv
      rw [e] at this
      simp at this
      omega
    have hq : j / 5 < l.length := by omega
    obtain ⟨g2, off2, np, nc, lp, lc, hp2, hv, _, c0, c1, c2, c3, c4⟩ := hF (j / 5) hq
    rw [hp] at hp2
    injection hp2 with hp2
    injection hp2 with e1 e2
    subst e1; subst e2
    obtain ⟨f0, f1, f2, f3, f4⟩ := flat5 _ (j / 5) _ _ _ _ _ hlen (by rw [hget _ hq, hv])
    have hr : j % 5 = 0 ∨ j % 5 = 1 ∨ j % 5 = 2 ∨ j % 5 = 3 ∨ j % 5 = 4 := by omega
    have hj5 : j = j / 5 * 5 + j % 5 := by omega
    rcases hr with r | r | r | r | r
    all_goals rw [r] at hj5
    · rw [hj5, Nat.add_zero] at hj ⊢; rw [f0] at hj; rw [c0]; exact hj
    · rw [hj5] at hj ⊢; rw [f1] at hj; rw [← Nat.add_assoc, c1]; exact hj
    · rw [hj5] at hj ⊢; rw [f2] at hj; rw [← Nat.add_assoc, c2]; exact hj
    · rw [hj5] at hj ⊢; rw [f3] at hj; rw [← Nat.add_assoc, c3]; exact hj
    · rw [hj5] at hj ⊢; rw [f4] at hj; rw [← Nat.add_assoc, c4]; exact hj
  · obtain ⟨g, off, np, nc, lp, lc, hp, hv, hj, _⟩ := hF q hq
    rw [hv] at hj
    exact ⟨np, nc, lp, lc, by rw [hget q hq, hv], hj⟩
end Jg
end Go.Proofs.YtdooeedemgmpiaaDoor
