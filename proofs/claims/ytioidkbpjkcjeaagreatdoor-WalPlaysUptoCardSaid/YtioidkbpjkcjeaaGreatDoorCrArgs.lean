/- How a crash that comes in as an argument is read. Conditions: those that each theorem names. -/
import Derived.Test.YtioidkbpjkcjeaaGreatDoorGaF
import Derived.OpenShut
import Derived.SizedLaws
import Derived.Lib.SmallJoins
import Derived.ChangeOld
import Derived.ChangeSlices
namespace Go.Proofs.YtioidkbpjkcjeaaGreatDoor
open Go.ChangeShapes Go.WideShapes Go.ChangeAt Go.RowKit Go.Joins Go.Deep
/-- What a crash that came in holds. -/
structure CrashIn (W : World) (n : Int) (u : Value) (bs : List Int) : Prop where
  lo : -9223372036854775808 ≤ n
  hi : n ≤ 9223372036854775807
  row : IntsAt W u bs
  len : bs.length ≤ maxLen
  fits : ∀ x ∈ bs, -9223372036854775808 ≤ x ∧ x ≤ 9223372036854775807
  own : bs = [] ∨ ∀ g, u.ownBlock = some g → g < W.heap.size

section
variable {H : Type} {enc : TypeId × Value → H} {W : World} {base : Nat} {b0 : Nat} {r : Reach}

/-- A row of integers. -/
theorem open_row {fuel : Nat} {cs : List Value} {x : DataW H × List MemPlace} (h : DataW.trod enc Tryz.prog W base (fun _ => true) true fuel 41 cs = some x) :
    ∃ (v : Value) (bs : List Int), cs = [v] ∧ IntsAt W v bs ∧ bs.length ≤ maxLen ∧ (∀ x ∈ bs, -9223372036854775808 ≤ x ∧ x ≤ 9223372036854775807) ∧ (bs = [] ∨ ∀ g, v.ownBlock = some g → g < W.heap.size) := by
  rcases open_ints Tryz.underlying41 Tryz.underlying3 (by kernel_rfl) h with ⟨hcs, _⟩ | ⟨a, len, cap, zs, hcs, _, hl, hm, hz, _, hcell, hwz⟩
  · exact ⟨_, [], hcs, .inl ⟨rfl, none, 0, rfl⟩, by simp, by simp, .inl rfl⟩
  · simp only [if_true] at hz
    have hlt : (zs.take len).length = len := by simp; omega
    rcases Nat.eq_zero_or_pos len with h0 | hpos
    · subst h0
      exact ⟨_, [], hcs, .inl ⟨rfl, some a, cap, rfl⟩, by simp, by simp, .inl rfl⟩
    · have hsome := hcell 0 (by omega)
      have hsp : a.spot = none := by
        cases hs : a.spot with
        | none => rfl
        | some q =>
          simp [World.cell?, Addr.add, hs] at hsome
          split at hsome <;> simp at hsome
      obtain ⟨g, off, sp⟩ := a
      simp only at hsp
      subst hsp
      have hg : g < W.heap.size := by
        rcases Nat.lt_or_ge g W.heap.size with hlt | hge
        · exact hlt
        · simp [World.cell?, Addr.add, Array.getElem?_eq_none hge] at hsome
      refine ⟨_, zs.take len, hcs, .inr ⟨g, off, cap, by rw [hlt], hg, fun W' hW' j hj => ?_⟩, by omega, fun x hx => ?_, .inr fun g' hg' => ?_⟩
      · have hj' : j < zs.length := by simp at hj; omega
        have := hcell j hj'
        have hjl : (zs.take len)[j] = zs.getD j 0 := by simp [List.getD, List.getElem?_eq_getElem hj']
        rw [hjl]
        have ha : (⟨g, off, none⟩ : Addr).add j = ⟨g, off + j, none⟩ := by unfold Addr.add; split <;> simp_all
        rw [ha] at this
        unfold World.cell? at this ⊢
        simp only [hW']
        exact this
      · have := hwz x (List.mem_of_mem_take hx)
        simpa [Lit.wf, show IntKind.i64.min = -9223372036854775808 from rfl] using this
      · have : g = g' := by simpa [Value.ownBlock] using hg'
        omega

set_option maxRecDepth 100000 in
/-- A crash. -/
theorem open_crash {v : Value} {d : DataW H} {p : List MemPlace} (hv : Value.okWide Tryz.prog W r b0 43 v) (h : DataW.Trod enc Tryz.prog W base (fun _ => true) true 43 v d p) :
    ∃ (n : Int) (u : Value) (bs : List Int), v = .agg #[.int .i64 n, u] ∧ CrashIn W n u bs := by
  obtain ⟨v0, v1, y0, y1, n, rfl, _, _, h0, h1⟩ := open_agg2 Tryz.underlying43 (by kernel_rfl) (by kernel_rfl) hv h
  obtain ⟨k, hk, _, hk'⟩ := DataW.trod_int Tryz.underlying3 h0
  obtain rfl : v0 = .int .i64 k := by simpa using hk
  obtain ⟨u, bs, hu, h1, h2, h3, h4⟩ := open_row h1
  obtain rfl : v1 = u := by simpa using hu
  have : -9223372036854775808 ≤ k ∧ k ≤ 9223372036854775807 := by simpa [Lit.wf, show IntKind.i64.min = -9223372036854775808 from rfl] using hk'
  exact ⟨k, _, bs, rfl, ⟨this.1, this.2, h1, h2, h3, h4⟩⟩

end
end Go.Proofs.YtioidkbpjkcjeaaGreatDoor
