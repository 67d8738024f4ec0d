/- How a manifest that comes in as an argument is read. Conditions: those that each theorem names. -/
import Derived.Test.YtgpedeagaghpfaaGreatDoorMfLd
import Derived.Test.YtgpedeagaghpfaaGreatDoorMfRow
import Derived.OpenShut
import Derived.SizedLaws
import Derived.Lib.SmallJoins
import Derived.ChangeOld
import Derived.ChangeSlices
import Derived.ChangeSame
import Derived.Deep.Strs
namespace Go.Proofs.YtgpedeagaghpfaaGreatDoor
set_option linter.unusedVariables false
open Go.ChangeShapes Go.WideShapes Go.ChangeAt Go.RowKit Go.Joins Go.Deep
namespace Mf
section
variable {H : Type} {enc : TypeId × Value → H} {W : World} {base : Nat} {b0 : Nat} {r : Reach}
theorem bulk_strs (L : List ByteArray) : Rows.uptoBulkAll (strs (H := H) L) = (L.map fun s => s.size + 1).sum := by
  induction L with
  | nil => rfl
  | cons s L ih =>
    have h := ln s
    simp only [strs] at ih
    simp only [strs, List.map_cons, Rows.uptoBulkAll, Rows.uptoBulk, ih, List.sum_cons]
    omega
theorem sum_each : ∀ (L : List ByteArray) (q : Nat), (L.map fun s => s.size + 1).sum ≤ q → L.length ≤ q ∧ ∀ s ∈ L, s.size ≤ q
  | [], q, _ => ⟨Nat.zero_le _, fun s hs => by cases hs⟩
  | s :: L, q, h => by
    simp only [List.map_cons, List.sum_cons] at h
    have h1 := sum_each L (q - (s.size + 1)) (by omega)
    refine ⟨by rw [List.length_cons]; omega, fun y hy => ?_⟩
    rcases List.mem_cons.1 hy with rfl | hy
    · omega
    · have := h1.2 y hy; omega
/-- A row of texts. -/
theorem open_txs {fuel : Nat} {cs : List Value} {x : DataW H × List MemPlace} (h : DataW.trod enc Tryz.prog W base (fun _ => true) true fuel 22 cs = some x) :
    ∃ (v : Value) (L : List ByteArray), cs = [v] ∧ TxsAt W v L ∧ ((x.1 = .nil ∧ L = []) ∨ ∃ rest, x.1 = .slice (strs L) rest) := by
  rcases open_strings Tryz.underlying22 Tryz.underlying9 (by kernel_rfl) h with ⟨hcs, hx⟩ | ⟨a, len, cap, ss, hcs, _, hl, hm, hz, hx, hcell, hsz⟩
  · exact ⟨_, [], hcs, .inl ⟨rfl, none, 0, rfl⟩, .inl ⟨by rw [hx], rfl⟩⟩
  · simp only [if_true] at hz
    have hlt : (ss.take len).length = len := by simp; omega
    rcases Nat.eq_zero_or_pos len with h0 | hpos
    · subst h0
      exact ⟨_, [], hcs, .inl ⟨rfl, some a, cap, rfl⟩, .inr ⟨_, by rw [hx]; rfl⟩⟩
    · have hsome := hcell 0 (by omega)
      have hsp : a.spot = none := by
        cases hs : a.spot with
        | none => rfl
        | some q =>
          simp [World.cell?, Addr.add, hs] at hsome
          split at hsome <;> simp at hsome
      obtain ⟨g, off, sp⟩ := a
      simp only at hsp
      subst hsp
      have hg : g < W.heap.size := by
        rcases Nat.lt_or_ge g W.heap.size with hlt | hge
        · exact hlt
        · simp [World.cell?, Addr.add, Array.getElem?_eq_none hge] at hsome
      refine ⟨_, ss.take len, hcs, .inr ⟨g, off, cap, by rw [hlt], hg, by rw [hlt]; omega, fun W' hW' j hj => ?_⟩, .inr ⟨_, by rw [hx]⟩⟩
      have hj' : j < ss.length := by simp at hj; omega
      have := hcell j hj'
      have hjl : (ss.take len)[j] = ss.getD j ByteArray.empty := by simp [List.getD, List.getElem?_eq_getElem hj']
      rw [hjl]
      have ha : (⟨g, off, none⟩ : Addr).add j = ⟨g, off + j, none⟩ := by unfold Addr.add; split <;> simp_all
      rw [ha] at this
      unfold World.cell? at this ⊢
      simp only [hW']
      exact this
set_option maxRecDepth 100000 in
/-- A manifest. -/
theorem open_mn {v : Value} {d : DataW H} {p : List MemPlace} (hv : Value.okWide Tryz.prog W r b0 24 v) (h : DataW.Trod enc Tryz.prog W base (fun _ => true) true 24 v d p) :
    ∃ m : Mn, MnAt W v m ∧ (Rows.uptoBulk d ≤ 1048576 → Small m) := by
  obtain ⟨v0, v1, v2, v3, y0, y1, y2, y3, n, rfl, rfl, -, h0, h1, h2, h3⟩ := open_agg4 Tryz.underlying24 (by kernel_rfl) (by kernel_rfl) hv h
  obtain ⟨u, L, hu, hU, hD⟩ := open_txs h0
  obtain ⟨l, hl, hl', hl''⟩ := DataW.trod_string Tryz.underlying9 h1
  obtain ⟨a, ha, ha', wa⟩ := DataW.trod_int Tryz.underlying3 h2
  obtain ⟨b, hb, hb', wb⟩ := DataW.trod_int Tryz.underlying3 h3
  obtain rfl : v0 = u := by simpa using hu
  obtain rfl : v1 = .string l := by simpa using hl
  obtain rfl : v2 = .int .i64 a := by simpa using ha
  obtain rfl : v3 = .int .i64 b := by simpa using hb
  have xa : -9223372036854775808 ≤ a ∧ a ≤ 9223372036854775807 := by simpa [Lit.wf, show IntKind.i64.min = -9223372036854775808 from rfl] using wa
  have xb : -9223372036854775808 ≤ b ∧ b ≤ 9223372036854775807 := by simpa [Lit.wf, show IntKind.i64.min = -9223372036854775808 from rfl] using wb
  obtain ⟨pf, cf, hf⟩ := hU.form
  subst hf
  refine ⟨⟨L, l, a, b⟩, ⟨pf, cf, rfl, hU⟩, fun hs => ?_⟩
  rw [hl'] at hs
  have hll := ln l
  simp only [Rows.uptoBulk, Rows.uptoBulkAll] at hs
  have hL : L.length ≤ 1048576 ∧ ∀ s ∈ L, s.size ≤ 1048576 := by
    rcases hD with ⟨_, rfl⟩ | ⟨rest, hr⟩
    · exact ⟨Nat.zero_le _, fun s hs => by cases hs⟩
    · rw [hr] at hs
      simp only [Rows.uptoBulk, bulk_strs] at hs
      exact sum_each L _ (by omega)
  exact ⟨hL.1, by show l.size ≤ _; omega, fun s hs => Nat.le_trans (hL.2 s hs) (by omega), xa.1, xa.2, xb.1, xb.2⟩
end
end Mf
end Go.Proofs.YtgpedeagaghpfaaGreatDoor
