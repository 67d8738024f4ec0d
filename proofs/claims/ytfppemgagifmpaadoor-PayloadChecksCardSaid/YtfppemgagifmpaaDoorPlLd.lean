/- Out of what a row lists of variables: what payload's calls ask of a world. Conditions: none but those that each theorem names. -/
import Derived.Test.YtfppemgagifmpaaDoorPlAw
import Derived.Lib.LaidTab
import Derived.Lib.LaidU8T
import Derived.Stop.LaidErr
import Derived.MakeChecks
import Derived.PinnedBridge
import Derived.Test.YtfppemgagifmpaaDoorRows
namespace Go.Proofs.YtfppemgagifmpaaDoor
set_option linter.unusedVariables false
open Go Go.RowKit Go.Shelf Go.Lib
theorem gN_le {W : World} (h : W.ShapedOpen Tryd.prog) : gN ≤ W.heap.size := by
  have hs : (((begin Tryd.prog (fun _ _ => 0) default).world.heap[Tryd.prog.globals.size - 1]?).bind Obj.row?).isSome = true := by kernel_rfl
  obtain ⟨⟨z, t⟩, hzt⟩ := Option.isSome_iff_exists.1 hs
  have hp : Tryd.prog.globals.size - 1 < Tryd.prog.globals.size := of_decide_eq_true (by kernel_rfl)
  obtain ⟨cs, hc, _⟩ := h.1 _ z t hp hzt
  have := (Array.getElem?_eq_some_iff.1 hc).1
  unfold gN
  omega
theorem same_cell {W X : World} (h : Same8 W X) {g k : Nat} (hg : g < gN) : X.cell? ⟨g, k, none⟩ = W.cell? ⟨g, k, none⟩ := World.cell?_of_block (w := W) (h g hg)
def szL (k : Nat) : List Int := [(szT k).1, (szT k).2.1, (szT k).2.2.1, (szT k).2.2.2]
def szData : DataW Unit := .agg ((List.range 4).map fun k => .agg ((szL k).map fun z => .lit (.int .i64 z)))
theorem sizes_of {w : World} (h : VarReads Tryd.prog w "lodestar/payload.sizes" szData) (k : Nat) (hk : k < 4) :
    w.cell? ⟨0, k * 4, none⟩ = some (.int .i64 (szT k).1) ∧ w.cell? ⟨0, k * 4 + 1, none⟩ = some (.int .i64 (szT k).2.1) ∧
    w.cell? ⟨0, k * 4 + 2, none⟩ = some (.int .i64 (szT k).2.2.1) ∧ w.cell? ⟨0, k * 4 + 3, none⟩ = some (.int .i64 (szT k).2.2.2) := by
  obtain ⟨g, t, cs, fuel, p, hg, hty, hvar, hd⟩ := h
  have n4 : Tryd.prog.globalNamed "lodestar/payload.sizes" = some 0 := by kernel_rfl
  have y4 : (Tryd.prog.globals[0]?).map (·.type) = some 107 := by kernel_rfl
  have c1 : Tryd.prog.cellsOf 3 = 1 := by kernel_rfl
  have c4 : Tryd.prog.cellsOf 87 = 4 := by kernel_rfl
  obtain rfl := Option.some.inj (n4.symm.trans hg)
  obtain rfl := Option.some.inj (y4.symm.trans hty)
  obtain ⟨fuel', d, q, hdi, he⟩ := array_elem Tryd.underlying107 hd k hk
  simp only [List.getElem?_map, List.getElem?_range hk, Option.map_some, Option.some.injEq] at hdi
  subst hdi
  rw [c4] at he
  have hcs := ints_of_struct Tryd.underlying87 (fun j f hj => by
    match j, hj with
    | 0, hj => simp at hj; subst hj; exact ⟨Tryd.underlying3, rfl, c1⟩
    | 1, hj => simp at hj; subst hj; exact ⟨Tryd.underlying3, rfl, c1⟩
    | 2, hj => simp at hj; subst hj; exact ⟨Tryd.underlying3, rfl, c1⟩
    | 3, hj => simp at hj; subst hj; exact ⟨Tryd.underlying3, rfl, c1⟩
    | j + 4, hj => simp at hj) (by rw [c4]; rfl) he
  have e0 := congrArg (·[0]?) hcs
  have e1 := congrArg (·[1]?) hcs
  have e2 := congrArg (·[2]?) hcs
  have e3 := congrArg (·[3]?) hcs
  simp only [List.getElem?_take, List.getElem?_drop] at e0 e1 e2 e3
  refine ⟨?_, ?_, ?_, ?_⟩
  · rw [World.var?_cell hg hvar (k * 4), ← Array.getElem?_toList]
    simpa [szL] using e0
  · rw [World.var?_cell hg hvar (k * 4 + 1), ← Array.getElem?_toList]
    simpa [szL] using e1
  · rw [World.var?_cell hg hvar (k * 4 + 2), ← Array.getElem?_toList]
    simpa [szL] using e2
  · rw [World.var?_cell hg hvar (k * 4 + 3), ← Array.getElem?_toList]
    simpa [szL] using e3
theorem gp_of {W : World} (hsh : W.ShapedOpen Tryd.prog)
    (hL : laidMet Tryd.prog [("unicode/utf8.acceptRanges", Rows.laid_unicode_utf8_acceptRanges), ("lodestar/payload.sizes", Rows.laid_lodestar_payload_sizes), ("unicode/utf8.first", Rows.laid_unicode_utf8_first)] W) : Gp W := by
  have h2 : VarReads Tryd.prog W "unicode/utf8.first" firstData := by
    have := Lib.laidMet.reads hL (n := "unicode/utf8.first") (d := Rows.laid_unicode_utf8_first) (.tail _ (.tail _ (.head _)))
    rw [← Pinned.utf8First_eq]
    exact this
  have h3 : VarReads Tryd.prog W "unicode/utf8.acceptRanges" acceptData := by
    have := Lib.laidMet.reads hL (n := "unicode/utf8.acceptRanges") (d := Rows.laid_unicode_utf8_acceptRanges) (.head _)
    rw [show acceptData = (Rows.laid_unicode_utf8_acceptRanges : DataW Unit) by kernel_rfl]
    exact this
  have h4 : VarReads Tryd.prog W "lodestar/payload.sizes" szData := by
    have := Lib.laidMet.reads hL (n := "lodestar/payload.sizes") (d := Rows.laid_lodestar_payload_sizes) (.tail _ (.head _))
    rw [show szData = (Rows.laid_lodestar_payload_sizes : DataW Unit) by kernel_rfl]
    exact this
  have hU : Lib.Utf8Tabs 1 2 W := utf8Tabs_of_readsT (U8Types.of196 Tryd.laysValid) ⟨by kernel_rfl, by kernel_rfl, by kernel_rfl, by kernel_rfl, by kernel_rfl, by kernel_rfl, by kernel_rfl⟩ h2 h3
  have b4 : 1 < gN := of_decide_eq_true (by kernel_rfl)
  have b5 : 2 < gN := of_decide_eq_true (by kernel_rfl)
  exact ⟨gN_le hsh, fun X h k hk => ⟨(same_cell h g_lt).trans (sizes_of h4 k hk).1, (same_cell h g_lt).trans (sizes_of h4 k hk).2.1, (same_cell h g_lt).trans (sizes_of h4 k hk).2.2.1, (same_cell h g_lt).trans (sizes_of h4 k hk).2.2.2⟩,
    fun X h => ⟨fun c hc => (same_cell h b4).trans (hU.1 c hc), fun i hi => ⟨(same_cell h b5).trans (hU.2 i hi).1, (same_cell h b5).trans (hU.2 i hi).2⟩⟩⟩
end Go.Proofs.YtfppemgagifmpaaDoor
