/- Out of what a row lists of variables: what json's calls ask of a world. Conditions: none but those that each theorem names. -/
import Derived.Test.YtdooeedemgmpiaaDoorJsNamed
import Derived.Lib.LaidTab
import Derived.Lib.LaidU8T
import Derived.Stop.LaidErr
import Derived.MakeChecks
import Derived.PinnedBridge
namespace Go.Proofs.YtdooeedemgmpiaaDoor
set_option linter.unusedVariables false
open Go Go.RowKit Go.Shelf Go.Lib

theorem star : "*" ++ "errors.errorString" = "*errors.errorString" := by decide
theorem rowE (u : TypeId) (h : Tryd.prog.typeName? 3 u = some "*errors.errorString") : u = 120 :=
  typeName_ptr_named (nm := "errors.errorString") (by rw [star]; kernel_rfl) (by kernel_rfl) (by decide) u (by rw [star]; exact h)
theorem gN_le {W : World} (h : W.ShapedOpen Tryd.prog) : gN ≤ W.heap.size := by
  have hs : (((begin Tryd.prog (fun _ _ => 0) default).world.heap[Tryd.prog.globals.size - 1]?).bind Obj.row?).isSome = true := by kernel_rfl
  obtain ⟨⟨z, t⟩, hzt⟩ := Option.isSome_iff_exists.1 hs
  have hp : Tryd.prog.globals.size - 1 < Tryd.prog.globals.size := of_decide_eq_true (by kernel_rfl)
  obtain ⟨cs, hc, _⟩ := h.1 _ z t hp hzt
  have := (Array.getElem?_eq_some_iff.1 hc).1
  unfold gN
  omega
theorem same_cell {W X : World} (h : Same8 W X) {g k : Nat} (hg : g < gN) : X.cell? ⟨g, k, none⟩ = W.cell? ⟨g, k, none⟩ := World.cell?_of_block (w := W) (h g hg)
theorem same_var {W X : World} (h : Same8 W X) {n : String} {g : Nat} (hn : Tryd.prog.globalNamed n = some g) (hg : g < gN) : X.var? Tryd.prog n = W.var? Tryd.prog n := by
  unfold World.var?
  rw [hn]
  simp only [Option.bind_some]
  rw [h g hg]
theorem gl_of {W : World} (hsh : W.ShapedOpen Tryd.prog)
    (hL : laidMet Tryd.prog [("math/bits.deBruijn32tab", Rows.laid_math_bits_deBruijn32tab), ("math/bits.deBruijn64tab", Rows.laid_math_bits_deBruijn64tab), ("internal/strconv.uint64pow10", Rows.laid_internal_strconv_uint64pow10), ("unicode/utf8.acceptRanges", Rows.laid_unicode_utf8_acceptRanges), ("strconv.ErrRange", Rows.laid_strconv_ErrRange), ("strconv.ErrSyntax", Rows.laid_strconv_ErrSyntax), ("unicode/utf8.first", Rows.laid_unicode_utf8_first)] W) : Gl W := by
  have hT : Lib.TabIs Tryd.prog W "internal/strconv.uint64pow10" .u64 Lib.pow10Tab :=
    Lib.tabIs_of_head (g := 3) (by kernel_rfl) (by kernel_rfl) Tryd.underlying109 Tryd.underlying84 (by kernel_rfl) (by kernel_rfl) hL.tail.tail
  obtain ⟨a0, t0, hv0, -, -, -⟩ := laid_sentinel (g := 5) hL.tail.tail.tail.tail (by kernel_rfl) (by kernel_rfl) Tryd.underlying75 rowE Tryd.underlying120 Tryd.underlying122 rfl rfl Tryd.underlying9 (by kernel_rfl) (by kernel_rfl)
  obtain ⟨a1, t1, hv1, -, -, -⟩ := laid_sentinel (g := 4) hL.tail.tail.tail.tail.tail (by kernel_rfl) (by kernel_rfl) Tryd.underlying75 rowE Tryd.underlying120 Tryd.underlying122 rfl rfl Tryd.underlying9 (by kernel_rfl) (by kernel_rfl)
  have c0 : W.cell? ⟨5, 0, none⟩ = some (.iface 120 (.pointer (some a0))) := World.var?_cell (by kernel_rfl) hv0 0
  have c1 : W.cell? ⟨4, 0, none⟩ = some (.iface 120 (.pointer (some a1))) := World.var?_cell (by kernel_rfl) hv1 0
  have h2 : VarReads Tryd.prog W "unicode/utf8.first" firstData := by
    have := Lib.laidMet.reads hL (n := "unicode/utf8.first") (d := Rows.laid_unicode_utf8_first) (.tail _ (.tail _ (.tail _ (.tail _ (.tail _ (.tail _ (.head _)))))))
    rw [← Pinned.utf8First_eq]
    exact this
  have h3 : VarReads Tryd.prog W "unicode/utf8.acceptRanges" acceptData := by
    have := Lib.laidMet.reads hL (n := "unicode/utf8.acceptRanges") (d := Rows.laid_unicode_utf8_acceptRanges) (.tail _ (.tail _ (.tail _ (.head _))))
    rw [show acceptData = (Rows.laid_unicode_utf8_acceptRanges : DataW Unit) by kernel_rfl]
    exact this
  have hU : Lib.Utf8Tabs 0 1 W := utf8Tabs_of_readsT (U8Types.of196 Tryd.laysValid) ⟨by kernel_rfl, by kernel_rfl, by kernel_rfl, by kernel_rfl, by kernel_rfl, by kernel_rfl, by kernel_rfl⟩ h2 h3
  have b0 : 5 < gN := of_decide_eq_true (by kernel_rfl)
  have b1 : 4 < gN := of_decide_eq_true (by kernel_rfl)
  have b3 : 3 < gN := of_decide_eq_true (by kernel_rfl)
  have b4 : 0 < gN := of_decide_eq_true (by kernel_rfl)
  have b5 : 1 < gN := of_decide_eq_true (by kernel_rfl)
  exact ⟨gN_le hsh, ⟨_, _, fun X h => (same_cell h b1).trans c1⟩, ⟨_, _, fun X h => (same_cell h b0).trans c0⟩,
    fun X h => (same_var h (by kernel_rfl) b3).trans hT,
    fun X h => ⟨fun c hc => (same_cell h b4).trans (hU.1 c hc), fun i hi => ⟨(same_cell h b5).trans (hU.2 i hi).1, (same_cell h b5).trans (hU.2 i hi).2⟩⟩⟩
end Go.Proofs.YtdooeedemgmpiaaDoor
