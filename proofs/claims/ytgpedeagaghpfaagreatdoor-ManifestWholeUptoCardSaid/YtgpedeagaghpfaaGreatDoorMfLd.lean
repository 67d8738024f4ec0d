/- Out of what a row lists of variables: what manifest's calls ask of a world. Conditions: none but those that each theorem names. -/
import Derived.Test.YtgpedeagaghpfaaGreatDoorMfA
import Derived.Test.YtgpedeagaghpfaaGreatDoorRows
import Derived.Lib.LaidTab
import Derived.Lib.LaidU8
import Derived.Stop.LaidErr
import Derived.MakeChecks
namespace Go.Proofs.YtgpedeagaghpfaaGreatDoor
set_option linter.unusedVariables false
open Go Go.RowKit Go.Shelf
namespace Mf
theorem star : "*" ++ "errors.errorString" = "*errors.errorString" := by decide
theorem rowE (u : TypeId) (h : Tryz.prog.typeName? 3 u = some "*errors.errorString") : u = 212 :=
  typeName_ptr_named (nm := "errors.errorString") (by rw [star]; kernel_rfl) (by kernel_rfl) (by decide) u (by rw [star]; exact h)
theorem gN_le {W : World} (h : W.ShapedOpen Tryz.prog) : gN ≤ W.heap.size := by
  have hs : (((begin Tryz.prog (fun _ _ => 0) default).world.heap[Tryz.prog.globals.size - 1]?).bind Obj.row?).isSome = true := by kernel_rfl
  obtain ⟨⟨z, t⟩, hzt⟩ := Option.isSome_iff_exists.1 hs
  have hp : Tryz.prog.globals.size - 1 < Tryz.prog.globals.size := of_decide_eq_true (by kernel_rfl)
  obtain ⟨cs, hc, _⟩ := h.1 _ z t hp hzt
  have := (Array.getElem?_eq_some_iff.1 hc).1
  unfold gN
  omega
theorem same_cell {W X : World} (h : Same8 W X) {g k : Nat} (hg : g < gN) : X.cell? ⟨g, k, none⟩ = W.cell? ⟨g, k, none⟩ := World.cell?_of_block (w := W) (h g hg)
theorem same_var {W X : World} (h : Same8 W X) {n : String} {g : Nat} (hn : Tryz.prog.globalNamed n = some g) (hg : g < gN) : X.var? Tryz.prog n = W.var? Tryz.prog n := by
  unfold World.var?
  rw [hn]
  simp only [Option.bind_some]
  rw [h g hg]
theorem gh_of {W : World} {r : List (String × DataW Unit)} (hsh : W.ShapedOpen Tryz.prog)
    (hL : laidMet Tryz.prog (("math/bits.deBruijn32tab", Rows.laid_math_bits_deBruijn32tab) :: ("math/bits.deBruijn64tab", Rows.laid_math_bits_deBruijn64tab) :: ("internal/strconv.uint64pow10", Rows.laid_internal_strconv_uint64pow10) :: ("unicode/utf8.acceptRanges", Rows.laid_unicode_utf8_acceptRanges) :: ("strconv.ErrRange", Rows.laid_strconv_ErrRange) :: ("strconv.ErrSyntax", Rows.laid_strconv_ErrSyntax) :: r) W) : Gh W := by
  have hT : Lib.TabIs Tryz.prog W "internal/strconv.uint64pow10" .u64 Lib.pow10Tab :=
    Lib.tabIs_of_head (g := 0) (by kernel_rfl) (by kernel_rfl) Tryz.underlying174 Tryz.underlying71 (by kernel_rfl) (by kernel_rfl) hL.tail.tail
  obtain ⟨a0, t0, hv0, -, -, -⟩ := laid_sentinel (g := 5) hL.tail.tail.tail.tail (by kernel_rfl) (by kernel_rfl) Tryz.underlying122 rowE Tryz.underlying212 Tryz.underlying214 rfl rfl Tryz.underlying9 (by kernel_rfl) (by kernel_rfl)
  obtain ⟨a1, t1, hv1, -, -, -⟩ := laid_sentinel (g := 4) hL.tail.tail.tail.tail.tail (by kernel_rfl) (by kernel_rfl) Tryz.underlying122 rowE Tryz.underlying212 Tryz.underlying214 rfl rfl Tryz.underlying9 (by kernel_rfl) (by kernel_rfl)
  have c0 : W.cell? ⟨5, 0, none⟩ = some (.iface 212 (.pointer (some a0))) := World.var?_cell (by kernel_rfl) hv0 0
  have c1 : W.cell? ⟨4, 0, none⟩ = some (.iface 212 (.pointer (some a1))) := World.var?_cell (by kernel_rfl) hv1 0
  obtain ⟨m, hm⟩ := Tryz.laysM145.s1_3 W hsh
  have hm' : W.cell? ⟨1, 0, none⟩ = some (.int .i64 m) := hm
  have b0 : 5 < gN := of_decide_eq_true (by kernel_rfl)
  have b1 : 4 < gN := of_decide_eq_true (by kernel_rfl)
  have b2 : 1 < gN := of_decide_eq_true (by kernel_rfl)
  have b3 : 0 < gN := of_decide_eq_true (by kernel_rfl)
  exact ⟨gN_le hsh, ⟨m, fun X h => (same_cell h b2).trans hm'⟩, ⟨_, _, fun X h => (same_cell h b1).trans c1⟩, ⟨_, _, fun X h => (same_cell h b0).trans c0⟩,
    fun X h => (same_var h (by kernel_rfl) b3).trans hT⟩
end Mf
end Go.Proofs.YtgpedeagaghpfaaGreatDoor
