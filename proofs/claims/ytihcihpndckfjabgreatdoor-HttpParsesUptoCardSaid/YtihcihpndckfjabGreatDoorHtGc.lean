/- What the library's tables of letters hold, kept by calls, and strings.ToLower at any text. Conditions: those that each theorem names. -/
import Derived.Test.YtihcihpndckfjabGreatDoorHtCl
import Derived.Test.YtihcihpndckfjabGreatDoorHtLaid
import Derived.Shelf.Strings.CaseAny
import Derived.Lib.LaidCase
import Derived.Lib.LaidU8
import Derived.PinnedBridge
namespace Go.Proofs.YtihcihpndckfjabGreatDoor
set_option linter.unusedVariables false
open Go Go.RowKit Go.Shelf Go.Lib Ht

structure GhC (w : World) : Prop where
  gh : Gh w
  case : CaseVar (Tryz.lays159_ren.g 13) caseA w
  utf : Lib.Utf8Tabs (Tryz.lays159_ren.g 3) (Tryz.lays159_ren.g 4) w
theorem GhC.below {w w' : World} (h : GhC w) (g : Below w.heap.size w w') : GhC w' := ⟨h.gh.below g, CaseVar_below h.case g, Utf8Tabs_below h.utf g⟩
theorem lower_gen (s : ByteArray) (w : World) (hs : s.size ≤ 16777215) (G : GhC w) :
    Calls Tryz.prog 44 #[.string s] w fun e w' => ∃ x, e = .returned (.string x) ∧ (asc s.data.toList → x = B (Lib.toLowerA s.data.toList)) ∧ Below w.heap.size w w' := by
  by_cases ha : asc s.data.toList
  · refine (lower_any s w hs (ascS_of ha)).mono ?_
    rintro e w' ⟨rfl, hb⟩
    exact ⟨_, rfl, fun _ => rfl, hb⟩
  · refine (Any.strings_ToLower_any Tryz.lays159 Tryz.Builder_Extra_159 s w (by omega) G.case G.utf).mono ?_
    rintro e w' ⟨rfl, hb⟩
    exact ⟨_, rfl, fun h => absurd h ha, hb⟩
theorem ghc_of {W : World} (hsh : W.ShapedOpen Tryz.prog)
    (hL : laidMet Tryz.prog [("math/bits.deBruijn32tab", Rows.laid_math_bits_deBruijn32tab), ("math/bits.deBruijn64tab", Rows.laid_math_bits_deBruijn64tab), ("internal/strconv.uint64pow10", Rows.laid_internal_strconv_uint64pow10), ("unicode/utf8.acceptRanges", Rows.laid_unicode_utf8_acceptRanges), ("strconv.ErrRange", Rows.laid_strconv_ErrRange), ("strconv.ErrSyntax", Rows.laid_strconv_ErrSyntax), ("unicode.CaseRanges", Rows.laid_unicode_CaseRanges), ("unicode/utf8.first", Rows.laid_unicode_utf8_first)] W) : GhC W := by
  have h1 : VarReads Tryz.prog W "unicode.CaseRanges" caseData := by
    have := Lib.laidMet.reads hL (n := "unicode.CaseRanges") (d := Rows.laid_unicode_CaseRanges) (.tail _ (.tail _ (.tail _ (.tail _ (.tail _ (.tail _ (.head _)))))))
    rw [← Pinned.caseRanges_eq]
    exact this
  have h2 : VarReads Tryz.prog W "unicode/utf8.first" firstData := by
    have := Lib.laidMet.reads hL (n := "unicode/utf8.first") (d := Rows.laid_unicode_utf8_first) (.tail _ (.tail _ (.tail _ (.tail _ (.tail _ (.tail _ (.tail _ (.head _))))))))
    rw [← Pinned.utf8First_eq]
    exact this
  have h3 : VarReads Tryz.prog W "unicode/utf8.acceptRanges" acceptData := by
    have := Lib.laidMet.reads hL (n := "unicode/utf8.acceptRanges") (d := Rows.laid_unicode_utf8_acceptRanges) (.tail _ (.tail _ (.tail _ (.head _))))
    rw [show acceptData = (Rows.laid_unicode_utf8_acceptRanges : DataW Unit) by kernel_rfl]
    exact this
  exact ⟨gh_of hsh hL, caseVar_of_reads { Tryz.lays159 with } Tryz.lays159.t206 ⟨by kernel_rfl, by kernel_rfl, by kernel_rfl, by kernel_rfl, by kernel_rfl, by kernel_rfl⟩ h1,
    utf8Tabs_of_reads { Tryz.lays159 with } ⟨by kernel_rfl, by kernel_rfl, by kernel_rfl, by kernel_rfl, by kernel_rfl, by kernel_rfl, by kernel_rfl⟩ h2 h3⟩
end Go.Proofs.YtihcihpndckfjabGreatDoor
