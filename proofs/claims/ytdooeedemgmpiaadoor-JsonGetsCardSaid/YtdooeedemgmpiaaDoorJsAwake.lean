/- The laws' call awake. Conditions: those that each theorem names. -/
import Derived.Test.YtdooeedemgmpiaaDoorJsPuts
import Derived.Test.YtdooeedemgmpiaaDoorJsWhole
namespace Go.Proofs.YtdooeedemgmpiaaDoor
set_option linter.unusedVariables false
open Go Go.RowKit Js

def aw1 : ByteArray := ⟨#[32, 123, 34, 97, 34, 58, 91, 49, 44, 116, 114, 117, 101, 44, 110, 117, 108, 108, 93, 125, 32]⟩
def aw2 : ByteArray := ⟨#[91, 49, 44, 93]⟩
def awJ : J := .mk 6 0 ByteArray.empty [⟨#[97]⟩] [.mk 5 0 ByteArray.empty [] [.mk 3 1 ByteArray.empty [] [], .mk 2 1 ByteArray.empty [] [], .mk 1 0 ByteArray.empty [] []]]
set_option maxRecDepth 100000 in
theorem aw_parse1 : Js.parse aw1 = (awJ, 0, 0) := by kernel_rfl
set_option maxRecDepth 100000 in
theorem aw_parse2 : Js.parse aw2 = (Js.zero, 3, 30) := by kernel_rfl
set_option maxRecDepth 100000 in
theorem aw_print : Js.printed awJ = (⟨#[123, 34, 97, 34, 58, 91, 49, 44, 116, 114, 117, 101, 44, 110, 117, 108, 108, 93, 125]⟩, 0) := by kernel_rfl
theorem plain_empty : plainT ByteArray.empty := fun c hc => by
  rw [show ByteArray.empty.data.toList = [] from rfl] at hc
  cases hc
theorem plain_a : plainT ⟨#[97]⟩ := fun c hc => by
  have : c = 97 := by simpa using hc
  subst this
  decide
theorem aw_texts : Txts awJ := by
  have h := text_plain _ plain_empty
  refine ⟨h, fun n hn => ?_, ⟨h, fun n hn => by simp at hn, ⟨h, fun n hn => by simp at hn, trivial⟩, ⟨h, fun n hn => by simp at hn, trivial⟩, ⟨h, fun n hn => by simp at hn, trivial⟩, trivial⟩, trivial⟩
  have : n = ⟨#[97]⟩ := by simpa using hn
  subst this
  exact text_plain _ plain_a
theorem aw_fits : Fits awJ := by
  refine ⟨by decide, by decide, by decide, fun n hn => ?_, ⟨by decide, by decide, by decide, fun n hn => by simp at hn, ⟨by decide, by decide, by decide, fun n hn => by simp at hn, trivial⟩, ⟨by decide, by decide, by decide, fun n hn => by simp at hn, trivial⟩, ⟨by decide, by decide, by decide, fun n hn => by simp at hn, trivial⟩, trivial⟩, trivial⟩
  have : n = ⟨#[97]⟩ := by simpa using hn
  subst this
  decide
theorem p1_any (w : World) (G : Gl w) : Calls Tryd.prog 13 #[.string aw1] w fun e w' =>
    ∃ np nc lp lc, e = .returned (.tuple #[.agg #[.int .i64 6, .int .i64 0, .string ByteArray.empty, .slice np 1 nc, .slice lp 1 lc], .int .i64 0, .int .i64 0]) ∧ JAt (fun b => b < w'.heap.size) w' awJ (.agg #[.int .i64 6, .int .i64 0, .string ByteArray.empty, .slice np 1 nc, .slice lp 1 lc]) ∧ Gr none' w w' := by
  refine (parse_any aw1 w (by decide) G).mono ?_
  rintro e w' ⟨v, rfl, hj, hg⟩
  rw [aw_parse1] at hj ⊢
  obtain ⟨np, nc, lp, lc, rfl, -, -⟩ := hj.five
  exact ⟨np, nc, lp, lc, rfl, JAt.frame (S' := fun b => b < w'.heap.size) (w' := w') (fun b hb _ => hb) (fun _ _ _ => rfl) (Nat.le_refl _) _ _ hj, hg⟩
theorem p2_any (w : World) (G : Gl w) : Calls Tryd.prog 13 #[.string aw2] w fun e w' =>
    ∃ np nc lp lc, e = .returned (.tuple #[.agg #[.int .i64 0, .int .i64 0, .string ByteArray.empty, .slice np 0 nc, .slice lp 0 lc], .int .i64 3, .int .i64 30]) ∧ Gr none' w w' := by
  refine (parse_any aw2 w (by decide) G).mono ?_
  rintro e w' ⟨v, rfl, hj, hg⟩
  rw [aw_parse2] at hj ⊢
  obtain ⟨np, nc, lp, lc, rfl, -, -⟩ := hj.five
  exact ⟨np, nc, lp, lc, rfl, hg⟩
theorem pr_any (w : World) (v : Value) (h : JAt (fun b => b < w.heap.size) w awJ v) (G : Gl w) : Calls Tryd.prog 14 #[v] w fun e w' =>
    e = .returned (.tuple #[.string ⟨#[123, 34, 97, 34, 58, 91, 49, 44, 116, 114, 117, 101, 44, 110, 117, 108, 108, 93, 125]⟩, .int .i64 0]) ∧ Gr none' w w' := by
  refine (print_any _ awJ v w h (fun _ h => h) aw_fits G (fun _ => ⟨aw_texts, ?_⟩)).mono ?_
  · have : (Js.print awJ).length = 19 := by kernel_rfl
    rw [this]; unfold lim; decide
  · rintro e w' ⟨s, rfl, hs, hg⟩
    rw [aw_print] at hs ⊢
    subst hs
    exact ⟨rfl, hg⟩
set_option maxHeartbeats 1000000 in
set_option maxRecDepth 100000 in
theorem awake_yes (w : World) (G : Gl w) : Calls Tryd.prog 8 #[] w fun e w' => e = .returned (.bool true) ∧ Gr none' w w' := by
  have H1 := Lib.hid (p1_any w G)
  have GG := Lib.hid G
  clear G
  go_enter Tryd.func8, Tryd.ntmps8
  go_wp2_with fail
  refine H1.out.mono ?_
  rintro e w1 ⟨np, nc, lp, lc, rfl, hj, hg1⟩
  have HG1 := Lib.hid hg1
  have hka : Gr none' w1 (w1.alloc (.cells #[.int .i64 6, .int .i64 0, .string ByteArray.empty, .slice np 1 nc, .slice lp 1 lc] 25)) := (Gr.refl _ _).alloc _
  have hja := JAt.frame (S' := fun b => b < (w1.alloc (.cells #[.int .i64 6, .int .i64 0, .string ByteArray.empty, .slice np 1 nc, .slice lp 1 lc] 25)).heap.size) (fun b hb _ => Nat.lt_of_lt_of_le hb hka.size) (fun b _ hb => hka.block b hb (fun x => x)) hka.size _ _ hj
  have HP := Lib.hid (pr_any _ _ hja ((GG.out.weak hg1).weak hka))
  have HGA := Lib.hid (hg1.trans hka)
  clear hj hg1 hka hja H1
  go_wp2_with fail
  refine HP.out.mono ?_
  rintro e w2 ⟨rfl, hg2⟩
  have HG2 := Lib.hid (HGA.out.trans hg2)
  have H2 := Lib.hid (p2_any w2 (GG.out.weak HG2.out))
  clear hg2
  go_wp2_with fail
  refine H2.out.mono ?_
  rintro e w3 ⟨np3, nc3, lp3, lc3, rfl, hg3⟩
  have HG3 := Lib.hid ((HG2.out.trans hg3).alloc (.cells #[.int .i64 0, .int .i64 0, .string ByteArray.empty, .slice np3 0 nc3, .slice lp3 0 lc3] 25))
  clear hg3 H2
  go_wp2_with fail
  go_ret
  exact ⟨rfl, HG3.out⟩
end Go.Proofs.YtdooeedemgmpiaaDoor
