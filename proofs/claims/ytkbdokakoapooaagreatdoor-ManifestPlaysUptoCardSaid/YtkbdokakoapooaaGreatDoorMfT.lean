/- The laws' own call awake of chapter 11. Conditions: those that each theorem names. -/
import Derived.Test.YtkbdokakoapooaaGreatDoorMfM
namespace Go.Proofs.YtkbdokakoapooaaGreatDoor
set_option linter.unusedVariables false
open Go Go.RowKit Go.Shelf Go.Sort
namespace Mf
def aM : Mn := ⟨[], ⟨#[108, 49]⟩, 2, 0⟩
def bM : Mn := ⟨[], ⟨#[108, 50]⟩, 2, 0⟩
theorem aM_may : may aM = true := by decide +kernel
theorem bM_may : may bM = false := by decide +kernel
theorem aM_small : Small aM := ⟨by decide, by decide, fun s hs => by simp [aM] at hs, by decide, by decide, by decide, by decide⟩
theorem bM_small : Small bM := ⟨by decide, by decide, fun s hs => by simp [bM] at hs, by decide, by decide, by decide, by decide⟩
theorem itoa_2 : Lib.itoa 2 = [50] := by rw [show (2 : Int) = ((2 : Nat) : Int) from rfl, itoa_nat, Lib.decDigits, dif_pos (by decide)]; rfl
theorem itoa_0 : Lib.itoa 0 = [48] := by rw [show (0 : Int) = ((0 : Nat) : Int) from rfl, itoa_nat, Lib.decDigits, dif_pos (by decide)]; rfl
def aB : Bs := [108, 111, 100, 101, 115, 116, 97, 114, 32, 49, 10, 110, 101, 120, 116, 32, 50, 10, 115, 101, 113, 32, 48, 10, 108, 111, 103, 32, 108, 49, 10]
theorem aM_body : bodyB aM = aB := by
  unfold bodyB linesOf heads aM
  dsimp only
  rw [itoa_2, itoa_0]
  rfl
theorem aM_text : ∃ t : ByteArray, t = tx (encB aM) ∧ encS aM = t ∧ encE aM = 0 ∧ 35 ≤ t.size ∧ t.size ≤ 100 ∧ t.extract 0 31 = tx aB ∧ decM t = aM ∧ decE t = 0 := by
  obtain ⟨D, hD, _, hD0, hDe⟩ := tail_form (bodyB aM)
  have hd10 : D.length ≤ 10 := by rw [hDe]; exact dec_len 9 _ (by have := Wl.crcL_lt (bodyB aM); omega)
  have hd1 : 1 ≤ D.length := by cases D with | nil => exact absurd rfl hD0 | cons a l => simp
  have he : encB aM = aB ++ tailB (bodyB aM) := by
    show bodyB aM ++ tailB (bodyB aM) = _
    rw [aM_body]
  have hl : aB.length = 31 := rfl
  have ht : (tailB (bodyB aM)).length = 5 + D.length := by rw [hD]; simp; omega
  have hdec : dec (tx (encB aM)) = some aM := dec_some.2 ⟨aM_may, (tx_list _).symm⟩
  refine ⟨_, rfl, ?_, ?_, ?_, ?_, ?_, ?_, ?_⟩
  · unfold encS; rw [if_pos aM_may]
  · unfold encE; rw [if_pos aM_may]
  · rw [tx_size, he, List.length_append]; omega
  · rw [tx_size, he, List.length_append]; omega
  · apply by_ext
    rw [ext_any, tx_list, tx_list, he]
    rw [List.drop_zero, show 31 - 0 = aB.length from rfl, List.take_left]
  · unfold decM; rw [hdec]; rfl
  · unfold decE; rw [hdec]; rfl
theorem mn_none (w : World) (l : ByteArray) (n q : Int) : MnAt w (.agg #[.slice none 0 0, .string l, .int .i64 n, .int .i64 q]) ⟨[], l, n, q⟩ := ⟨none, 0, rfl, .inl ⟨rfl, none, 0, rfl⟩⟩
set_option maxHeartbeats 2000000 in
set_option maxRecDepth 100000 in
theorem awake_yes (w : World) (G : Gh w) :
    Calls Tryz.prog 13 #[] w fun e w' => e = .returned (.bool true) ∧ Below w.heap.size w w' := by
  obtain ⟨t, -, ht1, ht2, ht3, ht4, ht5, ht6, ht7⟩ := aM_text
  have HEA := Lib.hid (fun W (G : Gh W) => encode_any aM _ W (mn_none W ⟨#[108, 49]⟩ 2 0) aM_small G)
  have HEB := Lib.hid (fun W (G : Gh W) => encode_any bM _ W (mn_none W ⟨#[108, 50]⟩ 2 0) bM_small G)
  rw [ht1, ht2] at HEA
  rw [show encS bM = ⟨#[]⟩ by unfold encS; rw [bM_may]; rfl, show encE bM = 110 by unfold encE; rw [bM_may]; rfl] at HEB
  have HD := Lib.hid (fun W (G : Gh W) => decode_any t W (by omega) G)
  rw [ht6, ht7] at HD
  have HSM := Lib.hid (fun v W (hv : MnAt W v aM) => same_any aM aM v _ W hv (mn_none W ⟨#[108, 49]⟩ 2 0) aM_small aM_small)
  rw [sameM_self] at HSM
  have HG := Lib.hid G
  have hcmp : ((tx aB).toList == [108, 111, 100, 101, 115, 116, 97, 114, 32, 49, 10, 110, 101, 120, 116, 32, 50, 10, 115, 101, 113, 32, 48, 10, 108, 111, 103, 32, 108, 49, 10]) = true := by rw [Go.ByteArray.toList_eq, tx_list]; rfl
  have h35 : ¬ (t.size : Int) < 35 := by omega
  have h31 : (31 : Int) ≤ t.size := by omega
  have hsz : (t.size : Int) ≤ 9223372036854775807 := by omega
  clear ht1 ht2 ht3 ht4 ht6 ht7 G
  go_enter Tryz.func13, Tryz.ntmps13
  go_wp2_with fail
  refine (HEA.out _ HG.out).mono ?_
  rintro e w1 ⟨rfl, hb1⟩
  have HB1 := Lib.hid hb1
  have HG1 := Lib.hid (HG.out.below hb1)
  clear hb1 HEA
  go_wp2_with fail
  refine (HD.out _ HG1.out).mono ?_
  rintro e w2 ⟨v, rfl, hv, hb2⟩
  obtain ⟨p, c, rfl, hown⟩ := hv
  have HOW := Lib.hid hown
  have HB2 := Lib.hid (below_then HB1.out hb2)
  have HG2 := Lib.hid (HG1.out.below hb2)
  clear hb2 HD hown ht5 hcmp
  go_wp2_with fail
  have hb3 := below_new w2 (.cells #[.slice p aM.segs.length c, .string aM.log, .int .i64 aM.next, .int .i64 aM.seq] 61)
  have hn3 := heap_new w2 (.cells #[.slice p aM.segs.length c, .string aM.log, .int .i64 aM.next, .int .i64 aM.seq] 61)
  generalize w2.alloc (.cells #[.slice p aM.segs.length c, .string aM.log, .int .i64 aM.next, .int .i64 aM.seq] 61) = W3 at *
  refine (HEB.out _ (HG2.out.below hb3)).mono ?_
  rintro e w4 ⟨rfl, hb4⟩
  obtain ⟨d0, d1, d2, d3⟩ := of_cells4 ((hb4.block _ (Array.getElem?_eq_some_iff.1 hn3).1).trans hn3)
  have HB4 := Lib.hid (below_then HB2.out (below_then hb3 hb4))
  have HM := Lib.hid (HSM.out _ w4 ⟨p, c, rfl, HOW.out.at.below (below_then hb3 hb4)⟩)
  clear hb3 hn3 hb4 HEB HSM
  go_wp2_with fail
  refine HM.out.mono ?_
  rintro e w5 ⟨rfl, hb5⟩
  have HB5 := Lib.hid (below_then HB4.out hb5)
  clear hb5
  go_wp2_with fail
  go_ret
  exact ⟨rfl, HB5.out⟩
end Mf
end Go.Proofs.YtkbdokakoapooaaGreatDoor
