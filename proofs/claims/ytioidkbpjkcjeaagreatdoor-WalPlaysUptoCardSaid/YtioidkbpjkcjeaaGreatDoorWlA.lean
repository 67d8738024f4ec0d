/- The bytes of a record, by the program and by the document. Conditions: those that each theorem names. -/
import Derived.Test.YtioidkbpjkcjeaaGreatDoorSm
import Derived.Test.YtioidkbpjkcjeaaGreatDoorWlPlain
import Derived.Test.YtioidkbpjkcjeaaGreatDoorTx
import Derived.Deep.RegionHeld3
import Derived.Deep.DeepCutAuto
namespace Go.Proofs.YtioidkbpjkcjeaaGreatDoor
set_option linter.unusedVariables false
open Go Go.RowKit Wl
def sumB (s : ByteArray) : ByteArray := tx (sum4 s.data.toList)
theorem sumB_size (s : ByteArray) : (sumB s).size = 4 := by unfold sumB; rw [tx_size, sum4_len]
/-- The bytes of a record. -/
def frB (q : Nat) (b : ByteArray) : ByteArray := tx (frameL q b.data.toList)
theorem frB_size (q : Nat) (b : ByteArray) : (frB q b).size = 20 + b.size := by unfold frB; rw [tx_size, frameL_len, ln]
theorem frB_is (q : Nat) (b : ByteArray) : tx (fixL 4 b.size) ++ tx (fixL 8 q) ++ sumB (tx (fixL 4 b.size) ++ tx (fixL 8 q)) ++ b ++ sumB (tx (fixL 8 q) ++ b) = frB q b := by
  apply by_ext
  simp only [app_list, frB, sumB, tx_list, frameL, headL, ln, List.append_assoc]
theorem fixed_any (N K : Nat) (w : World) (h : 1 ≤ K) (h' : K ≤ 8) (hN : N < 256 ^ K) (hN' : N ≤ 9223372036854775807) :
    Calls Tryz.prog 28 #[.int .i64 (N : Int), .int .i64 (K : Int)] w fun e w' => e = .returned (.string (tx (fixL K N))) ∧ Below w.heap.size w w' := by
  have hw : IntKind.u64.wrap (N : Int) = (N : Int) := IntWalk.u64_in _ (by omega)
  have C := Lib.hid (fix_fits N K w h h' hN)
  clear hN
  go_enter Tryz.func28, Tryz.ntmps28
  go_wp2_with (go_at_call 50; refine C.out.mono ?_; rintro e w2 ⟨rfl, hb⟩)
  go_ret
  exact ⟨rfl, hb⟩
theorem wsum_any (s : ByteArray) (w : World) (hs : s.size ≤ maxLen) :
    Calls Tryz.prog 29 #[.string s] w fun e w' => e = .returned (.string (sumB s)) ∧ Below w.heap.size w w' := by
  have hlt := crcN_lt s
  have hw : IntKind.i64.wrap (crcN s : Int) = (crcN s : Int) := IntWalk.i64_in _ (by omega)
  have hw2 : wrap64 (crcN s : Int) = (crcN s : Int) := by unfold wrap64; omega
  have C := Lib.hid (sum_any s w hs)
  have CF := Lib.hid (fun W => fixed_any (crcN s) 4 W (by decide) (by decide) (by omega) (by omega))
  have HE : Hid (tx (fixL 4 (crcN s)) = sumB s) := Lib.hid rfl
  generalize crcN s = c at *
  go_enter Tryz.func29, Tryz.ntmps29
  go_wp2_with (first
    | (go_at_call 51; refine C.out.mono ?_; rintro e w2 ⟨rfl, hb⟩)
    | (go_at_call 28; refine (CF.out _).mono ?_; rintro e w3 ⟨rfl, hb3⟩))
  go_ret
  exact ⟨by rw [HE.out]; rfl, hb.trans (hb3.mono hb.size)⟩
theorem rec_cells (w : World) (q : Int) (b : ByteArray) : (w.alloc (.cells #[.int .i64 q, .string b] 62)).cell? ⟨w.heap.size, 0, none⟩ = some (.int .i64 q) ∧ (w.alloc (.cells #[.int .i64 q, .string b] 62)).cell? ⟨w.heap.size, 1, none⟩ = some (.string b) := by
  have h := heap_alloc_new w (.cells #[.int .i64 q, .string b] 62)
  exact ⟨by rw [cell_of_row _ _ _ _ _ _ h]; rfl, by rw [cell_of_row _ _ _ _ _ _ h]; rfl⟩
set_option maxHeartbeats 1000000 in
theorem frame_no (q : Int) (b : ByteArray) (w : World) (h : q < 1 ∨ 4503599627370496 < q ∨ 16777216 < b.size) (hb : b.size ≤ maxLen) :
    Calls Tryz.prog 12 #[.agg #[.int .i64 q, .string b]] w fun e w' => e = .returned (.tuple #[.string ⟨#[]⟩, .int .i64 1]) ∧ Below w.heap.size w w' := by
  obtain ⟨c0, c1⟩ := rec_cells w q b
  have HB := Lib.hid ((Below.refl w.heap.size w).alloc (Nat.le_refl _) (.cells #[.int .i64 q, .string b] 62))
  go_enter Tryz.func12, Tryz.ntmps12
  rcases h with h | h | h
  · go_wp2_with fail
    all_goals first
      | (go_ret2; exact ⟨rfl, HB.out⟩)
      | (exfalso; omega)
  · have h1 : ¬ q < 1 := by omega
    go_wp2_with fail
    all_goals first
      | (go_ret2; exact ⟨rfl, HB.out⟩)
      | (exfalso; omega)
  · by_cases h1 : q < 1
    · go_wp2_with fail
      all_goals first
        | (go_ret2; exact ⟨rfl, HB.out⟩)
        | (exfalso; omega)
    · by_cases h2 : 4503599627370496 < q
      · go_wp2_with fail
        all_goals first
          | (go_ret2; exact ⟨rfl, HB.out⟩)
          | (exfalso; omega)
      · have h3 : (16777216 : Int) < (b.size : Int) := by omega
        go_wp2_with fail
        all_goals first
          | (go_ret2; exact ⟨rfl, HB.out⟩)
          | (exfalso; omega)
set_option maxHeartbeats 4000000 in
set_option maxRecDepth 100000 in
theorem frame_yes (q : Nat) (b : ByteArray) (w : World) (hq : 1 ≤ q) (hq' : q ≤ 4503599627370496) (hb : b.size ≤ 16777216) :
    Calls Tryz.prog 12 #[.agg #[.int .i64 (q : Int), .string b]] w fun e w' => e = .returned (.tuple #[.string (frB q b), .int .i64 0]) ∧ Below w.heap.size w w' := by
  obtain ⟨c0, c1⟩ := rec_cells w q b
  have HB := Lib.hid ((Below.refl w.heap.size w).alloc (Nat.le_refl _) (.cells #[.int .i64 (q : Int), .string b] 62))
  have h1 : ¬ (q : Int) < 1 := by omega
  have h2 : ¬ 4503599627370496 < (q : Int) := by omega
  have h3 : ¬ (16777216 : Int) < (b.size : Int) := by omega
  have C4 := Lib.hid (fun W => fixed_any b.size 4 W (by decide) (by decide) (by omega) (by omega))
  have C8 := Lib.hid (fun W => fixed_any q 8 W (by decide) (by decide) (by omega) (by omega))
  have HE := Lib.hid (frB_is q b)
  obtain ⟨l4, hl4⟩ : ∃ l4, l4 = tx (fixL 4 b.size) := ⟨_, rfl⟩
  obtain ⟨s8, hs8⟩ : ∃ s8, s8 = tx (fixL 8 q) := ⟨_, rfl⟩
  have z4 : l4.size = 4 := by rw [hl4, tx_size, fixL_length]
  have z8 : s8.size = 8 := by rw [hs8, tx_size, fixL_length]
  obtain ⟨f, hf⟩ : ∃ f, f = sumB := ⟨_, rfl⟩
  have CS := Lib.hid (fun s (hs : s.size ≤ maxLen) W => wsum_any s W hs)
  have zf : ∀ s, (f s).size = 4 := fun s => by rw [hf]; exact sumB_size s
  rw [← hl4, ← hs8, ← hf] at HE
  rw [← hl4] at C4
  rw [← hs8] at C8
  rw [← hf] at CS
  clear hl4 hs8 hf
  have z12 : (l4 ++ s8).size = 12 := by rw [ByteArray.size_append]; omega
  have zH2 : (s8 ++ b).size = 8 + b.size := by rw [ByteArray.size_append]; omega
  have zf1 := zf (l4 ++ s8)
  have zf2 := zf (s8 ++ b)
  have m1 : ¬ 9223372036854775807 < l4.size + s8.size := by omega
  have m2 : ¬ 9223372036854775807 < l4.size + s8.size + (f (l4 ++ s8)).size := by omega
  have m3 : ¬ 9223372036854775807 < l4.size + s8.size + (f (l4 ++ s8)).size + b.size := by omega
  have m4 : ¬ 9223372036854775807 < s8.size + b.size := by omega
  have m5 : ¬ 9223372036854775807 < l4.size + s8.size + (f (l4 ++ s8)).size + b.size + (f (s8 ++ b)).size := by omega
  have n1 : Hid ((l4 ++ s8).size ≤ maxLen) := Lib.hid (by unfold maxLen; omega)
  have n2 : Hid ((s8 ++ b).size ≤ maxLen) := Lib.hid (by unfold maxLen; omega)
  have CS3 := Lib.hid (fun s (hs : Hid (s.size ≤ maxLen)) W => CS.out s hs.out W)
  clear CS zf z4 z8 z12 zH2 zf1 zf2 hq hq'
  have hlt : w.heap.size < (w.alloc (.cells #[.int .i64 (q : Int), .string b] 62)).heap.size := by simp
  have HLT := Lib.hid hlt
  clear hlt
  go_enter Tryz.func12, Tryz.ntmps12
  go_wp2_with fail
  generalize hW : w.alloc (.cells #[.int .i64 (q : Int), .string b] 62) = W at *
  clear hW
  have HBS : Hid (w.heap.size ≤ W.heap.size) := Lib.hid (Nat.le_of_lt HLT.out)
  obtain ⟨B, hB⟩ : ∃ B, B = w.heap.size := ⟨_, rfl⟩
  rw [← hB] at c0 c1 HB HLT HBS ⊢
  have HEB := Lib.hid hB
  clear hB
  have hlt := HLT.out
  refine (C4.out _).mono ?_
  rintro e w2 ⟨rfl, hb2⟩
  have d0 := (World.cell?_of_block (a := ⟨B, 0, none⟩) (hb2.block B hlt)).trans c0
  have d1 := (World.cell?_of_block (a := ⟨B, 1, none⟩) (hb2.block B hlt)).trans c1
  go_wp2_with fail
  refine (C8.out _).mono ?_
  rintro e w3 ⟨rfl, hb3⟩
  go_wp2_with fail
  have hz := (hb2.trans (hb3.mono hb2.size))
  have HBW := Lib.hid (HB.out.trans (hz.mono HBS.out))
  have e0 : w3.cell? ⟨B, 0, none⟩ = some (.int .i64 (q : Int)) := by rw [World.cell?_of_block (a := ⟨B, 0, none⟩) (hz.block B hlt)]; exact c0
  have e1 : w3.cell? ⟨B, 1, none⟩ = some (.string b) := by rw [World.cell?_of_block (a := ⟨B, 1, none⟩) (hz.block B hlt)]; exact c1
  have hl3 : B < w3.heap.size := Nat.lt_of_lt_of_le hlt hz.size
  clear c0 c1 d0 d1 hb2 hb3 hz HB hlt
  have KEEP : ∀ {x y : World}, (Below w3.heap.size w3 x) → Below x.heap.size x y → (Below w3.heap.size w3 y) := fun h g => h.trans (g.mono h.size)
  have HELD : ∀ {x y : World}, (x.cell? ⟨B, 1, none⟩ = some (.string b) ∧ Below w3.heap.size w3 x) → Below x.heap.size x y → (y.cell? ⟨B, 1, none⟩ = some (.string b) ∧ Below w3.heap.size w3 y) := fun h g => ⟨by rw [World.cell?_of_block (a := ⟨B, 1, none⟩) (g.block B (Nat.lt_of_lt_of_le hl3 h.2.size))]; exact h.1, h.2.trans (g.mono h.2.size)⟩
  have CELL : ∀ {x : World}, Below w3.heap.size w3 x → x.cell? ⟨B, 1, none⟩ = some (.string b) := fun h => by rw [World.cell?_of_block (a := ⟨B, 1, none⟩) (h.block B hl3)]; exact e1
  have hS0 : w3.drew.cell? ⟨B, 1, none⟩ = some (.string b) ∧ Below w3.heap.size w3 w3.drew := ⟨e1, (Below.refl _ _).drew⟩
  go_region_held3 (fun x => x.cell? ⟨B, 1, none⟩ = some (.string b) ∧ Below w3.heap.size w3 x)
    (assumption)
    (first
      | (go_at_call 29; refine (CS3.out _ (by assumption) _).mono ?_; rintro e w1 ⟨rfl, hb⟩; have hs1 := HELD (by assumption) hb))
  all_goals
    have hs2 := hs1.2
    go_wp2_with fail
    go_ret2
    exact ⟨by rw [← HE.out]; rfl, HEB.out ▸ HBW.out.trans (hs2.mono (Nat.le_of_lt hl3))⟩
end Go.Proofs.YtioidkbpjkcjeaaGreatDoor
