/- payload's writer: number, text, value; sizeOf. Conditions: those that each theorem names. -/
import Derived.Test.YtfppemgagifmpaaDoorPlW
import Derived.Test.YtfppemgagifmpaaDoorFx
namespace Go.Proofs.YtfppemgagifmpaaDoor
set_option linter.unusedVariables false
open Go Go.RowKit Go.Shelf Pl
theorem cells_app (l : List UInt8) (r : List UInt8) : Lib.byteCells l ++ Lib.strCells ⟨r.toArray⟩ = Lib.byteCells (l ++ r) := by
  rw [Lib.byteCells_append]; rfl
theorem fix_size (k N : Nat) : (⟨(fixL k N).toArray⟩ : ByteArray).size = k := by
  show (fixL k N).toArray.size = k
  simp [fixL_length]
set_option maxHeartbeats 1000000 in
set_option maxRecDepth 100000 in
theorem number_any (B b : Nat) (l : List UInt8) (n : Int) (N K : Nat) (w : World) (h : WrAt B b (Lib.byteCells l) w) (h1 : 1 ≤ K) (h8 : K ≤ 8) (ho : N < 256 ^ K) (hn : IntKind.u64.wrap n = (N : Int)) (hl : l.length ≤ 1048576) (hB : B ≤ w.heap.size) :
    Calls Tryd.prog 36 #[.pointer (some ⟨b, 0, none⟩), .int .i64 n, .int .i64 K] w fun e w' => e = .returned (.tuple #[]) ∧ (WrAt B b (Lib.byteCells (l ++ fixL K N)) w' ∧ Kw B b w w') := by
  have HF := Lib.hid (fix_fits N K w h1 h8 ho)
  have HH := Lib.hid h
  have HS := Lib.hid (fun w (h : WrAt B b (Lib.byteCells l) w) hB => wstring_any B b (Lib.byteCells l) ⟨(fixL K N).toArray⟩ w h (by rw [Lib.byteCells_length, fix_size]; omega) hB)
  rw [cells_app] at HS
  generalize Lib.byteCells (l ++ fixL K N) = bs' at *
  generalize (⟨(fixL K N).toArray⟩ : ByteArray) = s at *
  clear h ho
  go_enter Tryd.func36, Tryd.ntmps36
  go_wp2_with fail
  refine (HF.out).mono ?_
  rintro e w1 ⟨rfl, b1⟩
  have k1 : Kw B b w w1 := Kw.of_below b1 hB
  have HW := Lib.hid (HS.out w1 (HH.out.below b1) (Nat.le_trans hB b1.size))
  go_wp2_with fail
  refine HW.out.mono ?_
  rintro e w2 ⟨rfl, h2, k2⟩
  go_wp2_with fail
  go_end0
  exact ⟨rfl, h2, k1.trans k2⟩
set_option maxHeartbeats 1000000 in
set_option maxRecDepth 100000 in
theorem text_any (B b : Nat) (l : List UInt8) (s : ByteArray) (K : Nat) (w : World) (h : WrAt B b (Lib.byteCells l) w) (h1 : 1 ≤ K) (h8 : K ≤ 8) (ho : s.size < 256 ^ K) (hs : s.size ≤ 1048576) (hl : l.length ≤ 1048576) (hB : B ≤ w.heap.size) :
    Calls Tryd.prog 37 #[.pointer (some ⟨b, 0, none⟩), .string s, .int .i64 K] w fun e w' => e = .returned (.tuple #[]) ∧ (WrAt B b (Lib.byteCells (l ++ fixL K s.size ++ s.data.toList)) w' ∧ Kw B b w w') := by
  have HF := Lib.hid (number_any B b l s.size s.size K w h h1 h8 ho (by show (s.size : Int) % 18446744073709551616 = s.size; omega) hl hB)
  have HS := Lib.hid (fun w (h : WrAt B b (Lib.byteCells (l ++ fixL K s.size)) w) hB => wstring_any B b (Lib.byteCells (l ++ fixL K s.size)) s w h (by rw [Lib.byteCells_length, List.length_append, fixL_length]; omega) hB)
  rw [Lib.strCells_eq, ← Lib.byteCells_append] at HS
  generalize Lib.byteCells (l ++ fixL K s.size ++ s.data.toList) = bs' at *
  generalize Lib.byteCells (l ++ fixL K s.size) = bs1 at *
  clear h ho
  go_enter Tryd.func37, Tryd.ntmps37
  go_wp2_with fail
  refine (HF.out).mono ?_
  rintro e w1 ⟨rfl, hw1, k1⟩
  have HW := Lib.hid (HS.out w1 hw1 (Nat.le_trans hB k1.size))
  go_wp2_with fail
  refine HW.out.mono ?_
  rintro e w2 ⟨rfl, h2, k2⟩
  go_wp2_with fail
  go_end0
  exact ⟨rfl, h2, k1.trans k2⟩
end Go.Proofs.YtfppemgagifmpaaDoor
