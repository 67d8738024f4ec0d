/- payload's writer: value. Conditions: those that each theorem names. -/
import Derived.Test.YtfppemgagifmpaaDoorPlG
namespace Go.Proofs.YtfppemgagifmpaaDoor
set_option linter.unusedVariables false
open Go Go.RowKit Go.Shelf Pl
theorem WrAt.lt {B b : Nat} {bs : List Value} {w : World} (h : WrAt B b bs w) : b < w.heap.size := by
  rcases h with h | h <;> exact h.lt
theorem heap_old (w : World) (o : Obj) {k : Nat} (hk : k < w.heap.size) : (w.alloc o).heap[k]? = w.heap[k]? := Below.heap_alloc _ _ _ hk
theorem cells3_new {w : World} {g : Nat} {a b c : Value} {T : TypeId} (h : w.heap[g]? = some (.cells #[a, b, c] T (0, 0))) (o : Obj) :
    (w.alloc o).cell? ⟨g, 0, none⟩ = some a ∧ (w.alloc o).cell? ⟨g, 1, none⟩ = some b ∧ (w.alloc o).cell? ⟨g, 2, none⟩ = some c := by
  have hk : g < w.heap.size := (Array.getElem?_eq_some_iff.1 h).1
  rw [← heap_old w o hk] at h
  refine ⟨?_, ?_, ?_⟩ <;> rw [Lib.cell_of_heap h] <;> rfl
theorem cells3_of {w : World} {g : Nat} {a b c : Value} {T : TypeId} (h : w.heap[g]? = some (.cells #[a, b, c] T (0, 0))) :
    w.cell? ⟨g, 0, none⟩ = some a ∧ w.cell? ⟨g, 1, none⟩ = some b ∧ w.cell? ⟨g, 2, none⟩ = some c := by
  refine ⟨?_, ?_, ?_⟩ <;> rw [Lib.cell_of_heap h] <;> rfl
theorem cells4_of {w : World} {g : Nat} {a b c d : Value} {T : TypeId} (h : w.heap[g]? = some (.cells #[a, b, c, d] T (0, 0))) :
    w.cell? ⟨g, 0, none⟩ = some a ∧ w.cell? ⟨g, 1, none⟩ = some b ∧ w.cell? ⟨g, 2, none⟩ = some c ∧ w.cell? ⟨g, 3, none⟩ = some d := by
  refine ⟨?_, ?_, ?_, ?_⟩ <;> rw [Lib.cell_of_heap h] <;> rfl
set_option maxHeartbeats 1000000 in
set_option maxRecDepth 100000 in
theorem value_num (B b : Nat) (l : List UInt8) (k K N : Nat) (n : Int) (t : ByteArray) (w : World) (G : Gp w) (h : WrAt B b (Lib.byteCells l) w) (h1 : 1 ≤ k) (h3 : k < 4) (hk : k ≠ 2) (hK : (szT k).1 = (K : Int)) (hK1 : 1 ≤ K) (hK8 : K ≤ 8)
    (hN : N < 256 ^ K) (hn : IntKind.u64.wrap n = (N : Int)) (hl : l.length ≤ 65535) (hB : B ≤ w.heap.size) :
    Calls Tryd.prog 38 #[.pointer (some ⟨b, 0, none⟩), .agg #[.int .i64 k, .int .i64 n, .string t]] w fun e w' => e = .returned (.tuple #[]) ∧ (WrAt B b (Lib.byteCells (l ++ fixL 1 k ++ fixL K N)) w' ∧ Kw B b w w') := by
  have HZ := Lib.hid (fun W (G : Gp W) => size_kind k h1 h3 W G)
  rw [hK] at HZ
  generalize (szT k).2.1 = lo at *
  generalize (szT k).2.2.1 = hi at *
  generalize (szT k).2.2.2 = tx at *
  have HN1 := Lib.hid (fun W (h : WrAt B b (Lib.byteCells l) W) hB => number_any B b l k k 1 W h (by omega) (by omega) (by omega) (by show (k : Int) % 18446744073709551616 = k; omega) (by omega) hB)
  have HN2 := Lib.hid (fun W (h : WrAt B b (Lib.byteCells (l ++ fixL 1 k)) W) hB => number_any B b (l ++ fixL 1 k) n N K W h hK1 hK8 hN hn (by rw [List.length_append, fixL_length]; omega) hB)
  generalize Lib.byteCells (l ++ fixL 1 k ++ fixL K N) = bs2 at *
  generalize Lib.byteCells (l ++ fixL 1 k) = bs1 at *
  generalize Lib.byteCells l = bs0 at *
  have HH := Lib.hid h
  have HLT := Lib.hid h.lt
  have HK2 : ¬ (k : Int) = 2 := by omega
  clear hN hn h hK
  have hx := Lib.hid (heap_last w (.cells #[.int .i64 (k : Int), .int .i64 n, .string t] 45))
  obtain ⟨a0, a1, a2⟩ := cells3_of hx.out
  go_enter Tryd.func38, Tryd.ntmps38
  go_wp2_with fail
  refine (HZ.out _ (G.alloc _)).mono ?_
  rintro e w2 ⟨rfl, b2⟩
  have x2 : w2.heap[w.heap.size]? = some (.cells #[.int .i64 (k : Int), .int .i64 n, .string t] 45 (0, 0)) := (b2.block _ (by simp)).trans hx.out
  have hs2 : w.heap.size < w2.heap.size := Nat.lt_of_lt_of_le (by simp) b2.size
  have hbb : Below w.heap.size w w2 := (Below.alloc (Below.refl _ w) (Nat.le_refl _) _).trans (b2.mono (by simp))
  obtain ⟨w3, hw3⟩ : ∃ w3, w3 = w2.alloc (.cells #[.int .i64 (K : Int), .int .i64 lo, .int .i64 hi, .int .i64 tx] 87) := ⟨_, rfl⟩
  have x3 : w3.heap[w.heap.size]? = some (.cells #[.int .i64 (k : Int), .int .i64 n, .string t] 45 (0, 0)) := by rw [hw3, heap_old _ _ hs2]; exact x2
  have y3 : w3.heap[w2.heap.size]? = some (.cells #[.int .i64 (K : Int), .int .i64 lo, .int .i64 hi, .int .i64 tx] 87 (0, 0)) := by rw [hw3]; exact heap_last _ _
  have b3 : Below w.heap.size w w3 := by rw [hw3]; exact hbb.alloc (by omega) _
  have c0 := fun o => (cells3_new x2 o).1
  have X3 := Lib.hid x3
  have Y3 := Lib.hid y3
  have B3 := Lib.hid b3
  have S2 := Lib.hid hs2
  have W3 := Lib.hid hw3
  clear x3 y3 b3 hbb x2 hs2
  go_wp2_with fail
  rw [← W3.out]
  have k3 : Kw B b w w3 := Kw.of_below B3.out hB
  refine (HN1.out w3 (HH.out.below B3.out) (Nat.le_trans hB k3.size)).mono ?_
  rintro e w4 ⟨rfl, h4, k4⟩
  have x4 := k4.block X3.out (by have := HLT.out; omega) (by decide)
  have y4 := k4.block Y3.out (by have := HLT.out; have := S2.out; omega) (by decide)
  obtain ⟨d0, d1, d2⟩ := cells3_of x4
  obtain ⟨f0, f1, f2, f3⟩ := cells4_of y4
  clear x4 y4 hw3 c0
  go_wp2_with fail
  refine (HN2.out w4 h4 (Nat.le_trans hB (k3.trans k4).size)).mono ?_
  rintro e w5 ⟨rfl, h5, k5⟩
  go_wp2_with fail
  go_end0
  exact ⟨rfl, h5, (k3.trans k4).trans k5⟩
set_option maxHeartbeats 1000000 in
set_option maxRecDepth 100000 in
theorem value_word (B b : Nat) (l : List UInt8) (n : Int) (t : ByteArray) (w : World) (G : Gp w) (h : WrAt B b (Lib.byteCells l) w) (ht : t.size ≤ 256) (hl : l.length ≤ 65535) (hB : B ≤ w.heap.size) :
    Calls Tryd.prog 38 #[.pointer (some ⟨b, 0, none⟩), .agg #[.int .i64 2, .int .i64 n, .string t]] w fun e w' => e = .returned (.tuple #[]) ∧ (WrAt B b (Lib.byteCells (l ++ fixL 1 2 ++ fixL 2 t.size ++ t.data.toList)) w' ∧ Kw B b w w') := by
  have HZ := Lib.hid (fun W (G : Gp W) => size_kind 2 (by omega) (by omega) W G)
  rw [show (szT 2).1 = 2 from rfl] at HZ
  generalize (szT 2).2.1 = lo at *
  generalize (szT 2).2.2.1 = hi at *
  generalize (szT 2).2.2.2 = tx at *
  have HN1 := Lib.hid (fun W (h : WrAt B b (Lib.byteCells l) W) hB => number_any B b l 2 2 1 W h (by omega) (by omega) (by omega) (by rfl) (by omega) hB)
  have HN2 := Lib.hid (fun W (h : WrAt B b (Lib.byteCells (l ++ fixL 1 2)) W) hB => text_any B b (l ++ fixL 1 2) t 2 W h (by omega) (by omega) (by omega) (by omega) (by rw [List.length_append, fixL_length]; omega) hB)
  generalize Lib.byteCells (l ++ fixL 1 2 ++ fixL 2 t.size ++ t.data.toList) = bs2 at *
  generalize Lib.byteCells (l ++ fixL 1 2) = bs1 at *
  generalize Lib.byteCells l = bs0 at *
  have HH := Lib.hid h
  have HLT := Lib.hid h.lt
  clear h
  have hx := Lib.hid (heap_last w (.cells #[.int .i64 2, .int .i64 n, .string t] 45))
  obtain ⟨a0, a1, a2⟩ := cells3_of hx.out
  go_enter Tryd.func38, Tryd.ntmps38
  go_wp2_with fail
  refine (HZ.out _ (G.alloc _)).mono ?_
  rintro e w2 ⟨rfl, b2⟩
  have x2 : w2.heap[w.heap.size]? = some (.cells #[.int .i64 2, .int .i64 n, .string t] 45 (0, 0)) := (b2.block _ (by simp)).trans hx.out
  have hs2 : w.heap.size < w2.heap.size := Nat.lt_of_lt_of_le (by simp) b2.size
  have hbb : Below w.heap.size w w2 := (Below.alloc (Below.refl _ w) (Nat.le_refl _) _).trans (b2.mono (by simp))
  obtain ⟨w3, hw3⟩ : ∃ w3, w3 = w2.alloc (.cells #[.int .i64 2, .int .i64 lo, .int .i64 hi, .int .i64 tx] 87) := ⟨_, rfl⟩
  have x3 : w3.heap[w.heap.size]? = some (.cells #[.int .i64 2, .int .i64 n, .string t] 45 (0, 0)) := by rw [hw3, heap_old _ _ hs2]; exact x2
  have y3 : w3.heap[w2.heap.size]? = some (.cells #[.int .i64 2, .int .i64 lo, .int .i64 hi, .int .i64 tx] 87 (0, 0)) := by rw [hw3]; exact heap_last _ _
  have b3 : Below w.heap.size w w3 := by rw [hw3]; exact hbb.alloc (by omega) _
  have c0 := fun o => (cells3_new x2 o).1
  have X3 := Lib.hid x3
  have Y3 := Lib.hid y3
  have B3 := Lib.hid b3
  have S2 := Lib.hid hs2
  have W3 := Lib.hid hw3
  clear x3 y3 b3 hbb x2 hs2
  go_wp2_with fail
  rw [← W3.out]
  have k3 : Kw B b w w3 := Kw.of_below B3.out hB
  refine (HN1.out w3 (HH.out.below B3.out) (Nat.le_trans hB k3.size)).mono ?_
  rintro e w4 ⟨rfl, h4, k4⟩
  have x4 := k4.block X3.out (by have := HLT.out; omega) (by decide)
  have y4 := k4.block Y3.out (by have := HLT.out; have := S2.out; omega) (by decide)
  obtain ⟨d0, d1, d2⟩ := cells3_of x4
  obtain ⟨f0, f1, f2, f3⟩ := cells4_of y4
  clear x4 y4 hw3 c0
  go_wp2_with fail
  refine (HN2.out w4 h4 (Nat.le_trans hB (k3.trans k4).size)).mono ?_
  rintro e w5 ⟨rfl, h5, k5⟩
  go_wp2_with fail
  go_end0
  exact ⟨rfl, h5, (k3.trans k4).trans k5⟩
end Go.Proofs.YtfppemgagifmpaaDoor
