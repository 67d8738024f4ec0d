/- manifest's call Load over a disk in memory, Store over none. Conditions: those that each theorem names. -/
import Derived.Test.YtkbdokakoapooaaGreatDoorMfBy
import Derived.Test.YtkbdokakoapooaaGreatDoorGaF
import Derived.Test.YtkbdokakoapooaaGreatDoorDkSure
namespace Go.Proofs.YtkbdokakoapooaaGreatDoor
set_option linter.unusedVariables false
open Go Go.RowKit Go.Shelf Go.Sort Dk
namespace Mf
def nMan : ByteArray := ⟨#[109, 97, 110, 105, 102, 101, 115, 116]⟩
def nTmp : ByteArray := ⟨#[116, 109, 112]⟩
theorem nMan_full : nMan.toList.isEmpty = false := full _ rfl
theorem nTmp_full : nTmp.toList.isEmpty = false := full _ rfl
theorem nMan_size : nMan.size ≤ maxLen := by decide
theorem nTmp_size : nTmp.size ≤ maxLen := by decide
def zeroV : Value := .agg #[.slice none 0 0, .string ⟨#[]⟩, .int .i64 0, .int .i64 0]
theorem zeroV_own (w : World) (base : Nat) : MnOwn w base zeroV Mn.zero := ⟨none, 0, rfl, ownT_nil _ _⟩
set_option maxHeartbeats 1000000 in
set_option maxRecDepth 100000 in
theorem load_bad (p : Value) (w : World) (e0 : Int) (b0 : Int) (h0 : e0 = 20 ∧ b0 = 0 ∨ e0 = 1 ∧ b0 = 1) (hr : ∀ W, Below w.heap.size w W → Calls Tryz.prog 9 #[p, .string ⟨#[109, 97, 110, 105, 102, 101, 115, 116]⟩] W fun e w' => e = .returned (.tuple #[.string ⟨#[]⟩, .int .i64 e0]) ∧ W = w') :
    Calls Tryz.prog 47 #[p] w fun e w' => e = .returned (.tuple #[zeroV, .bool false, .int .i64 b0]) ∧ Below w.heap.size w w' := by
  have hb0 := below_new w (.cells #[.slice none 0 0, .string ⟨#[]⟩, .int .i64 0, .int .i64 0] 61)
  have hz0 := heap_new w (.cells #[.slice none 0 0, .string ⟨#[]⟩, .int .i64 0, .int .i64 0] 61)
  have HR := Lib.hid (hr _ hb0)
  have HB := Lib.hid hb0
  have HST : Hid (∀ a b c d, Below w.heap.size w (((((w.alloc (.cells #[.slice none 0 0, .string ⟨#[]⟩, .int .i64 0, .int .i64 0] 61)).setCell ⟨w.heap.size, 0, none⟩ a).setCell ⟨w.heap.size, 1, none⟩ b).setCell ⟨w.heap.size, 2, none⟩ c).setCell ⟨w.heap.size, 3, none⟩ d)) := Lib.hid (fun a b c d =>
    (((hb0.setCell (p := ⟨w.heap.size, 0, none⟩) (Nat.le_refl _) _).setCell (p := ⟨w.heap.size, 1, none⟩) (Nat.le_refl _) _).setCell (p := ⟨w.heap.size, 2, none⟩) (Nat.le_refl _) _).setCell (p := ⟨w.heap.size, 3, none⟩) (Nat.le_refl _) _)
  obtain ⟨g0, g1, g2, g3⟩ := of_cells4 hz0
  have f0 := Lib.frozen_of_heap hz0 0
  have f1 := Lib.frozen_of_heap hz0 1
  have f2 := Lib.frozen_of_heap hz0 2
  have f3 := Lib.frozen_of_heap hz0 3
  clear hr hb0 hz0
  unfold zeroV
  rcases h0 with ⟨rfl, rfl⟩ | ⟨rfl, rfl⟩
  all_goals
    go_enter Tryz.func47, Tryz.ntmps47
    go_wp2_with fail
    generalize w.alloc (.cells #[.slice none 0 0, .string ⟨#[]⟩, .int .i64 0, .int .i64 0] 61) = W0 at *
    refine HR.out.mono ?_
    rintro e w1 ⟨rfl, rfl⟩
    go_wp2_with fail
  · exact bodyPost_ret (v := .tuple #[.agg #[.slice none 0 0, .string ⟨#[]⟩, .int .i64 0, .int .i64 0], .bool false, .int .i64 0]) (by simp [results, Tryz.results47, go_sem, g0, g1, g2, g3]) rfl ⟨rfl, HST.out _ _ _ _⟩
  · exact bodyPost_ret (v := .tuple #[.agg #[.slice none 0 0, .string ⟨#[]⟩, .int .i64 0, .int .i64 0], .bool false, .int .i64 1]) (by simp [results, Tryz.results47, go_sem, g0, g1, g2, g3]) rfl ⟨rfl, HST.out _ _ _ _⟩
theorem load_none {w0 w : World} {A : Nat} {D : DSt} (h : At w0 A D w) (hg : nmGet D.names nMan = none) :
    Calls Tryz.prog 47 #[.pointer (some ⟨A, 0, none⟩)] w fun e w' => e = .returned (.tuple #[zeroV, .bool false, .int .i64 0]) ∧ Below w.heap.size w w' :=
  load_bad _ w 20 0 (.inl ⟨rfl, rfl⟩) fun W hW => (h.others hW).read_none nMan nMan_size nMan_full hg
theorem load_nil (w : World) :
    Calls Tryz.prog 47 #[.pointer none] w fun e w' => e = .returned (.tuple #[zeroV, .bool false, .int .i64 1]) ∧ Below w.heap.size w w' :=
  load_bad _ w 1 1 (.inr ⟨rfl, rfl⟩) fun W hW => (read_nil nMan W).mono fun e w' h => h
theorem decE_two (s : ByteArray) : decE s = 0 ∨ decE s = 110 := by
  unfold decE
  split
  · exact .inl rfl
  · exact .inr rfl
set_option maxHeartbeats 2000000 in
set_option maxRecDepth 100000 in
theorem load_some {w0 w : World} {A : Nat} {D : DSt} (h : At w0 A D w) (G : Gh w) (i : Nat) (f : FileC) (hg : nmGet D.names nMan = some i) (hf : D.files[i]? = some f) (hs : f.data.length ≤ 16777215) :
    Calls Tryz.prog 47 #[.pointer (some ⟨A, 0, none⟩)] w fun e w' => ∃ v, e = .returned (.tuple #[v, .bool (decide (decE (tx f.data) = 0)), .int .i64 (decE (tx f.data))]) ∧ MnOwn w' w.heap.size v (decM (tx f.data)) ∧ Below w.heap.size w w' := by
  have hb0 := below_new w (.cells #[.slice none 0 0, .string ⟨#[]⟩, .int .i64 0, .int .i64 0] 61)
  have hz0 := heap_new w (.cells #[.slice none 0 0, .string ⟨#[]⟩, .int .i64 0, .int .i64 0] 61)
  have HR := Lib.hid ((h.others hb0).read_some nMan nMan_size nMan_full i f hg hf)
  have HD := Lib.hid (decode_any (tx f.data) _ (by rw [tx_size]; exact hs) (G.below hb0))
  have HB := Lib.hid hb0
  have HZ0 := Lib.hid hz0
  have HS0 : Hid ((w.alloc (.cells #[.slice none 0 0, .string ⟨#[]⟩, .int .i64 0, .int .i64 0] 61)).heap.size = w.heap.size + 1) := Lib.hid (by simp)
  unfold nMan at HR
  rw [show (⟨f.data.toArray⟩ : ByteArray) = tx f.data from rfl] at HR
  have htw := decE_two (tx f.data)
  generalize decE (tx f.data) = de at *
  generalize decM (tx f.data) = dm at *
  generalize tx f.data = t at *
  clear hb0 hz0 hs h G hg hf
  go_enter Tryz.func47, Tryz.ntmps47
  go_wp2_with fail
  generalize w.alloc (.cells #[.slice none 0 0, .string ⟨#[]⟩, .int .i64 0, .int .i64 0] 61) = W0 at *
  refine HR.out.mono ?_
  rintro e w1 ⟨rfl, rfl⟩
  go_wp2_with fail
  refine HD.out.mono ?_
  clear HD HR
  rintro e w2 ⟨v, rfl, ⟨p, c, rfl, ho⟩, hb2⟩
  rw [HS0.out] at ho
  have hz2 := (hb2.block _ (Array.getElem?_eq_some_iff.1 HZ0.out).1).trans HZ0.out
  have HB2 := Lib.hid (below_then HB.out hb2)
  have HO := Lib.hid ho
  have hz3 : ∀ o, (w2.alloc o).heap[w.heap.size]? = some (.cells #[.slice none 0 0, .string ⟨#[]⟩, .int .i64 0, .int .i64 0] 61 (0, 0)) := fun o => (heap_old w2 o (Array.getElem?_eq_some_iff.1 hz2).1).trans hz2
  have g0 : ∀ o, (w2.alloc o).cell? ⟨w.heap.size, 0, none⟩ = some (.slice none 0 0) := fun o => (of_cells4 (hz3 o)).1
  have g1 : ∀ o, (w2.alloc o).cell? ⟨w.heap.size, 1, none⟩ = some (.string ⟨#[]⟩) := fun o => (of_cells4 (hz3 o)).2.1
  have g2 : ∀ o, (w2.alloc o).cell? ⟨w.heap.size, 2, none⟩ = some (.int .i64 0) := fun o => (of_cells4 (hz3 o)).2.2.1
  have g3 : ∀ o, (w2.alloc o).cell? ⟨w.heap.size, 3, none⟩ = some (.int .i64 0) := fun o => (of_cells4 (hz3 o)).2.2.2
  have f0 : ∀ o, (w2.alloc o).frozen? ⟨w.heap.size, 0, none⟩ = false := fun o => Lib.frozen_of_heap (hz3 o) 0
  have f1 : ∀ o, (w2.alloc o).frozen? ⟨w.heap.size, 1, none⟩ = false := fun o => Lib.frozen_of_heap (hz3 o) 1
  have f2 : ∀ o, (w2.alloc o).frozen? ⟨w.heap.size, 2, none⟩ = false := fun o => Lib.frozen_of_heap (hz3 o) 2
  have f3 : ∀ o, (w2.alloc o).frozen? ⟨w.heap.size, 3, none⟩ = false := fun o => Lib.frozen_of_heap (hz3 o) 3
  have HST : Hid (∀ o a b c d, Below w.heap.size w (((((w2.alloc o).setCell ⟨w.heap.size, 0, none⟩ a).setCell ⟨w.heap.size, 1, none⟩ b).setCell ⟨w.heap.size, 2, none⟩ c).setCell ⟨w.heap.size, 3, none⟩ d)) := Lib.hid (fun o a b c d =>
    ((((below_then HB2.out (below_new w2 o)).setCell (p := ⟨w.heap.size, 0, none⟩) (Nat.le_refl _) _).setCell (p := ⟨w.heap.size, 1, none⟩) (Nat.le_refl _) _).setCell (p := ⟨w.heap.size, 2, none⟩) (Nat.le_refl _) _).setCell (p := ⟨w.heap.size, 3, none⟩) (Nat.le_refl _) _)
  have HTT : Hid (∀ o a b c' d, OwnT (((((w2.alloc o).setCell ⟨w.heap.size, 0, none⟩ a).setCell ⟨w.heap.size, 1, none⟩ b).setCell ⟨w.heap.size, 2, none⟩ c').setCell ⟨w.heap.size, 3, none⟩ d) (w.heap.size + 1) (.slice p dm.segs.length c) dm.segs) := Lib.hid (fun o a b c' d =>
    ownT_set (ownT_set (ownT_set (ownT_set (ownT_kept HO.out (below_new w2 o)) (by omega)) (by omega)) (by omega)) (by omega))
  clear hb2 ho hz2
  rcases htw with rfl | rfl
  all_goals
    go_wp2_with fail
  · exact bodyPost_ret (v := .tuple #[.agg #[.slice p dm.segs.length c, .string dm.log, .int .i64 dm.next, .int .i64 dm.seq], .bool true, .int .i64 0]) (by simp [results, Tryz.results47, go_sem, g0, g1, g2, g3]) rfl ⟨_, rfl, ⟨p, c, rfl, ownT_base (HTT.out _ _ _ _ _) (by omega)⟩, HST.out _ _ _ _ _⟩
  · exact bodyPost_ret (v := .tuple #[.agg #[.slice p dm.segs.length c, .string dm.log, .int .i64 dm.next, .int .i64 dm.seq], .bool false, .int .i64 110]) (by simp [results, Tryz.results47, go_sem, g0, g1, g2, g3]) rfl ⟨_, rfl, ⟨p, c, rfl, ownT_base (HTT.out _ _ _ _ _) (by omega)⟩, HST.out _ _ _ _ _⟩
set_option maxHeartbeats 1000000 in
set_option maxRecDepth 100000 in
theorem store_nil (m : Mn) (v : Value) (w : World) (hv : MnAt w v m) :
    Calls Tryz.prog 16 #[.pointer none, v] w fun e w' => e = .returned (.int .i64 1) ∧ Below w.heap.size w w' := by
  obtain ⟨p, c, rfl, _⟩ := hv
  have HB := Lib.hid (below_new w (.cells #[.slice p m.segs.length c, .string m.log, .int .i64 m.next, .int .i64 m.seq] 61))
  go_enter Tryz.func16, Tryz.ntmps16
  go_wp2_with fail
  go_ret
  exact ⟨rfl, HB.out⟩
end Mf
end Go.Proofs.YtkbdokakoapooaaGreatDoor
