/- manifest's call Decode. Conditions: those that each theorem names. -/
import Derived.Test.YtkbdokakoapooaaGreatDoorMfH
namespace Go.Proofs.YtkbdokakoapooaaGreatDoor
set_option linter.unusedVariables false
open Go Go.RowKit Go.Shelf Go.Sort
namespace Mf
def decM (s : ByteArray) : Mn := (dec s).getD Mn.zero
def decE (s : ByteArray) : Int := if (dec s).isSome then 0 else 110
theorem dec_cases (s : ByteArray) : (decM s = rd s ∧ decE s = 0 ∧ encE (rd s) = 0 ∧ encS (rd s) = s) ∨ (decM s = Mn.zero ∧ decE s = 110 ∧ ((encE (rd s) = 110 ∧ encS (rd s) = ⟨#[]⟩) ∨ (encE (rd s) = 0 ∧ ((encS (rd s)).toList == s.toList) = false))) := by
  unfold decM decE dec encE encS
  by_cases h : may (rd s) = true
  · by_cases h2 : encB (rd s) = bl s
    · left
      rw [if_pos ⟨h, h2⟩, if_pos h, if_pos h]
      exact ⟨rfl, rfl, rfl, by rw [h2]; exact tx_of s⟩
    · right
      rw [if_neg (fun c => h2 c.2), if_pos h, if_pos h]
      refine ⟨rfl, rfl, .inr ⟨rfl, ?_⟩⟩
      rw [str_eq, decide_eq_false_iff_not, show bl (tx (encB (rd s))) = encB (rd s) from tx_list _]
      exact h2
  · right
    rw [if_neg (fun c => h c.1), if_neg h, if_neg h]
    exact ⟨rfl, rfl, .inl ⟨rfl, rfl⟩⟩
def zero4 : Array Value := #[.slice none 0 0, .string ⟨#[]⟩, .int .i64 0, .int .i64 0]
theorem mnOwn_zero (w : World) (base : Nat) : MnOwn w base (.agg zero4) Mn.zero := ⟨none, 0, rfl, ownT_nil _ _⟩
set_option maxHeartbeats 4000000 in
set_option maxRecDepth 100000 in
theorem decode_any (s : ByteArray) (w : World) (hs : s.size ≤ 16777215) (G : Gh w) :
    Calls Tryz.prog 34 #[.string s] w fun e w' => ∃ v, e = .returned (.tuple #[v, .int .i64 (decE s)]) ∧ MnOwn w' w.heap.size v (decM s) ∧ Below w.heap.size w w' := by
  have HR := Lib.hid (fun W (G : Gh W) => read_any s W hs G)
  have HE := Lib.hid (fun v W (hv : MnAt W v (rd s)) (G : Gh W) => encode_any (rd s) v W hv (by have := (rdK_small s hs (piecesB s).length).1; rwa [rdK_all] at this) G)
  have HG := Lib.hid G
  have hd := dec_cases s
  obtain ⟨m, hm⟩ : ∃ m, m = rd s := ⟨_, rfl⟩
  rw [← hm] at HR HE hd
  clear hs G hm
  have HB0 := Lib.hid (below_new w (.cells zero4 61))
  have HZ : Hid ((w.alloc (.cells zero4 61)).heap[w.heap.size]? = some (.cells zero4 61 (0, 0))) := Lib.hid (heap_new w _)
  unfold zero4 at HB0 HZ
  go_enter Tryz.func34, Tryz.ntmps34
  go_wp2_with fail
  have hsz : (w.alloc (.cells #[.slice none 0 0, .string ⟨#[]⟩, .int .i64 0, .int .i64 0] 61)).heap.size = w.heap.size + 1 := by simp
  generalize w.alloc (.cells #[.slice none 0 0, .string ⟨#[]⟩, .int .i64 0, .int .i64 0] 61) = W0 at *
  refine (HR.out _ (HG.out.below HB0.out)).mono ?_
  clear HR
  rintro e w1 ⟨v, rfl, hv, hb1⟩
  have hw1 := hb1.size
  rw [hsz] at hw1 hv
  obtain ⟨p, c, rfl, ht⟩ := hv
  have HT := Lib.hid ht
  have HBW := Lib.hid (below_then HB0.out hb1)
  have HG1 := Lib.hid (HG.out.below HBW.out)
  have HZ1 : Hid (w1.heap[w.heap.size]? = some (.cells #[.slice none 0 0, .string ⟨#[]⟩, .int .i64 0, .int .i64 0] 61 (0, 0))) := Lib.hid ((hb1.block _ (by omega)).trans HZ.out)
  have HW1 : Hid (w.heap.size + 1 ≤ w1.heap.size) := Lib.hid hw1
  clear hb1 HZ HB0 ht hw1 hsz HG
  go_wp2_with fail
  have hb2 := below_new w1 (.cells #[.slice p m.segs.length c, .string m.log, .int .i64 m.next, .int .i64 m.seq] 61)
  have hn2 := heap_new w1 (.cells #[.slice p m.segs.length c, .string m.log, .int .i64 m.next, .int .i64 m.seq] 61)
  generalize w1.alloc (.cells #[.slice p m.segs.length c, .string m.log, .int .i64 m.next, .int .i64 m.seq] 61) = W2 at *
  refine (HE.out _ W2 ⟨p, c, rfl, HT.out.at.below hb2⟩ (HG1.out.below hb2)).mono ?_
  clear HE
  rintro e w3 ⟨rfl, hb3⟩
  have hc3 : w3.heap[w1.heap.size]? = some (.cells #[.slice p m.segs.length c, .string m.log, .int .i64 m.next, .int .i64 m.seq] 61 (0, 0)) := (hb3.block _ (Array.getElem?_eq_some_iff.1 hn2).1).trans hn2
  have hz3 : w3.heap[w.heap.size]? = some (.cells #[.slice none 0 0, .string ⟨#[]⟩, .int .i64 0, .int .i64 0] 61 (0, 0)) := ((below_then hb2 hb3).block _ (by have := HW1.out; omega)).trans HZ1.out
  have HB3 : Hid (Below w.heap.size w w3) := Lib.hid (HBW.out.trans ((below_then hb2 hb3).mono HBW.out.size))
  have HT3 := Lib.hid (ownT_kept HT.out (below_then hb2 hb3))
  have f0 : w3.frozen? ⟨w.heap.size, 0, none⟩ = false := Lib.frozen_of_heap hz3 0
  have f1 : w3.frozen? ⟨w.heap.size, 1, none⟩ = false := Lib.frozen_of_heap hz3 1
  have f2 : w3.frozen? ⟨w.heap.size, 2, none⟩ = false := Lib.frozen_of_heap hz3 2
  have f3 : w3.frozen? ⟨w.heap.size, 3, none⟩ = false := Lib.frozen_of_heap hz3 3
  have g0 : w3.cell? ⟨w.heap.size, 0, none⟩ = some (.slice none 0 0) := by rw [Lib.cell_of_heap hz3]; rfl
  have g1 : w3.cell? ⟨w.heap.size, 1, none⟩ = some (.string ⟨#[]⟩) := by rw [Lib.cell_of_heap hz3]; rfl
  have g2 : w3.cell? ⟨w.heap.size, 2, none⟩ = some (.int .i64 0) := by rw [Lib.cell_of_heap hz3]; rfl
  have g3 : w3.cell? ⟨w.heap.size, 3, none⟩ = some (.int .i64 0) := by rw [Lib.cell_of_heap hz3]; rfl
  have d0 : w3.cell? ⟨w1.heap.size, 0, none⟩ = some (.slice p m.segs.length c) := by rw [Lib.cell_of_heap hc3]; rfl
  have d1 : w3.cell? ⟨w1.heap.size, 1, none⟩ = some (.string m.log) := by rw [Lib.cell_of_heap hc3]; rfl
  have d2 : w3.cell? ⟨w1.heap.size, 2, none⟩ = some (.int .i64 m.next) := by rw [Lib.cell_of_heap hc3]; rfl
  have d3 : w3.cell? ⟨w1.heap.size, 3, none⟩ = some (.int .i64 m.seq) := by rw [Lib.cell_of_heap hc3]; rfl
  have HZ3 := Lib.hid hz3
  have HST : Hid (∀ a b c d, Below w.heap.size w ((((w3.setCell ⟨w.heap.size, 0, none⟩ a).setCell ⟨w.heap.size, 1, none⟩ b).setCell ⟨w.heap.size, 2, none⟩ c).setCell ⟨w.heap.size, 3, none⟩ d)) := Lib.hid (fun a b c d =>
    (((HB3.out.setCell (p := ⟨w.heap.size, 0, none⟩) (Nat.le_refl _) _).setCell (p := ⟨w.heap.size, 1, none⟩) (Nat.le_refl _) _).setCell (p := ⟨w.heap.size, 2, none⟩) (Nat.le_refl _) _).setCell (p := ⟨w.heap.size, 3, none⟩) (Nat.le_refl _) _)
  have HTT : Hid (∀ a b c' d, OwnT ((((w3.setCell ⟨w.heap.size, 0, none⟩ a).setCell ⟨w.heap.size, 1, none⟩ b).setCell ⟨w.heap.size, 2, none⟩ c').setCell ⟨w.heap.size, 3, none⟩ d) (w.heap.size + 1) (.slice p m.segs.length c) m.segs) := Lib.hid (fun a b c' d => ownT_set (ownT_set (ownT_set (ownT_set HT3.out (by omega)) (by omega)) (by omega)) (by omega))
  clear hb2 hb3 hn2 hc3 hz3
  rcases hd with ⟨hM, hE, q1, q2⟩ | ⟨hM, hE, hq⟩
  · rw [q1, q2]
    have hss : (s.toList == s.toList) = true := beq_self_eq_true _
    go_wp2_with fail
    refine bodyPost_ret (v := .tuple #[.agg #[.slice p m.segs.length c, .string m.log, .int .i64 m.next, .int .i64 m.seq], .int .i64 0]) (by simp [results, Tryz.results34, go_sem, g0, g1, g2, g3]) rfl ⟨_, by rw [hE], ?_, HST.out _ _ _ _⟩
    rw [hM]
    exact ⟨p, c, rfl, ownT_base (HTT.out _ _ _ _) (by omega)⟩
  · rcases hq with ⟨q1, q2⟩ | ⟨q1, q2⟩
    · rw [q1, q2]
      go_wp2_with fail
      refine bodyPost_ret (v := .tuple #[.agg #[.slice none 0 0, .string ⟨#[]⟩, .int .i64 0, .int .i64 0], .int .i64 110]) (by simp [results, Tryz.results34, go_sem, g0, g1, g2, g3]) rfl ⟨_, by rw [hE], ?_, HST.out _ _ _ _⟩
      rw [hM]
      exact mnOwn_zero _ _
    · rw [q1]
      go_wp2_with fail
      refine bodyPost_ret (v := .tuple #[.agg #[.slice none 0 0, .string ⟨#[]⟩, .int .i64 0, .int .i64 0], .int .i64 110]) (by simp [results, Tryz.results34, go_sem, g0, g1, g2, g3]) rfl ⟨_, by rw [hE], ?_, HST.out _ _ _ _⟩
      rw [hM]
      exact mnOwn_zero _ _
end Mf
end Go.Proofs.YtkbdokakoapooaaGreatDoor
