/- The walk of ManifestBytes. Conditions: those that each theorem names. -/
import Derived.Test.YtgpedeagaghpfaaGreatDoorMfX
import Derived.Test.YtgpedeagaghpfaaGreatDoorMfT
namespace Go.Proofs.YtgpedeagaghpfaaGreatDoor
set_option linter.unusedVariables false
open Go Go.RowKit Go.Shelf Go.Sort
namespace Mf
theorem decM_small (s : ByteArray) (hs : s.size ≤ 16777215) : Small (decM s) := by
  rcases dec_cases s with ⟨h, _⟩ | ⟨h, _⟩
  · rw [h]
    have := (rdK_small s hs (piecesB s).length).1
    rwa [rdK_all] at this
  · rw [h]; exact zero_small
theorem kept_cells2 {w : World} {K : Nat} {a b c d : Value} {T : TypeId} (h : w.heap[K]? = some (.cells #[a, b, c, d] T (0, 0))) : (∀ o, (w.alloc o).cell? ⟨K, 0, none⟩ = some a) ∧ (∀ o, (w.alloc o).cell? ⟨K, 1, none⟩ = some b) ∧ (∀ o, (w.alloc o).cell? ⟨K, 2, none⟩ = some c) ∧ (∀ o, (w.alloc o).cell? ⟨K, 3, none⟩ = some d) := by
  have hk : K < w.heap.size := (Array.getElem?_eq_some_iff.1 h).1
  refine ⟨fun o => ?_, fun o => ?_, fun o => ?_, fun o => ?_⟩ <;> rw [Lib.cell_of_heap ((heap_old w o hk).trans h)] <;> rfl
set_option maxHeartbeats 4000000 in
set_option maxRecDepth 100000 in
theorem bytes_walk (m : Mn) (v : Value) (s : ByteArray) (w : World) (hv : MnAt w v m) (hm : Small m) (hs : s.size ≤ 1048576) (G : Gh w) :
    Calls Tryz.prog 3 #[v, .string s] w fun e w' => e = .returned (.bool true) ∧ Below w.heap.size w w' := by
  have HE := Lib.hid (fun W (hW : Below w.heap.size w W) => encode_any m v W (hv.below hW) hm (G.below hW))
  have HRE := Lib.hid (fun W (hW : Below w.heap.size w W) => rencode_any m v W (hv.below hW) hm)
  have HD := Lib.hid (fun W (G : Gh W) => decode_any s W (by omega) G)
  have HRD := Lib.hid (fun W => rdecode_any s W hs)
  have HSM := Lib.hid (fun x y W (hx : MnAt W x (decM s)) (hy : MnAt W y (decM s)) => same_any _ _ x y W hx hy (decM_small s (by omega)) (decM_small s (by omega)))
  rw [sameM_self] at HSM
  have HAW := Lib.hid (fun W (G : Gh W) => awake_yes W G)
  have HG := Lib.hid G
  obtain ⟨p, c, rfl, ht⟩ := hv
  obtain ⟨n, hn⟩ : ∃ n, n = m.segs.length := ⟨_, rfl⟩
  obtain ⟨l, hl⟩ : ∃ l, l = m.log := ⟨_, rfl⟩
  obtain ⟨nx, hnx⟩ : ∃ n, n = m.next := ⟨_, rfl⟩
  obtain ⟨sq, hsq⟩ : ∃ n, n = m.seq := ⟨_, rfl⟩
  rw [← hn, ← hl, ← hnx, ← hsq] at HE HRE ⊢
  clear hn hl hnx hsq G ht hm
  have hb0 := below_new w (.cells #[.slice p n c, .string l, .int .i64 nx, .int .i64 sq] 24)
  obtain ⟨d0, d1, d2, d3⟩ := of_cells4 (heap_new w (.cells #[.slice p n c, .string l, .int .i64 nx, .int .i64 sq] 24))
  have hz0 := heap_new w (.cells #[.slice p n c, .string l, .int .i64 nx, .int .i64 sq] 24)
  have HB0 := Lib.hid hb0
  have HZ0 := Lib.hid hz0
  clear hb0 hz0
  generalize encS m = es at *
  generalize encE m = ee at *
  generalize hdm : decM s = md at *
  have HDM := Lib.hid hdm
  clear hdm
  generalize decE s = de at *
  have hss : (es.toList == es.toList) = true := beq_self_eq_true _
  go_enter Tryz.func3, Tryz.ntmps3
  go_wp2_with fail
  generalize w.alloc (.cells #[.slice p n c, .string l, .int .i64 nx, .int .i64 sq] 24) = W0 at *
  refine (HE.out W0 HB0.out).mono ?_
  clear HE d0 d1 d2 d3
  rintro e w1 ⟨rfl, hb1⟩
  obtain ⟨d0, d1, d2, d3⟩ := of_cells4 ((hb1.block _ (Array.getElem?_eq_some_iff.1 HZ0.out).1).trans HZ0.out)
  have HB1 := Lib.hid (below_then HB0.out hb1)
  clear hb1
  go_wp2_with fail
  refine (HRE.out w1 HB1.out).mono ?_
  clear HRE d0 d1 d2 d3
  rintro e w2 ⟨rfl, hb2⟩
  have HB2 := Lib.hid (below_then HB1.out hb2)
  clear hb2
  go_wp2_with fail
  refine (HD.out w2 (HG.out.below HB2.out)).mono ?_
  clear HD
  rintro e w3 ⟨x, rfl, ⟨p3, c3, rfl, ho3⟩, hb3⟩
  have HB3 := Lib.hid (below_then HB2.out hb3)
  have HO3 := Lib.hid ho3
  clear hb3 ho3
  go_wp2_with fail
  have hb4 := below_new w3 (.cells #[.slice p3 md.segs.length c3, .string md.log, .int .i64 md.next, .int .i64 md.seq] 24)
  have hz4 := heap_new w3 (.cells #[.slice p3 md.segs.length c3, .string md.log, .int .i64 md.next, .int .i64 md.seq] 24)
  generalize w3.alloc (.cells #[.slice p3 md.segs.length c3, .string md.log, .int .i64 md.next, .int .i64 md.seq] 24) = W4 at *
  refine (HRD.out W4).mono ?_
  clear HRD
  rintro e w5 ⟨y, rfl, ⟨p5, c5, rfl, ho5⟩, hb5⟩
  have hz5 := (hb5.block _ (Array.getElem?_eq_some_iff.1 hz4).1).trans hz4
  have HB5 := Lib.hid (below_then HB3.out (below_then hb4 hb5))
  have HO5 := Lib.hid ho5
  have HT5 := Lib.hid (HO3.out.at.below (below_then hb4 hb5))
  obtain ⟨e0, e1, e2, e3⟩ := kept_cells2 hz5
  clear hb4 hz4 hb5 hz5 ho5 HO3
  go_wp2_with fail
  have hb6 := below_new w5 (.cells #[.slice p5 md.segs.length c5, .string md.log, .int .i64 md.next, .int .i64 md.seq] 24)
  generalize w5.alloc (.cells #[.slice p5 md.segs.length c5, .string md.log, .int .i64 md.next, .int .i64 md.seq] 24) = W6 at *
  refine (HSM.out _ _ W6 ⟨p3, c3, rfl, HT5.out.below hb6⟩ ⟨p5, c5, rfl, HO5.out.at.below hb6⟩).mono ?_
  clear HSM e0 e1 e2 e3
  rintro e w7 ⟨rfl, hb7⟩
  have HB7 := Lib.hid (below_then HB5.out (below_then hb6 hb7))
  clear hb6 hb7
  go_wp2_with fail
  refine (HAW.out w7 (HG.out.below HB7.out)).mono ?_
  rintro e w8 ⟨rfl, hb8⟩
  have HB8 := Lib.hid (below_then HB7.out hb8)
  clear hb8
  go_wp2_with fail
  go_ret
  exact ⟨rfl, HB8.out⟩
end Mf
end Go.Proofs.YtgpedeagaghpfaaGreatDoor
