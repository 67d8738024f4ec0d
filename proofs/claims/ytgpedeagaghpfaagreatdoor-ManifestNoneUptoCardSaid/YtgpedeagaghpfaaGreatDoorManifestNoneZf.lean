/- For any manifest and any text, together of a bulk of at most 1048576, the law ManifestNone of the document's chapter 11 returns true over the program's own Load and Store, its disk and the document's own answers: a disk that is none, or has none. Conditions: the listed package-level variables read as the program lays them (tied by the card); the arguments together hold at most 1048576 values and letters. -/
import Derived.Test.YtgpedeagaghpfaaGreatDoorMfX
import Derived.Test.YtgpedeagaghpfaaGreatDoorMfT
import Derived.Test.YtgpedeagaghpfaaGreatDoorDkAt
import Derived.Test.YtgpedeagaghpfaaGreatDoorDkSure
import Derived.Test.YtgpedeagaghpfaaGreatDoorCards
import Derived.Test.YtgpedeagaghpfaaGreatDoorTie
import Derived.WalkKit
import Derived.ProofKit
import Derived.OpenShut
import Derived.ShutString
import Derived.ChangeOld
import Derived.Below
import Derived.SizedLaws
import Derived.JoinedCond
import Derived.Deep.DeepHandedRow
import Derived.Lay
import Derived.SevenTiedAt
import Derived.Test.YtgpedeagaghpfaaGreatDoorMfArgs
namespace Go.Proofs.YtgpedeagaghpfaaGreatDoor
set_option linter.unusedVariables false
open Go Go.RowKit Go.Shelf Go.Sort
namespace Mf
theorem decM_small (s : ByteArray) (hs : s.size ≤ 16777215) : Small (decM s) := by
  rcases dec_cases s with ⟨h, _⟩ | ⟨h, _⟩
  · rw [h]
    have := (rdK_small s hs (piecesB s).length).1
    rwa [rdK_all] at this
  · rw [h]; exact zero_small
theorem kept_cells2 {w : World} {K : Nat} {a b c d : Value} {T : TypeId} (h : w.heap[K]? = some (.cells #[a, b, c, d] T (0, 0))) : (∀ o, (w.alloc o).cell? ⟨K, 0, none⟩ = some a) ∧ (∀ o, (w.alloc o).cell? ⟨K, 1, none⟩ = some b) ∧ (∀ o, (w.alloc o).cell? ⟨K, 2, none⟩ = some c) ∧ (∀ o, (w.alloc o).cell? ⟨K, 3, none⟩ = some d) := by
  have hk : K < w.heap.size := (Array.getElem?_eq_some_iff.1 h).1
  refine ⟨fun o => ?_, fun o => ?_, fun o => ?_, fun o => ?_⟩ <;> rw [Lib.cell_of_heap ((heap_old w o hk).trans h)] <;> rfl
set_option maxHeartbeats 4000000 in
set_option maxRecDepth 100000 in
theorem bytes_walk (m : Mn) (v : Value) (s : ByteArray) (w : World) (hv : MnAt w v m) (hm : Small m) (hs : s.size ≤ 1048576) (G : Gh w) :
    Calls Tryz.prog 3 #[v, .string s] w fun e w' => e = .returned (.bool true) ∧ Below w.heap.size w w' := by
  have HE := Lib.hid (fun W (hW : Below w.heap.size w W) => encode_any m v W (hv.below hW) hm (G.below hW))
  have HRE := Lib.hid (fun W (hW : Below w.heap.size w W) => rencode_any m v W (hv.below hW) hm)
  have HD := Lib.hid (fun W (G : Gh W) => decode_any s W (by omega) G)
  have HRD := Lib.hid (fun W => rdecode_any s W hs)
  have HSM := Lib.hid (fun x y W (hx : MnAt W x (decM s)) (hy : MnAt W y (decM s)) => same_any _ _ x y W hx hy (decM_small s (by omega)) (decM_small s (by omega)))
  rw [sameM_self] at HSM
  have HAW := Lib.hid (fun W (G : Gh W) => awake_yes W G)
  have HG := Lib.hid G
  obtain ⟨p, c, rfl, ht⟩ := hv
  obtain ⟨n, hn⟩ : ∃ n, n = m.segs.length := ⟨_, rfl⟩
  obtain ⟨l, hl⟩ : ∃ l, l = m.log := ⟨_, rfl⟩
  obtain ⟨nx, hnx⟩ : ∃ n, n = m.next := ⟨_, rfl⟩
  obtain ⟨sq, hsq⟩ : ∃ n, n = m.seq := ⟨_, rfl⟩
  rw [← hn, ← hl, ← hnx, ← hsq] at HE HRE ⊢
  clear hn hl hnx hsq G ht hm
  have hb0 := below_new w (.cells #[.slice p n c, .string l, .int .i64 nx, .int .i64 sq] 24)
  obtain ⟨d0, d1, d2, d3⟩ := of_cells4 (heap_new w (.cells #[.slice p n c, .string l, .int .i64 nx, .int .i64 sq] 24))
  have hz0 := heap_new w (.cells #[.slice p n c, .string l, .int .i64 nx, .int .i64 sq] 24)
  have HB0 := Lib.hid hb0
  have HZ0 := Lib.hid hz0
  clear hb0 hz0
  generalize encS m = es at *
  generalize encE m = ee at *
  generalize hdm : decM s = md at *
  have HDM := Lib.hid hdm
  clear hdm
  generalize decE s = de at *
  have hss : (es.toList == es.toList) = true := beq_self_eq_true _
  go_enter Tryz.func3, Tryz.ntmps3
  go_wp2_with fail
  generalize w.alloc (.cells #[.slice p n c, .string l, .int .i64 nx, .int .i64 sq] 24) = W0 at *
  refine (HE.out W0 HB0.out).mono ?_
  clear HE d0 d1 d2 d3
  rintro e w1 ⟨rfl, hb1⟩
  obtain ⟨d0, d1, d2, d3⟩ := of_cells4 ((hb1.block _ (Array.getElem?_eq_some_iff.1 HZ0.out).1).trans HZ0.out)
  have HB1 := Lib.hid (below_then HB0.out hb1)
  clear hb1
  go_wp2_with fail
  refine (HRE.out w1 HB1.out).mono ?_
  clear HRE d0 d1 d2 d3
  rintro e w2 ⟨rfl, hb2⟩
  have HB2 := Lib.hid (below_then HB1.out hb2)
  clear hb2
  go_wp2_with fail
  refine (HD.out w2 (HG.out.below HB2.out)).mono ?_
  clear HD
  rintro e w3 ⟨x, rfl, ⟨p3, c3, rfl, ho3⟩, hb3⟩
  have HB3 := Lib.hid (below_then HB2.out hb3)
  have HO3 := Lib.hid ho3
  clear hb3 ho3
  go_wp2_with fail
  have hb4 := below_new w3 (.cells #[.slice p3 md.segs.length c3, .string md.log, .int .i64 md.next, .int .i64 md.seq] 24)
  have hz4 := heap_new w3 (.cells #[.slice p3 md.segs.length c3, .string md.log, .int .i64 md.next, .int .i64 md.seq] 24)
  generalize w3.alloc (.cells #[.slice p3 md.segs.length c3, .string md.log, .int .i64 md.next, .int .i64 md.seq] 24) = W4 at *
  refine (HRD.out W4).mono ?_
  clear HRD
  rintro e w5 ⟨y, rfl, ⟨p5, c5, rfl, ho5⟩, hb5⟩
  have hz5 := (hb5.block _ (Array.getElem?_eq_some_iff.1 hz4).1).trans hz4
  have HB5 := Lib.hid (below_then HB3.out (below_then hb4 hb5))
  have HO5 := Lib.hid ho5
  have HT5 := Lib.hid (HO3.out.at.below (below_then hb4 hb5))
  obtain ⟨e0, e1, e2, e3⟩ := kept_cells2 hz5
  clear hb4 hz4 hb5 hz5 ho5 HO3
  go_wp2_with fail
  have hb6 := below_new w5 (.cells #[.slice p5 md.segs.length c5, .string md.log, .int .i64 md.next, .int .i64 md.seq] 24)
  generalize w5.alloc (.cells #[.slice p5 md.segs.length c5, .string md.log, .int .i64 md.next, .int .i64 md.seq] 24) = W6 at *
  refine (HSM.out _ _ W6 ⟨p3, c3, rfl, HT5.out.below hb6⟩ ⟨p5, c5, rfl, HO5.out.at.below hb6⟩).mono ?_
  clear HSM e0 e1 e2 e3
  rintro e w7 ⟨rfl, hb7⟩
  have HB7 := Lib.hid (below_then HB5.out (below_then hb6 hb7))
  clear hb6 hb7
  go_wp2_with fail
  refine (HAW.out w7 (HG.out.below HB7.out)).mono ?_
  rintro e w8 ⟨rfl, hb8⟩
  have HB8 := Lib.hid (below_then HB7.out hb8)
  clear hb8
  go_wp2_with fail
  go_ret
  exact ⟨rfl, HB8.out⟩
end Mf
end Go.Proofs.YtgpedeagaghpfaaGreatDoor
namespace Go.Proofs.YtgpedeagaghpfaaGreatDoor
set_option linter.unusedVariables false
open Go Go.RowKit Go.Shelf Go.Sort Dk
namespace Mf
def nMan : ByteArray := ⟨#[109, 97, 110, 105, 102, 101, 115, 116]⟩
def nTmp : ByteArray := ⟨#[116, 109, 112]⟩
theorem nMan_full : nMan.toList.isEmpty = false := full _ rfl
theorem nTmp_full : nTmp.toList.isEmpty = false := full _ rfl
theorem nMan_size : nMan.size ≤ maxLen := by decide
theorem nTmp_size : nTmp.size ≤ maxLen := by decide
def zeroV : Value := .agg #[.slice none 0 0, .string ⟨#[]⟩, .int .i64 0, .int .i64 0]
theorem zeroV_own (w : World) (base : Nat) : MnOwn w base zeroV Mn.zero := ⟨none, 0, rfl, ownT_nil _ _⟩
set_option maxHeartbeats 1000000 in
set_option maxRecDepth 100000 in
theorem load_bad (p : Value) (w : World) (e0 : Int) (b0 : Int) (h0 : e0 = 20 ∧ b0 = 0 ∨ e0 = 1 ∧ b0 = 1) (hr : ∀ W, Below w.heap.size w W → Calls Tryz.prog 49 #[p, .string ⟨#[109, 97, 110, 105, 102, 101, 115, 116]⟩] W fun e w' => e = .returned (.tuple #[.string ⟨#[]⟩, .int .i64 e0]) ∧ W = w') :
    Calls Tryz.prog 23 #[p] w fun e w' => e = .returned (.tuple #[zeroV, .bool false, .int .i64 b0]) ∧ Below w.heap.size w w' := by
  have hb0 := below_new w (.cells #[.slice none 0 0, .string ⟨#[]⟩, .int .i64 0, .int .i64 0] 24)
  have hz0 := heap_new w (.cells #[.slice none 0 0, .string ⟨#[]⟩, .int .i64 0, .int .i64 0] 24)
  have HR := Lib.hid (hr _ hb0)
  have HB := Lib.hid hb0
  have HST : Hid (∀ a b c d, Below w.heap.size w (((((w.alloc (.cells #[.slice none 0 0, .string ⟨#[]⟩, .int .i64 0, .int .i64 0] 24)).setCell ⟨w.heap.size, 0, none⟩ a).setCell ⟨w.heap.size, 1, none⟩ b).setCell ⟨w.heap.size, 2, none⟩ c).setCell ⟨w.heap.size, 3, none⟩ d)) := Lib.hid (fun a b c d =>
    (((hb0.setCell (p := ⟨w.heap.size, 0, none⟩) (Nat.le_refl _) _).setCell (p := ⟨w.heap.size, 1, none⟩) (Nat.le_refl _) _).setCell (p := ⟨w.heap.size, 2, none⟩) (Nat.le_refl _) _).setCell (p := ⟨w.heap.size, 3, none⟩) (Nat.le_refl _) _)
  obtain ⟨g0, g1, g2, g3⟩ := of_cells4 hz0
  have f0 := Lib.frozen_of_heap hz0 0
  have f1 := Lib.frozen_of_heap hz0 1
  have f2 := Lib.frozen_of_heap hz0 2
  have f3 := Lib.frozen_of_heap hz0 3
  clear hr hb0 hz0
  unfold zeroV
  rcases h0 with ⟨rfl, rfl⟩ | ⟨rfl, rfl⟩
  all_goals
    go_enter Tryz.func23, Tryz.ntmps23
    go_wp2_with fail
    generalize w.alloc (.cells #[.slice none 0 0, .string ⟨#[]⟩, .int .i64 0, .int .i64 0] 24) = W0 at *
    refine HR.out.mono ?_
    rintro e w1 ⟨rfl, rfl⟩
    go_wp2_with fail
  · exact bodyPost_ret (v := .tuple #[.agg #[.slice none 0 0, .string ⟨#[]⟩, .int .i64 0, .int .i64 0], .bool false, .int .i64 0]) (by simp [results, Tryz.results23, go_sem, g0, g1, g2, g3]) rfl ⟨rfl, HST.out _ _ _ _⟩
  · exact bodyPost_ret (v := .tuple #[.agg #[.slice none 0 0, .string ⟨#[]⟩, .int .i64 0, .int .i64 0], .bool false, .int .i64 1]) (by simp [results, Tryz.results23, go_sem, g0, g1, g2, g3]) rfl ⟨rfl, HST.out _ _ _ _⟩
theorem load_none {w0 w : World} {A : Nat} {D : DSt} (h : At w0 A D w) (hg : nmGet D.names nMan = none) :
    Calls Tryz.prog 23 #[.pointer (some ⟨A, 0, none⟩)] w fun e w' => e = .returned (.tuple #[zeroV, .bool false, .int .i64 0]) ∧ Below w.heap.size w w' :=
  load_bad _ w 20 0 (.inl ⟨rfl, rfl⟩) fun W hW => (h.others hW).read_none nMan nMan_size nMan_full hg
theorem load_nil (w : World) :
    Calls Tryz.prog 23 #[.pointer none] w fun e w' => e = .returned (.tuple #[zeroV, .bool false, .int .i64 1]) ∧ Below w.heap.size w w' :=
  load_bad _ w 1 1 (.inr ⟨rfl, rfl⟩) fun W hW => (read_nil nMan W).mono fun e w' h => h
theorem decE_two (s : ByteArray) : decE s = 0 ∨ decE s = 110 := by
  unfold decE
  split
  · exact .inl rfl
  · exact .inr rfl
set_option maxHeartbeats 2000000 in
set_option maxRecDepth 100000 in
theorem load_some {w0 w : World} {A : Nat} {D : DSt} (h : At w0 A D w) (G : Gh w) (i : Nat) (f : FileC) (hg : nmGet D.names nMan = some i) (hf : D.files[i]? = some f) (hs : f.data.length ≤ 16777215) :
    Calls Tryz.prog 23 #[.pointer (some ⟨A, 0, none⟩)] w fun e w' => ∃ v, e = .returned (.tuple #[v, .bool (decide (decE (tx f.data) = 0)), .int .i64 (decE (tx f.data))]) ∧ MnOwn w' w.heap.size v (decM (tx f.data)) ∧ Below w.heap.size w w' := by
  have hb0 := below_new w (.cells #[.slice none 0 0, .string ⟨#[]⟩, .int .i64 0, .int .i64 0] 24)
  have hz0 := heap_new w (.cells #[.slice none 0 0, .string ⟨#[]⟩, .int .i64 0, .int .i64 0] 24)
  have HR := Lib.hid ((h.others hb0).read_some nMan nMan_size nMan_full i f hg hf)
  have HD := Lib.hid (decode_any (tx f.data) _ (by rw [tx_size]; exact hs) (G.below hb0))
  have HB := Lib.hid hb0
  have HZ0 := Lib.hid hz0
  have HS0 : Hid ((w.alloc (.cells #[.slice none 0 0, .string ⟨#[]⟩, .int .i64 0, .int .i64 0] 24)).heap.size = w.heap.size + 1) := Lib.hid (by simp)
  unfold nMan at HR
  rw [show (⟨f.data.toArray⟩ : ByteArray) = tx f.data from rfl] at HR
  have htw := decE_two (tx f.data)
  generalize decE (tx f.data) = de at *
  generalize decM (tx f.data) = dm at *
  generalize tx f.data = t at *
  clear hb0 hz0 hs h G hg hf
  go_enter Tryz.func23, Tryz.ntmps23
  go_wp2_with fail
  generalize w.alloc (.cells #[.slice none 0 0, .string ⟨#[]⟩, .int .i64 0, .int .i64 0] 24) = W0 at *
  refine HR.out.mono ?_
  rintro e w1 ⟨rfl, rfl⟩
  go_wp2_with fail
  refine HD.out.mono ?_
  clear HD HR
  rintro e w2 ⟨v, rfl, ⟨p, c, rfl, ho⟩, hb2⟩
  rw [HS0.out] at ho
  have hz2 := (hb2.block _ (Array.getElem?_eq_some_iff.1 HZ0.out).1).trans HZ0.out
  have HB2 := Lib.hid (below_then HB.out hb2)
  have HO := Lib.hid ho
  have hz3 : ∀ o, (w2.alloc o).heap[w.heap.size]? = some (.cells #[.slice none 0 0, .string ⟨#[]⟩, .int .i64 0, .int .i64 0] 24 (0, 0)) := fun o => (heap_old w2 o (Array.getElem?_eq_some_iff.1 hz2).1).trans hz2
  have g0 : ∀ o, (w2.alloc o).cell? ⟨w.heap.size, 0, none⟩ = some (.slice none 0 0) := fun o => (of_cells4 (hz3 o)).1
  have g1 : ∀ o, (w2.alloc o).cell? ⟨w.heap.size, 1, none⟩ = some (.string ⟨#[]⟩) := fun o => (of_cells4 (hz3 o)).2.1
  have g2 : ∀ o, (w2.alloc o).cell? ⟨w.heap.size, 2, none⟩ = some (.int .i64 0) := fun o => (of_cells4 (hz3 o)).2.2.1
  have g3 : ∀ o, (w2.alloc o).cell? ⟨w.heap.size, 3, none⟩ = some (.int .i64 0) := fun o => (of_cells4 (hz3 o)).2.2.2
  have f0 : ∀ o, (w2.alloc o).frozen? ⟨w.heap.size, 0, none⟩ = false := fun o => Lib.frozen_of_heap (hz3 o) 0
  have f1 : ∀ o, (w2.alloc o).frozen? ⟨w.heap.size, 1, none⟩ = false := fun o => Lib.frozen_of_heap (hz3 o) 1
  have f2 : ∀ o, (w2.alloc o).frozen? ⟨w.heap.size, 2, none⟩ = false := fun o => Lib.frozen_of_heap (hz3 o) 2
  have f3 : ∀ o, (w2.alloc o).frozen? ⟨w.heap.size, 3, none⟩ = false := fun o => Lib.frozen_of_heap (hz3 o) 3
  have HST : Hid (∀ o a b c d, Below w.heap.size w (((((w2.alloc o).setCell ⟨w.heap.size, 0, none⟩ a).setCell ⟨w.heap.size, 1, none⟩ b).setCell ⟨w.heap.size, 2, none⟩ c).setCell ⟨w.heap.size, 3, none⟩ d)) := Lib.hid (fun o a b c d =>
    ((((below_then HB2.out (below_new w2 o)).setCell (p := ⟨w.heap.size, 0, none⟩) (Nat.le_refl _) _).setCell (p := ⟨w.heap.size, 1, none⟩) (Nat.le_refl _) _).setCell (p := ⟨w.heap.size, 2, none⟩) (Nat.le_refl _) _).setCell (p := ⟨w.heap.size, 3, none⟩) (Nat.le_refl _) _)
  have HTT : Hid (∀ o a b c' d, OwnT (((((w2.alloc o).setCell ⟨w.heap.size, 0, none⟩ a).setCell ⟨w.heap.size, 1, none⟩ b).setCell ⟨w.heap.size, 2, none⟩ c').setCell ⟨w.heap.size, 3, none⟩ d) (w.heap.size + 1) (.slice p dm.segs.length c) dm.segs) := Lib.hid (fun o a b c' d =>
    ownT_set (ownT_set (ownT_set (ownT_set (ownT_kept HO.out (below_new w2 o)) (by omega)) (by omega)) (by omega)) (by omega))
  clear hb2 ho hz2
  rcases htw with rfl | rfl
  all_goals
    go_wp2_with fail
  · exact bodyPost_ret (v := .tuple #[.agg #[.slice p dm.segs.length c, .string dm.log, .int .i64 dm.next, .int .i64 dm.seq], .bool true, .int .i64 0]) (by simp [results, Tryz.results23, go_sem, g0, g1, g2, g3]) rfl ⟨_, rfl, ⟨p, c, rfl, ownT_base (HTT.out _ _ _ _ _) (by omega)⟩, HST.out _ _ _ _ _⟩
  · exact bodyPost_ret (v := .tuple #[.agg #[.slice p dm.segs.length c, .string dm.log, .int .i64 dm.next, .int .i64 dm.seq], .bool false, .int .i64 110]) (by simp [results, Tryz.results23, go_sem, g0, g1, g2, g3]) rfl ⟨_, rfl, ⟨p, c, rfl, ownT_base (HTT.out _ _ _ _ _) (by omega)⟩, HST.out _ _ _ _ _⟩
set_option maxHeartbeats 1000000 in
set_option maxRecDepth 100000 in
theorem store_nil (m : Mn) (v : Value) (w : World) (hv : MnAt w v m) :
    Calls Tryz.prog 16 #[.pointer none, v] w fun e w' => e = .returned (.int .i64 1) ∧ Below w.heap.size w w' := by
  obtain ⟨p, c, rfl, _⟩ := hv
  have HB := Lib.hid (below_new w (.cells #[.slice p m.segs.length c, .string m.log, .int .i64 m.next, .int .i64 m.seq] 24))
  go_enter Tryz.func16, Tryz.ntmps16
  go_wp2_with fail
  go_ret
  exact ⟨rfl, HB.out⟩
end Mf
end Go.Proofs.YtgpedeagaghpfaaGreatDoor
namespace Go.Proofs.YtgpedeagaghpfaaGreatDoor
set_option linter.unusedVariables false
open Go Go.RowKit Go.Shelf Go.Sort Dk
namespace Mf
theorem new_get : nmGet Dk.new.names nMan = none := rfl
theorem new_more (l : List UInt8) : nmGet ({ more Dk.new.tick nMan with files := (more Dk.new.tick nMan).files.set Dk.new.files.length (FileC.mk l 0) } : DSt).names nMan = some 0 ∧ ({ more Dk.new.tick nMan with files := (more Dk.new.tick nMan).files.set Dk.new.files.length (FileC.mk l 0) } : DSt).files[0]? = some ⟨l, 0⟩ := ⟨by kernel_rfl, by kernel_rfl⟩
set_option maxHeartbeats 4000000 in
set_option maxRecDepth 100000 in
theorem none_walk (m : Mn) (v : Value) (s : ByteArray) (w : World) (hv : MnAt w v m) (hs : s.size ≤ 1048576) (G : Gh w) :
    Calls Tryz.prog 6 #[v, .string s] w fun e w' => e = .returned (.bool true) ∧ Below w.heap.size w w' := by
  have HSN := Lib.hid (fun W (hW : Below w.heap.size w W) => store_nil m v W (hv.below hW))
  have HRD := Lib.hid (fun W => rdecode_any s W hs)
  have HSM := Lib.hid (fun x y W (hx : MnAt W x (decM s)) (hy : MnAt W y (decM s)) => same_any _ _ x y W hx hy (decM_small s (by omega)) (decM_small s (by omega)))
  rw [sameM_self] at HSM
  have HSZ := Lib.hid (fun x y W (hx : MnAt W x Mn.zero) (hy : MnAt W y Mn.zero) => same_any _ _ x y W hx hy zero_small zero_small)
  rw [sameM_self] at HSZ
  have HAW := Lib.hid (fun W (G : Gh W) => awake_yes W G)
  have HG := Lib.hid G
  have HTX : Hid (tx s.data.toList = s) := Lib.hid (tx_of s)
  have HSL : Hid (s.data.toList.length ≤ 16777215) := Lib.hid (by rw [ln]; omega)
  have hsm : s.size ≤ maxLen := by unfold maxLen; omega
  obtain ⟨p, c, rfl, ht⟩ := hv
  obtain ⟨n, hn⟩ : ∃ n, n = m.segs.length := ⟨_, rfl⟩
  obtain ⟨l, hl⟩ : ∃ l, l = m.log := ⟨_, rfl⟩
  obtain ⟨nx, hnx⟩ : ∃ n, n = m.next := ⟨_, rfl⟩
  obtain ⟨sq, hsq⟩ : ∃ n, n = m.seq := ⟨_, rfl⟩
  rw [← hn, ← hl, ← hnx, ← hsq] at HSN ⊢
  clear hn hl hnx hsq G ht
  have hb0 := below_new w (.cells #[.slice p n c, .string l, .int .i64 nx, .int .i64 sq] 24)
  have hz0 := heap_new w (.cells #[.slice p n c, .string l, .int .i64 nx, .int .i64 sq] 24)
  have HB0 := Lib.hid hb0
  have HZ0 := Lib.hid hz0
  clear hb0 hz0
  go_enter Tryz.func6, Tryz.ntmps6
  go_wp2_with fail
  generalize w.alloc (.cells #[.slice p n c, .string l, .int .i64 nx, .int .i64 sq] 24) = W0 at *
  refine (at_new W0).mono ?_
  rintro e w1 ⟨rfl, hA1⟩
  have HA1 := Lib.hid hA1
  clear hA1
  go_wp2_with fail
  refine (load_none HA1.out new_get).mono ?_
  unfold zeroV
  rintro e w2 ⟨rfl, hb2⟩
  have HA2 := Lib.hid (HA1.out.others hb2)
  clear hb2 HA1
  go_wp2_with fail
  have HA3 := Lib.hid (HA2.out.alloc (.cells #[.slice none 0 0, .string ⟨#[]⟩, .int .i64 0, .int .i64 0] 24))
  generalize w2.alloc (.cells #[.slice none 0 0, .string ⟨#[]⟩, .int .i64 0, .int .i64 0] 24) = W3 at *
  refine (HSZ.out _ _ W3 ((zeroV_own W3 0).at) ((zeroV_own W3 0).at)).mono ?_
  rintro e w4 ⟨rfl, hb4⟩
  have HA4 := Lib.hid (HA3.out.others hb4)
  clear hb4 HA3 HA2 HSZ
  go_wp2_with fail
  refine (load_nil w4).mono ?_
  unfold zeroV
  rintro e w5 ⟨rfl, hb5⟩
  have HA5 := Lib.hid (HA4.out.others hb5)
  clear hb5 HA4
  have hz5 : w5.heap[w.heap.size]? = some (.cells #[.slice p n c, .string l, .int .i64 nx, .int .i64 sq] 24 (0, 0)) := (HA5.out.below.block _ (Array.getElem?_eq_some_iff.1 HZ0.out).1).trans HZ0.out
  obtain ⟨e0, e1, e2, e3⟩ := kept_cells2 hz5
  clear hz5
  go_wp2_with fail
  have HA6 := Lib.hid (HA5.out.alloc (.cells #[.slice none 0 0, .string ⟨#[]⟩, .int .i64 0, .int .i64 0] 24))
  generalize w5.alloc (.cells #[.slice none 0 0, .string ⟨#[]⟩, .int .i64 0, .int .i64 0] 24) = W6 at *
  refine (HSN.out W6 (HB0.out.trans (HA6.out.below.mono HB0.out.size))).mono ?_
  rintro e w7 ⟨rfl, hb7⟩
  have HA7 := Lib.hid (HA6.out.others hb7)
  clear hb7 HA6 HA5 HSN e0 e1 e2 e3
  go_wp2_with fail
  refine (HA7.out.write_new (by decide) (by decide) (by decide) (by decide) nMan s nMan_size hsm nMan_full rfl new_get (by omega)).mono ?_
  rintro e w8 ⟨rfl, hA8⟩
  have HA8 := Lib.hid hA8
  clear hA8 HA7
  go_wp2_with fail
  refine (load_some HA8.out (HG.out.below (HB0.out.trans (HA8.out.below.mono HB0.out.size))) 0 ⟨s.data.toList, 0⟩ (new_more s.data.toList).1 (new_more s.data.toList).2 HSL.out).mono ?_
  rw [show tx (FileC.mk s.data.toList 0).data = s from HTX.out]
  rintro e w9 ⟨x, rfl, ⟨p9, c9, rfl, ho9⟩, hb9⟩
  have HA9 := Lib.hid (HA8.out.others hb9)
  have HO9 := Lib.hid ho9
  clear hb9 ho9 HA8
  have htw := decE_two s
  generalize hdm : decM s = md at *
  clear hdm
  generalize decE s = de at *
  go_wp2_with fail
  have hb10 := below_new w9 (.cells #[.slice p9 md.segs.length c9, .string md.log, .int .i64 md.next, .int .i64 md.seq] 24)
  have hz10 := heap_new w9 (.cells #[.slice p9 md.segs.length c9, .string md.log, .int .i64 md.next, .int .i64 md.seq] 24)
  generalize w9.alloc (.cells #[.slice p9 md.segs.length c9, .string md.log, .int .i64 md.next, .int .i64 md.seq] 24) = W10 at *
  refine (HRD.out W10).mono ?_
  clear HRD
  rintro e w11 ⟨y, rfl, ⟨p11, c11, rfl, ho11⟩, hb11⟩
  have hz11 := (hb11.block _ (Array.getElem?_eq_some_iff.1 hz10).1).trans hz10
  obtain ⟨e0, e1, e2, e3⟩ := kept_cells2 hz11
  have HA11 := Lib.hid (HA9.out.others (below_then hb10 hb11))
  have HT11 := Lib.hid (HO9.out.at.below (below_then hb10 hb11))
  have HO11 := Lib.hid ho11
  clear hb10 hz10 hb11 hz11 ho11 HO9 HA9
  go_wp2_with fail
  have hb12 := below_new w11 (.cells #[.slice p11 md.segs.length c11, .string md.log, .int .i64 md.next, .int .i64 md.seq] 24)
  generalize w11.alloc (.cells #[.slice p11 md.segs.length c11, .string md.log, .int .i64 md.next, .int .i64 md.seq] 24) = W12 at *
  refine (HSM.out _ _ W12 ⟨p9, c9, rfl, HT11.out.below hb12⟩ ⟨p11, c11, rfl, HO11.out.at.below hb12⟩).mono ?_
  clear HSM e0 e1 e2 e3
  rintro e w13 ⟨rfl, hb13⟩
  have HA13 := Lib.hid (HA11.out.others (below_then hb12 hb13))
  clear hb12 hb13 HA11 HT11 HO11
  have HB13 : Hid (Below w.heap.size w w13) := Lib.hid (HB0.out.trans (HA13.out.below.mono HB0.out.size))
  rcases htw with rfl | rfl
  all_goals
    go_wp2_with fail
    refine (HAW.out w13 (HG.out.below HB13.out)).mono ?_
    rintro e w14 ⟨rfl, hb14⟩
    have HF := Lib.hid (below_then HB13.out hb14)
    clear hb14
    go_wp2_with fail
    go_ret
    exact ⟨rfl, HF.out⟩
end Mf
end Go.Proofs.YtgpedeagaghpfaaGreatDoor
namespace Go.Proofs.YtgpedeagaghpfaaGreatDoor.manifestNone
open Go.ChangeShapes Go.WideShapes Go.ChangeAt Go.RowKit Go.Proofs.YtgpedeagaghpfaaGreatDoor
open Go.ChangeMaps (open_string shut_string)
open Mf
set_option linter.unusedVariables false

theorem own : ownKnob Tryz.prog.godebug = none := by kernel_rfl
theorem laidOut : laidOutB Tryz.prog = true := by kernel_rfl

/-! ### The walk -/
set_option maxHeartbeats 2000000 in
set_option maxRecDepth 100000 in
theorem walk (v0 : Value) (x0 : Mn) (a1 : ByteArray) (w : World) (i0 : MnAt w v0 x0) (s0 : Small x0) (w1 : a1.size ≤ 1048576) (G : Gh w) :
    Calls Tryz.prog 6 #[v0, .string a1] w fun e w' => e = .returned (.bool true) ∧ Below w.heap.size w w' := by
  exact none_walk x0 v0 a1 w i0 w1 G

theorem toLen (s : ByteArray) : s.data.toList.length = s.size := by rw [Array.length_toList]; rfl

/-! ### The row -/
set_option maxRecDepth 100000 in
theorem contract (H : Type) (enc : TypeId × Value → H) (W : World) (base : Nat) (args : Array Value) (ds gs : List (DataW H)) (before : List MemPlace)
    (hval0 : ∀ (j : Nat) t v, Tryz.f6.params[j]? = some t → args[j]? = some v → Value.okWide Tryz.prog W .any base t v)
    (hW : DataW.Whole enc Tryz.prog Tryz.f6.params.toList Rows.manifestNoneSpec.vars false W args.toList ds gs before) (hsz : Rows.uptoSmall H (ds ++ gs) = true) (hsz0 : (DataW.weightsEach Tryz.prog (Tryz.f6.params.toList ++ Rows.manifestNoneSpec.plain.varTypes Tryz.prog) (ds ++ gs)).all (· ≤ reachBytes) = true)
    (hL0 : laidMetH Tryz.prog Rows.manifestNoneUptoRow.laid W) (hsh : W.ShapedOpen Tryz.prog) :
    Calls Tryz.prog 6 args W fun e W' => ∃ v, e = .returned v ∧ Rows.manifestNoneSpec.post enc Tryz.prog Tryz.f6 false true false false W args v W' := by
  have hL := hL0
  rw [MakeChecks.laidMetH_plain _ _ _ (by kernel_rfl)] at hL
  have G : Gh W := gh_of hsh hL
  clear hL hL0
  have hval : ∀ (j : Nat) t v, Tryz.f6.params[j]? = some t → args[j]? = some v → Value.okWide Tryz.prog W .any base t v := hval0
  have hW' := hW
  obtain ⟨p, q, hA0, hV, rfl, hfz, hnd⟩ := hW
  have hA : DataW.TrodAll enc Tryz.prog W 0 (fun _ => true) true Tryz.f6.params.toList args.toList ds p := hA0
  rw [Tryz.params6] at hA hval
  obtain ⟨v0, vs0, d0, ds0, p0, q0, hargs, rfl, rfl, h0, r0⟩ := trodAll_cons hA
  obtain ⟨v1, vs1, d1, ds1, p1, q1, rfl, rfl, rfl, h1, r1⟩ := trodAll_cons r0
  obtain ⟨rfl, rfl, rfl⟩ := trodAll_nil r1
  obtain rfl : args = #[v0, v1] := by cases args; simp_all
  obtain ⟨rfl, rfl⟩ := trodVars_none hV
  have k0 := h0
  have lt0 : ∀ x ∈ p0, x.block < W.heap.size := by obtain ⟨m, hm⟩ := k0; exact DataW.trod_lt m _ _ _ hm
  obtain ⟨x0, i0, sm0⟩ := open_mn (hval 0 24 v0 rfl rfl) h0
  obtain ⟨a1, rfl, rfl, rfl, w1⟩ := open_string Tryz.underlying9 (hval 1 9 v1 rfl rfl) h1
  have s0 : Small x0 := sm0 (by
    have h := of_decide_eq_true hsz
    simp only [List.append_nil, Rows.uptoBulkAll, Rows.uptoBulk, toLen] at h
    omega)
  have s1 : a1.size ≤ 1048576 := by
    have h := of_decide_eq_true hsz
    simp only [List.append_nil, Rows.uptoBulkAll, Rows.uptoBulk, toLen] at h
    omega
  clear hA0 hval0 hsz0
  refine (walk v0 x0 a1 W i0 s0 s1 G).mono fun e W' ⟨he, bel⟩ => ?_
  subst he
  exact ⟨_, rfl, _, _, _, [], _, [], hW', trodAll_mk1 (shut_bool Tryz.underlying4 _), (trodAll_cons_mk (Below.trod laidOut (by kernel_rfl) (of_decide_eq_true (by kernel_rfl)) k0 bel lt0) (trodAll_cons_mk (shut_string Tryz.underlying9 w1) trodAll_mk0)), rfl, bel.frame _, fun h => by cases h⟩

/-! ### A world that fits -/
noncomputable def laidWorld (os : Os) : World := World.laidAll Tryz.prog os Rows.manifestNoneUptoRow.laid
theorem laid_met (os : Os) : laidMetH Tryz.prog Rows.manifestNoneUptoRow.laid ((laidWorld os).forCall (fun _ _ => 0) ⟨#[], #[.agg #[.slice none 0 0, .string ByteArray.empty, .int .i64 0, .int .i64 0], .string ByteArray.empty], []⟩).memory := by
  rw [MakeChecks.laidMetH_plain _ _ _ (by kernel_rfl)]
  exact laidMet_laidAll _ (by kernel_rfl) (by kernel_rfl)
theorem reads (os : Os) {H : Type} (enc : TypeId × Value → H) : ∃ places, DataW.whole enc Tryz.prog ((laidWorld os).forCall (fun _ _ => 0) ⟨#[], #[.agg #[.slice none 0 0, .string ByteArray.empty, .int .i64 0, .int .i64 0], .string ByteArray.empty], []⟩).memory Tryz.f6.params.toList Rows.manifestNoneSpec.vars false #[.agg #[.slice none 0 0, .string ByteArray.empty, .int .i64 0, .int .i64 0], .string ByteArray.empty].toList 8 = some ([.agg [.nil, .lit (.string []), .lit (.int .i64 0), .lit (.int .i64 0)], .lit (.string [])], [], places) :=
  ⟨[], by kernel_rfl⟩
theorem shaped (os : Os) : ((laidWorld os).forCall (fun _ _ => 0) ⟨#[], #[.agg #[.slice none 0 0, .string ByteArray.empty, .int .i64 0, .int .i64 0], .string ByteArray.empty], []⟩).Shaped Tryz.prog := World.shaped_of_ZipB (by kernel_rfl) (by kernel_rfl)
set_option maxRecDepth 100000 in
theorem lifted (os : Os) (started : os.Started) (H : Type) (enc : TypeId × Value → H) (F : Stop.Interp) :
    ReturnsInHanded {} Tryz.checked os 6 .any ((Rows.OpenSpec.upto Rows.manifestNoneSpec).preRow enc Tryz.prog Tryz.f6 Rows.manifestNoneUptoRow.domain false Rows.manifestNoneUptoRow.laid) (((Rows.OpenSpec.upto Rows.manifestNoneSpec).at F).post enc Tryz.prog Tryz.f6 false true false false) := by
  obtain ⟨places, hx⟩ := reads os enc
  refine returnsInHanded_of_row (C := Tryz.checked) (s := (Rows.OpenSpec.upto Rows.manifestNoneSpec)) own started (by kernel_rfl) Tryz.func6
    ⟨laidWorld os, fun _ _ => 0, ⟨#[], #[.agg #[.slice none 0 0, .string ByteArray.empty, .int .i64 0, .int .i64 0], .string ByteArray.empty], []⟩, World.laidAll_os _ _ _, shaped os, rfl, (Input.okWide_of_okWideB (by kernel_rfl)).2,
      OpenSpec.preRow_of_cond 8 hx (by kernel_rfl) (fun k hk => by cases hk; kernel_rfl) (by kernel_rfl) (laid_met os), by simp [Assume.holds]⟩ ?_
  intro W base args ds gs before hval hW _ hk hz hL hsh _
  exact contract H enc W base args ds gs before hval hW (hk _ rfl) hz hL hsh
theorem said : Rows.ManifestNoneUptoSaid :=
  OpenClaim.holds_of_cond 6 Tryz.f6 rfl rfl rfl rfl rfl rfl rfl ⟨rfl, rfl, rfl, rfl, rfl⟩ rfl rfl rfl rfl rfl (by kernel_rfl) Tryz.func6 (by kernel_rfl)
    (of_decide_eq_true (by kernel_rfl)) (by unfold Func.isWrapper; first | (rw [if_pos (by decide +kernel)]; kernel_rfl) | (rw [if_neg (by decide +kernel)]; exact ⟨rfl, rfl⟩))
    (fun os started H enc _ F => by rw [OpenClaim.pre_eq_preRow]; exact lifted os started H enc F)
theorem plain (f : FuncId) (fn : Func) (hf : Tryz.pinned.checked.prog.funcNamed "lodestar/lodestarlaw11.ManifestNone" = some f) (hfn : Tryz.pinned.checked.prog.funcs[f]? = some fn) :
    true = Tryz.pinned.checked.prog.looks [] ∧ ∀ (j : Nat) t, fn.params[j]? = some t → Tryz.pinned.checked.prog.wantsStandIn t = false := by
  obtain rfl : f = 6 := Option.some.inj ((show Tryz.prog.funcNamed "lodestar/lodestarlaw11.ManifestNone" = some 6 by kernel_rfl).symm.trans hf) |>.symm
  obtain rfl : fn = Tryz.f6 := (Option.some.inj (Tryz.func6.symm.trans hfn)).symm
  refine ⟨by kernel_rfl, fun j t ht => ?_⟩
  rw [Tryz.params6] at ht
  have hm : t ∈ [24, 9] := by simpa using Array.mem_of_getElem? ht
  have hall : ([24, 9].all fun u => !Tryz.prog.wantsStandIn u) = true := by kernel_rfl
  exact (show Tryz.prog.wantsStandIn t = false by simpa using List.all_eq_true.1 hall t hm)

/-- The statement. -/
theorem proved : Rows.ManifestNoneUptoCardSaid :=
  Claim7.holds_tied_plain_at .later [] _ _ _ _ said (fun _ h => by cases h) (by kernel_rfl) (fun _ h => by cases h) manifestNoneUpto_row_tie rfl ⟨rfl, rfl⟩ (by kernel_rfl) rfl plain (by kernel_rfl)
#print axioms proved
end Go.Proofs.YtgpedeagaghpfaaGreatDoor.manifestNone
