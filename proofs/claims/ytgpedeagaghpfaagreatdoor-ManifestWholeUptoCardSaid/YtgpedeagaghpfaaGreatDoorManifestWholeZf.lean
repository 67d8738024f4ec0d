/- For any two manifests and any two integers, together of a bulk of at most 1048576, the law ManifestWhole of the document's chapter 11 returns true over the program's own Store and Load, its disk with its faults and its crash, and the document's own answers: behind a crash at any moment a manifest is loaded whole, the one that was put ahead or the new one; the new one, if its Store had answered OK. Conditions: the listed package-level variables read as the program lays them (tied by the card); the arguments together hold at most 1048576 values and letters. -/
import Derived.Test.YtgpedeagaghpfaaGreatDoorMfX
import Derived.Test.YtgpedeagaghpfaaGreatDoorMfT
import Derived.Test.YtgpedeagaghpfaaGreatDoorDkAt
import Derived.Test.YtgpedeagaghpfaaGreatDoorDkSure
import Derived.Defers
import Derived.StillTailTactics
import Derived.BigQuiet
import Derived.Deep.QuietTactic
import Derived.Deep.RegionHeld3
import Derived.Test.YtgpedeagaghpfaaGreatDoorMfArgs
import Derived.Test.YtgpedeagaghpfaaGreatDoorCards
import Derived.Test.YtgpedeagaghpfaaGreatDoorTie
import Derived.WalkKit
import Derived.ProofKit
import Derived.OpenShut
import Derived.ShutString
import Derived.ChangeOld
import Derived.Below
import Derived.SizedLaws
import Derived.JoinedCond
import Derived.Deep.DeepHandedRow
import Derived.Lay
import Derived.SevenTiedAt
namespace Go.Proofs.YtgpedeagaghpfaaGreatDoor
set_option linter.unusedVariables false
open Go Go.RowKit Go.Shelf Go.Sort
namespace Mf
theorem decM_small (s : ByteArray) (hs : s.size ≤ 16777215) : Small (decM s) := by
  rcases dec_cases s with ⟨h, _⟩ | ⟨h, _⟩
  · rw [h]
    have := (rdK_small s hs (piecesB s).length).1
    rwa [rdK_all] at this
  · rw [h]; exact zero_small
theorem kept_cells2 {w : World} {K : Nat} {a b c d : Value} {T : TypeId} (h : w.heap[K]? = some (.cells #[a, b, c, d] T (0, 0))) : (∀ o, (w.alloc o).cell? ⟨K, 0, none⟩ = some a) ∧ (∀ o, (w.alloc o).cell? ⟨K, 1, none⟩ = some b) ∧ (∀ o, (w.alloc o).cell? ⟨K, 2, none⟩ = some c) ∧ (∀ o, (w.alloc o).cell? ⟨K, 3, none⟩ = some d) := by
  have hk : K < w.heap.size := (Array.getElem?_eq_some_iff.1 h).1
  refine ⟨fun o => ?_, fun o => ?_, fun o => ?_, fun o => ?_⟩ <;> rw [Lib.cell_of_heap ((heap_old w o hk).trans h)] <;> rfl
set_option maxHeartbeats 4000000 in
set_option maxRecDepth 100000 in
theorem bytes_walk (m : Mn) (v : Value) (s : ByteArray) (w : World) (hv : MnAt w v m) (hm : Small m) (hs : s.size ≤ 1048576) (G : Gh w) :
    Calls Tryz.prog 3 #[v, .string s] w fun e w' => e = .returned (.bool true) ∧ Below w.heap.size w w' := by
  have HE := Lib.hid (fun W (hW : Below w.heap.size w W) => encode_any m v W (hv.below hW) hm (G.below hW))
  have HRE := Lib.hid (fun W (hW : Below w.heap.size w W) => rencode_any m v W (hv.below hW) hm)
  have HD := Lib.hid (fun W (G : Gh W) => decode_any s W (by omega) G)
  have HRD := Lib.hid (fun W => rdecode_any s W hs)
  have HSM := Lib.hid (fun x y W (hx : MnAt W x (decM s)) (hy : MnAt W y (decM s)) => same_any _ _ x y W hx hy (decM_small s (by omega)) (decM_small s (by omega)))
  rw [sameM_self] at HSM
  have HAW := Lib.hid (fun W (G : Gh W) => awake_yes W G)
  have HG := Lib.hid G
  obtain ⟨p, c, rfl, ht⟩ := hv
  obtain ⟨n, hn⟩ : ∃ n, n = m.segs.length := ⟨_, rfl⟩
  obtain ⟨l, hl⟩ : ∃ l, l = m.log := ⟨_, rfl⟩
  obtain ⟨nx, hnx⟩ : ∃ n, n = m.next := ⟨_, rfl⟩
  obtain ⟨sq, hsq⟩ : ∃ n, n = m.seq := ⟨_, rfl⟩
  rw [← hn, ← hl, ← hnx, ← hsq] at HE HRE ⊢
  clear hn hl hnx hsq G ht hm
  have hb0 := below_new w (.cells #[.slice p n c, .string l, .int .i64 nx, .int .i64 sq] 24)
  obtain ⟨d0, d1, d2, d3⟩ := of_cells4 (heap_new w (.cells #[.slice p n c, .string l, .int .i64 nx, .int .i64 sq] 24))
  have hz0 := heap_new w (.cells #[.slice p n c, .string l, .int .i64 nx, .int .i64 sq] 24)
  have HB0 := Lib.hid hb0
  have HZ0 := Lib.hid hz0
  clear hb0 hz0
  generalize encS m = es at *
  generalize encE m = ee at *
  generalize hdm : decM s = md at *
  have HDM := Lib.hid hdm
  clear hdm
  generalize decE s = de at *
  have hss : (es.toList == es.toList) = true := beq_self_eq_true _
  go_enter Tryz.func3, Tryz.ntmps3
  go_wp2_with fail
  generalize w.alloc (.cells #[.slice p n c, .string l, .int .i64 nx, .int .i64 sq] 24) = W0 at *
  refine (HE.out W0 HB0.out).mono ?_
  clear HE d0 d1 d2 d3
  rintro e w1 ⟨rfl, hb1⟩
  obtain ⟨d0, d1, d2, d3⟩ := of_cells4 ((hb1.block _ (Array.getElem?_eq_some_iff.1 HZ0.out).1).trans HZ0.out)
  have HB1 := Lib.hid (below_then HB0.out hb1)
  clear hb1
  go_wp2_with fail
  refine (HRE.out w1 HB1.out).mono ?_
  clear HRE d0 d1 d2 d3
  rintro e w2 ⟨rfl, hb2⟩
  have HB2 := Lib.hid (below_then HB1.out hb2)
  clear hb2
  go_wp2_with fail
  refine (HD.out w2 (HG.out.below HB2.out)).mono ?_
  clear HD
  rintro e w3 ⟨x, rfl, ⟨p3, c3, rfl, ho3⟩, hb3⟩
  have HB3 := Lib.hid (below_then HB2.out hb3)
  have HO3 := Lib.hid ho3
  clear hb3 ho3
  go_wp2_with fail
  have hb4 := below_new w3 (.cells #[.slice p3 md.segs.length c3, .string md.log, .int .i64 md.next, .int .i64 md.seq] 24)
  have hz4 := heap_new w3 (.cells #[.slice p3 md.segs.length c3, .string md.log, .int .i64 md.next, .int .i64 md.seq] 24)
  generalize w3.alloc (.cells #[.slice p3 md.segs.length c3, .string md.log, .int .i64 md.next, .int .i64 md.seq] 24) = W4 at *
  refine (HRD.out W4).mono ?_
  clear HRD
  rintro e w5 ⟨y, rfl, ⟨p5, c5, rfl, ho5⟩, hb5⟩
  have hz5 := (hb5.block _ (Array.getElem?_eq_some_iff.1 hz4).1).trans hz4
  have HB5 := Lib.hid (below_then HB3.out (below_then hb4 hb5))
  have HO5 := Lib.hid ho5
  have HT5 := Lib.hid (HO3.out.at.below (below_then hb4 hb5))
  obtain ⟨e0, e1, e2, e3⟩ := kept_cells2 hz5
  clear hb4 hz4 hb5 hz5 ho5 HO3
  go_wp2_with fail
  have hb6 := below_new w5 (.cells #[.slice p5 md.segs.length c5, .string md.log, .int .i64 md.next, .int .i64 md.seq] 24)
  generalize w5.alloc (.cells #[.slice p5 md.segs.length c5, .string md.log, .int .i64 md.next, .int .i64 md.seq] 24) = W6 at *
  refine (HSM.out _ _ W6 ⟨p3, c3, rfl, HT5.out.below hb6⟩ ⟨p5, c5, rfl, HO5.out.at.below hb6⟩).mono ?_
  clear HSM e0 e1 e2 e3
  rintro e w7 ⟨rfl, hb7⟩
  have HB7 := Lib.hid (below_then HB5.out (below_then hb6 hb7))
  clear hb6 hb7
  go_wp2_with fail
  refine (HAW.out w7 (HG.out.below HB7.out)).mono ?_
  rintro e w8 ⟨rfl, hb8⟩
  have HB8 := Lib.hid (below_then HB7.out hb8)
  clear hb8
  go_wp2_with fail
  go_ret
  exact ⟨rfl, HB8.out⟩
end Mf
end Go.Proofs.YtgpedeagaghpfaaGreatDoor
namespace Go.Proofs.YtgpedeagaghpfaaGreatDoor
set_option linter.unusedVariables false
open Go Go.RowKit Go.Shelf Go.Sort Dk
namespace Mf
def nMan : ByteArray := ⟨#[109, 97, 110, 105, 102, 101, 115, 116]⟩
def nTmp : ByteArray := ⟨#[116, 109, 112]⟩
theorem nMan_full : nMan.toList.isEmpty = false := full _ rfl
theorem nTmp_full : nTmp.toList.isEmpty = false := full _ rfl
theorem nMan_size : nMan.size ≤ maxLen := by decide
theorem nTmp_size : nTmp.size ≤ maxLen := by decide
def zeroV : Value := .agg #[.slice none 0 0, .string ⟨#[]⟩, .int .i64 0, .int .i64 0]
theorem zeroV_own (w : World) (base : Nat) : MnOwn w base zeroV Mn.zero := ⟨none, 0, rfl, ownT_nil _ _⟩
set_option maxHeartbeats 1000000 in
set_option maxRecDepth 100000 in
theorem load_bad (p : Value) (w : World) (e0 : Int) (b0 : Int) (h0 : e0 = 20 ∧ b0 = 0 ∨ e0 = 1 ∧ b0 = 1) (hr : ∀ W, Below w.heap.size w W → Calls Tryz.prog 49 #[p, .string ⟨#[109, 97, 110, 105, 102, 101, 115, 116]⟩] W fun e w' => e = .returned (.tuple #[.string ⟨#[]⟩, .int .i64 e0]) ∧ W = w') :
    Calls Tryz.prog 23 #[p] w fun e w' => e = .returned (.tuple #[zeroV, .bool false, .int .i64 b0]) ∧ Below w.heap.size w w' := by
  have hb0 := below_new w (.cells #[.slice none 0 0, .string ⟨#[]⟩, .int .i64 0, .int .i64 0] 24)
  have hz0 := heap_new w (.cells #[.slice none 0 0, .string ⟨#[]⟩, .int .i64 0, .int .i64 0] 24)
  have HR := Lib.hid (hr _ hb0)
  have HB := Lib.hid hb0
  have HST : Hid (∀ a b c d, Below w.heap.size w (((((w.alloc (.cells #[.slice none 0 0, .string ⟨#[]⟩, .int .i64 0, .int .i64 0] 24)).setCell ⟨w.heap.size, 0, none⟩ a).setCell ⟨w.heap.size, 1, none⟩ b).setCell ⟨w.heap.size, 2, none⟩ c).setCell ⟨w.heap.size, 3, none⟩ d)) := Lib.hid (fun a b c d =>
    (((hb0.setCell (p := ⟨w.heap.size, 0, none⟩) (Nat.le_refl _) _).setCell (p := ⟨w.heap.size, 1, none⟩) (Nat.le_refl _) _).setCell (p := ⟨w.heap.size, 2, none⟩) (Nat.le_refl _) _).setCell (p := ⟨w.heap.size, 3, none⟩) (Nat.le_refl _) _)
  obtain ⟨g0, g1, g2, g3⟩ := of_cells4 hz0
  have f0 := Lib.frozen_of_heap hz0 0
  have f1 := Lib.frozen_of_heap hz0 1
  have f2 := Lib.frozen_of_heap hz0 2
  have f3 := Lib.frozen_of_heap hz0 3
  clear hr hb0 hz0
  unfold zeroV
  rcases h0 with ⟨rfl, rfl⟩ | ⟨rfl, rfl⟩
  all_goals
    go_enter Tryz.func23, Tryz.ntmps23
    go_wp2_with fail
    generalize w.alloc (.cells #[.slice none 0 0, .string ⟨#[]⟩, .int .i64 0, .int .i64 0] 24) = W0 at *
    refine HR.out.mono ?_
    rintro e w1 ⟨rfl, rfl⟩
    go_wp2_with fail
  · exact bodyPost_ret (v := .tuple #[.agg #[.slice none 0 0, .string ⟨#[]⟩, .int .i64 0, .int .i64 0], .bool false, .int .i64 0]) (by simp [results, Tryz.results23, go_sem, g0, g1, g2, g3]) rfl ⟨rfl, HST.out _ _ _ _⟩
  · exact bodyPost_ret (v := .tuple #[.agg #[.slice none 0 0, .string ⟨#[]⟩, .int .i64 0, .int .i64 0], .bool false, .int .i64 1]) (by simp [results, Tryz.results23, go_sem, g0, g1, g2, g3]) rfl ⟨rfl, HST.out _ _ _ _⟩
theorem load_none {w0 w : World} {A : Nat} {D : DSt} (h : At w0 A D w) (hg : nmGet D.names nMan = none) :
    Calls Tryz.prog 23 #[.pointer (some ⟨A, 0, none⟩)] w fun e w' => e = .returned (.tuple #[zeroV, .bool false, .int .i64 0]) ∧ Below w.heap.size w w' :=
  load_bad _ w 20 0 (.inl ⟨rfl, rfl⟩) fun W hW => (h.others hW).read_none nMan nMan_size nMan_full hg
theorem load_nil (w : World) :
    Calls Tryz.prog 23 #[.pointer none] w fun e w' => e = .returned (.tuple #[zeroV, .bool false, .int .i64 1]) ∧ Below w.heap.size w w' :=
  load_bad _ w 1 1 (.inr ⟨rfl, rfl⟩) fun W hW => (read_nil nMan W).mono fun e w' h => h
theorem decE_two (s : ByteArray) : decE s = 0 ∨ decE s = 110 := by
  unfold decE
  split
  · exact .inl rfl
  · exact .inr rfl
set_option maxHeartbeats 2000000 in
set_option maxRecDepth 100000 in
theorem load_some {w0 w : World} {A : Nat} {D : DSt} (h : At w0 A D w) (G : Gh w) (i : Nat) (f : FileC) (hg : nmGet D.names nMan = some i) (hf : D.files[i]? = some f) (hs : f.data.length ≤ 16777215) :
    Calls Tryz.prog 23 #[.pointer (some ⟨A, 0, none⟩)] w fun e w' => ∃ v, e = .returned (.tuple #[v, .bool (decide (decE (tx f.data) = 0)), .int .i64 (decE (tx f.data))]) ∧ MnOwn w' w.heap.size v (decM (tx f.data)) ∧ Below w.heap.size w w' := by
  have hb0 := below_new w (.cells #[.slice none 0 0, .string ⟨#[]⟩, .int .i64 0, .int .i64 0] 24)
  have hz0 := heap_new w (.cells #[.slice none 0 0, .string ⟨#[]⟩, .int .i64 0, .int .i64 0] 24)
  have HR := Lib.hid ((h.others hb0).read_some nMan nMan_size nMan_full i f hg hf)
  have HD := Lib.hid (decode_any (tx f.data) _ (by rw [tx_size]; exact hs) (G.below hb0))
  have HB := Lib.hid hb0
  have HZ0 := Lib.hid hz0
  have HS0 : Hid ((w.alloc (.cells #[.slice none 0 0, .string ⟨#[]⟩, .int .i64 0, .int .i64 0] 24)).heap.size = w.heap.size + 1) := Lib.hid (by simp)
  unfold nMan at HR
  rw [show (⟨f.data.toArray⟩ : ByteArray) = tx f.data from rfl] at HR
  have htw := decE_two (tx f.data)
  generalize decE (tx f.data) = de at *
  generalize decM (tx f.data) = dm at *
  generalize tx f.data = t at *
  clear hb0 hz0 hs h G hg hf
  go_enter Tryz.func23, Tryz.ntmps23
  go_wp2_with fail
  generalize w.alloc (.cells #[.slice none 0 0, .string ⟨#[]⟩, .int .i64 0, .int .i64 0] 24) = W0 at *
  refine HR.out.mono ?_
  rintro e w1 ⟨rfl, rfl⟩
  go_wp2_with fail
  refine HD.out.mono ?_
  clear HD HR
  rintro e w2 ⟨v, rfl, ⟨p, c, rfl, ho⟩, hb2⟩
  rw [HS0.out] at ho
  have hz2 := (hb2.block _ (Array.getElem?_eq_some_iff.1 HZ0.out).1).trans HZ0.out
  have HB2 := Lib.hid (below_then HB.out hb2)
  have HO := Lib.hid ho
  have hz3 : ∀ o, (w2.alloc o).heap[w.heap.size]? = some (.cells #[.slice none 0 0, .string ⟨#[]⟩, .int .i64 0, .int .i64 0] 24 (0, 0)) := fun o => (heap_old w2 o (Array.getElem?_eq_some_iff.1 hz2).1).trans hz2
  have g0 : ∀ o, (w2.alloc o).cell? ⟨w.heap.size, 0, none⟩ = some (.slice none 0 0) := fun o => (of_cells4 (hz3 o)).1
  have g1 : ∀ o, (w2.alloc o).cell? ⟨w.heap.size, 1, none⟩ = some (.string ⟨#[]⟩) := fun o => (of_cells4 (hz3 o)).2.1
  have g2 : ∀ o, (w2.alloc o).cell? ⟨w.heap.size, 2, none⟩ = some (.int .i64 0) := fun o => (of_cells4 (hz3 o)).2.2.1
  have g3 : ∀ o, (w2.alloc o).cell? ⟨w.heap.size, 3, none⟩ = some (.int .i64 0) := fun o => (of_cells4 (hz3 o)).2.2.2
  have f0 : ∀ o, (w2.alloc o).frozen? ⟨w.heap.size, 0, none⟩ = false := fun o => Lib.frozen_of_heap (hz3 o) 0
  have f1 : ∀ o, (w2.alloc o).frozen? ⟨w.heap.size, 1, none⟩ = false := fun o => Lib.frozen_of_heap (hz3 o) 1
  have f2 : ∀ o, (w2.alloc o).frozen? ⟨w.heap.size, 2, none⟩ = false := fun o => Lib.frozen_of_heap (hz3 o) 2
  have f3 : ∀ o, (w2.alloc o).frozen? ⟨w.heap.size, 3, none⟩ = false := fun o => Lib.frozen_of_heap (hz3 o) 3
  have HST : Hid (∀ o a b c d, Below w.heap.size w (((((w2.alloc o).setCell ⟨w.heap.size, 0, none⟩ a).setCell ⟨w.heap.size, 1, none⟩ b).setCell ⟨w.heap.size, 2, none⟩ c).setCell ⟨w.heap.size, 3, none⟩ d)) := Lib.hid (fun o a b c d =>
    ((((below_then HB2.out (below_new w2 o)).setCell (p := ⟨w.heap.size, 0, none⟩) (Nat.le_refl _) _).setCell (p := ⟨w.heap.size, 1, none⟩) (Nat.le_refl _) _).setCell (p := ⟨w.heap.size, 2, none⟩) (Nat.le_refl _) _).setCell (p := ⟨w.heap.size, 3, none⟩) (Nat.le_refl _) _)
  have HTT : Hid (∀ o a b c' d, OwnT (((((w2.alloc o).setCell ⟨w.heap.size, 0, none⟩ a).setCell ⟨w.heap.size, 1, none⟩ b).setCell ⟨w.heap.size, 2, none⟩ c').setCell ⟨w.heap.size, 3, none⟩ d) (w.heap.size + 1) (.slice p dm.segs.length c) dm.segs) := Lib.hid (fun o a b c' d =>
    ownT_set (ownT_set (ownT_set (ownT_set (ownT_kept HO.out (below_new w2 o)) (by omega)) (by omega)) (by omega)) (by omega))
  clear hb2 ho hz2
  rcases htw with rfl | rfl
  all_goals
    go_wp2_with fail
  · exact bodyPost_ret (v := .tuple #[.agg #[.slice p dm.segs.length c, .string dm.log, .int .i64 dm.next, .int .i64 dm.seq], .bool true, .int .i64 0]) (by simp [results, Tryz.results23, go_sem, g0, g1, g2, g3]) rfl ⟨_, rfl, ⟨p, c, rfl, ownT_base (HTT.out _ _ _ _ _) (by omega)⟩, HST.out _ _ _ _ _⟩
  · exact bodyPost_ret (v := .tuple #[.agg #[.slice p dm.segs.length c, .string dm.log, .int .i64 dm.next, .int .i64 dm.seq], .bool false, .int .i64 110]) (by simp [results, Tryz.results23, go_sem, g0, g1, g2, g3]) rfl ⟨_, rfl, ⟨p, c, rfl, ownT_base (HTT.out _ _ _ _ _) (by omega)⟩, HST.out _ _ _ _ _⟩
set_option maxHeartbeats 1000000 in
set_option maxRecDepth 100000 in
theorem store_nil (m : Mn) (v : Value) (w : World) (hv : MnAt w v m) :
    Calls Tryz.prog 16 #[.pointer none, v] w fun e w' => e = .returned (.int .i64 1) ∧ Below w.heap.size w w' := by
  obtain ⟨p, c, rfl, _⟩ := hv
  have HB := Lib.hid (below_new w (.cells #[.slice p m.segs.length c, .string m.log, .int .i64 m.next, .int .i64 m.seq] 24))
  go_enter Tryz.func16, Tryz.ntmps16
  go_wp2_with fail
  go_ret
  exact ⟨rfl, HB.out⟩
end Mf
end Go.Proofs.YtgpedeagaghpfaaGreatDoor
namespace Go.Proofs.YtgpedeagaghpfaaGreatDoor
set_option linter.unusedVariables false
open Go Go.RowKit Dk
section
variable {w0 w : World} {A : Nat} {D : DSt}
theorem At.syncNames_hit (h : At w0 A D w) (h0 : 0 ≤ D.steps) (h1 : D.steps ≤ 4611686018427387904) (fa fk fn : Int) (hm : D.hit = some (fa, fk, fn)) :
    Calls Tryz.prog 39 #[.pointer (some ⟨A, 0, none⟩)] w fun e w' => e = .returned (.int .i64 (hitErr (fa, fk, fn))) ∧ At w0 A D.tick w' :=
  let ⟨ρ, fb, hd, hl, hb⟩ := h; (Go.Proofs.YtgpedeagaghpfaaGreatDoor.syncNames_hit A D ρ fb w hd h0 h1 fa fk fn hm).mono fun _ _ ⟨he, hk⟩ => ⟨he, at_kept hd hl hb hk.kept⟩
theorem At.sync_hit (h : At w0 A D w) (h0 : 0 ≤ D.steps) (h1 : D.steps ≤ 4611686018427387904) (s : ByteArray) (hl : s.size ≤ maxLen) (hs : s.toList.isEmpty = false) (i : Nat) (f : FileC) (hg : nmGet D.names s = some i) (hf : D.files[i]? = some f) (fa fk fn : Int) (hm : D.hit = some (fa, fk, fn)) :
    Calls Tryz.prog 72 #[.pointer (some ⟨A, 0, none⟩), .string s] w fun e w' => e = .returned (.int .i64 (hitErr (fa, fk, fn))) ∧ At w0 A D.tick w' :=
  let ⟨ρ, fb, hd, hlo, hb⟩ := h; (Go.Proofs.YtgpedeagaghpfaaGreatDoor.sync_hit A D ρ fb w hd h0 h1 s hl hs i f hg hf fa fk fn hm).mono fun _ _ ⟨he, hk⟩ => ⟨he, at_kept hd hlo hb hk.kept⟩
theorem At.rename_hit (h : At w0 A D w) (h0 : 0 ≤ D.steps) (h1 : D.steps ≤ 4611686018427387904) (s t : ByteArray) (hl : s.size ≤ maxLen) (hs : s.toList.isEmpty = false) (ht : t.toList.isEmpty = false) (i : Nat) (hg : nmGet D.names s = some i) (fa fk fn : Int) (hm : D.hit = some (fa, fk, fn)) :
    Calls Tryz.prog 73 #[.pointer (some ⟨A, 0, none⟩), .string s, .string t] w fun e w' => e = .returned (.int .i64 (hitErr (fa, fk, fn))) ∧ At w0 A D.tick w' :=
  let ⟨ρ, fb, hd, hlo, hb⟩ := h; (Go.Proofs.YtgpedeagaghpfaaGreatDoor.rename_hit A D ρ fb w hd h0 h1 s t hl hs ht i hg fa fk fn hm).mono fun _ _ ⟨he, hk⟩ => ⟨he, at_kept hd hlo hb hk.kept⟩
end
set_option maxHeartbeats 400000 in
theorem removeD_none (A : Nat) (D : DSt) (ρ : Nat → Nat × Nat) (fb : List Nat) (w : World) (h : DiskAt w A D ρ fb) (s : ByteArray) (hl : s.size ≤ maxLen) (hs : s.toList.isEmpty = false) (hg : nmGet D.names s = none) (u : FrameMode) :
    CallsD Tryz.prog 37 #[.pointer (some ⟨A, 0, none⟩), .string s] u w fun e u' w' => u' = u ∧ (e = .returned (.int .i64 20) ∧ w = w') := by
  have HC := Lib.hid (stepAt_none A D ρ fb w h s hl hs hg)
  clear h hl hs hg
  go_enter_d Tryz.func37, Tryz.ntmps37
  go_wp2_with (go_at_call 71; refine (HC.out).mono ?_; rintro e w' ⟨rfl, rfl⟩)
  go_ret
  exact ⟨rfl, rfl⟩
set_option maxHeartbeats 1000000 in
theorem removeD_miss (A : Nat) (D : DSt) (ρ : Nat → Nat × Nat) (fb : List Nat) (w : World) (h : DiskAt w A D ρ fb) (h0 : 0 ≤ D.steps) (h1 : D.steps ≤ 4611686018427387904) (hnm : D.names.length ≤ 1099511627776) (hop : D.opn.length ≤ 1099511627776)
    (s : ByteArray) (hl : s.size ≤ maxLen) (hs : s.toList.isEmpty = false) (i : Nat) (hg : nmGet D.names s = some i) (hm : D.hit = none) (u : FrameMode) :
    CallsD Tryz.prog 37 #[.pointer (some ⟨A, 0, none⟩), .string s] u w fun e u' w' => u' = u ∧ (e = .returned (.int .i64 0) ∧ Led w A (D.tick.relink [(s, none)]) ρ fb w') := by
  have hi : i < fb.length := by rw [h.files.1]; exact (h.ok.named _ ((nmGet_some h.ok.sorted).1 hg)).2
  have HT := Lib.hid (stepAt_miss A D ρ fb w h h0 h1 s hl hs i _ hg (List.getElem?_eq_getElem hi) hm)
  clear h h0 h1 hg hm
  go_enter_d Tryz.func37, Tryz.ntmps37
  go_wp2_with fail
  refine (HT.out).mono ?_
  rintro e w1 ⟨rfl, hD, hf⟩
  have hR := fun o => relink_any A D.tick ρ fb (w1.alloc o) (hD.alloc o) [(s, none)] (by
    intro x hx
    simp only [List.mem_cons, List.not_mem_nil, or_false] at hx
    subst hx
    exact ⟨hl, fun i h => by cases h⟩) (by simp) hnm hop w1.heap.size
  have hc : ([(s, none)] : List (Nm × Option Nat)).flatMap (linkCells fb) = [.string s, .pointer none] := by simp [linkCells, ptrV]
  rw [hc] at hR
  have hR' := hR (.cells #[.string s, .pointer none] 114) (heap_alloc_new _ _) (hD.out _ (Nat.le_refl _))
  have HR := Lib.hid hR'
  have HF := Lib.hid (hf.alloc hD.out (.cells #[.string s, .pointer none] 114))
  clear hR hR' hc hD hf
  go_wp2_with fail
  refine (HR.out).mono ?_
  rintro e w2 ⟨rfl, ρ2, hD2, hf2⟩
  have HD2 := Lib.hid hD2
  have HF2 := Lib.hid hf2
  clear hD2 hf2
  go_wp2
  go_ret
  exact ⟨rfl, ρ2, HD2.out, HF.out.trans HF2.out⟩
section
variable {w0 w : World} {A : Nat} {D : DSt}
theorem At.removeD_none (h : At w0 A D w) (s : ByteArray) (hl : s.size ≤ maxLen) (hs : s.toList.isEmpty = false) (hg : nmGet D.names s = none) (u : FrameMode) :
    CallsD Tryz.prog 37 #[.pointer (some ⟨A, 0, none⟩), .string s] u w fun e u' w' => u' = u ∧ (e = .returned (.int .i64 20) ∧ At w0 A D w') :=
  let ⟨ρ, fb, h1, _, _⟩ := h; (Go.Proofs.YtgpedeagaghpfaaGreatDoor.removeD_none A D ρ fb w h1 s hl hs hg u).mono fun _ _ _ ⟨hu, he, hw⟩ => ⟨hu, he, hw ▸ h⟩
theorem At.removeD_miss (h : At w0 A D w) (h0 : 0 ≤ D.steps) (h1 : D.steps ≤ 4611686018427387904) (hnm : D.names.length ≤ 1099511627776) (hop : D.opn.length ≤ 1099511627776)
    (s : ByteArray) (hl : s.size ≤ maxLen) (hs : s.toList.isEmpty = false) (i : Nat) (hg : nmGet D.names s = some i) (hm : D.hit = none) (u : FrameMode) :
    CallsD Tryz.prog 37 #[.pointer (some ⟨A, 0, none⟩), .string s] u w fun e u' w' => u' = u ∧ (e = .returned (.int .i64 0) ∧ At w0 A (D.tick.relink [(s, none)]) w') :=
  let ⟨ρ, fb, hd, hlo, hb⟩ := h; (Go.Proofs.YtgpedeagaghpfaaGreatDoor.removeD_miss A D ρ fb w hd h0 h1 hnm hop s hl hs i hg hm u).mono fun _ _ _ ⟨hu, he, hk⟩ => ⟨hu, he, at_kept hd hlo hb hk.kept⟩
end
/-- What a call does, whatever frame it is called from. -/
def RemoveD (A : Nat) (s : ByteArray) (w : World) (Q : World → Prop) : Prop :=
  ∀ u, CallsD Tryz.prog 37 #[.pointer (some ⟨A, 0, none⟩), .string s] u w fun e u' w' => u' = u ∧ ((∃ x : Int, e = .returned (.int .i64 x)) ∧ Q w')
end Go.Proofs.YtgpedeagaghpfaaGreatDoor
namespace Go.Proofs.YtgpedeagaghpfaaGreatDoor
set_option linter.unusedVariables false
open Go Go.RowKit Go.Shelf Go.Sort Dk
namespace Mf
abbrev pD (A : Nat) : Value := .pointer (some ⟨A, 0, none⟩)
def WriteC (A : Nat) (s : ByteArray) (w : World) (x : Int) (Q : World → Prop) : Prop :=
  Calls Tryz.prog 24 #[pD A, .string ⟨#[116, 109, 112]⟩, .string s] w fun e w' => (∃ n : Int, e = .returned (.tuple #[.int .i64 n, .int .i64 x])) ∧ Q w'
def SyncC (A : Nat) (w : World) (x : Int) (Q : World → Prop) : Prop :=
  Calls Tryz.prog 72 #[pD A, .string ⟨#[116, 109, 112]⟩] w fun e w' => e = .returned (.int .i64 x) ∧ Q w'
def RenameC (A : Nat) (w : World) (x : Int) (Q : World → Prop) : Prop :=
  Calls Tryz.prog 73 #[pD A, .string ⟨#[116, 109, 112]⟩, .string ⟨#[109, 97, 110, 105, 102, 101, 115, 116]⟩] w fun e w' => e = .returned (.int .i64 x) ∧ Q w'
def PutC (A : Nat) (s : ByteArray) (w : World) (x : Int) (Q : World → Prop) : Prop :=
  Calls Tryz.prog 38 #[pD A, .string s] w fun e w' => e = .returned (.int .i64 x) ∧ Q w'
set_option maxHeartbeats 1000000 in
set_option maxRecDepth 100000 in
theorem put_whole {A : Nat} {s : ByteArray} {w : World} (x : Int) {P1 P2 P3 Q : World → Prop} (HW : WriteC A s w 0 P1) (HS : ∀ w1, P1 w1 → SyncC A w1 0 P2) (HR : ∀ w2, P2 w2 → RenameC A w2 x P3) (HD : ∀ w3, P3 w3 → RemoveD A ⟨#[116, 109, 112]⟩ w3 Q) : PutC A s w x Q := by
  unfold PutC
  go_enter_defers Tryz.func38, Tryz.ntmps38
  go_wp2_with fail
  refine HW.mono ?_
  rintro e w1 ⟨⟨n, rfl⟩, h1⟩
  go_wp2_with fail
  refine (HS w1 h1).mono ?_
  rintro e w2 ⟨rfl, h2⟩
  go_wp2_with fail
  refine (HR w2 h2).mono ?_
  rintro e w3 ⟨rfl, h3⟩
  go_wp2_with fail
  refine leaves_cons (f := 37) (args := #[pD A, .string ⟨#[116, 109, 112]⟩]) (by simp) (by simp [go_sem]) ?_
  refine (HD w3 h3 .returning).mono ?_
  rintro e u' w4 ⟨rfl, ⟨y, rfl⟩, h4⟩
  simp [Leaves, settle, results, Tryz.results38, go_sem]
  exact h4
set_option maxHeartbeats 1000000 in
set_option maxRecDepth 100000 in
theorem put_write {A : Nat} {s : ByteArray} {w : World} {P1 Q : World → Prop} (HW : WriteC A s w 22 P1) (HD : ∀ w3, P1 w3 → RemoveD A ⟨#[116, 109, 112]⟩ w3 Q) : PutC A s w 22 Q := by
  unfold PutC
  go_enter_defers Tryz.func38, Tryz.ntmps38
  go_wp2_with fail
  refine HW.mono ?_
  rintro e w1 ⟨⟨n, rfl⟩, h1⟩
  go_wp2_with fail
  refine leaves_cons (f := 37) (args := #[pD A, .string ⟨#[116, 109, 112]⟩]) (by simp) (by simp [go_sem]) ?_
  refine (HD w1 h1 .returning).mono ?_
  rintro e u' w4 ⟨rfl, ⟨y, rfl⟩, h4⟩
  simp [Leaves, settle, results, Tryz.results38, go_sem]
  exact h4
set_option maxHeartbeats 1000000 in
set_option maxRecDepth 100000 in
theorem put_sync {A : Nat} {s : ByteArray} {w : World} {P1 P2 Q : World → Prop} (HW : WriteC A s w 0 P1) (HS : ∀ w1, P1 w1 → SyncC A w1 22 P2) (HD : ∀ w3, P2 w3 → RemoveD A ⟨#[116, 109, 112]⟩ w3 Q) : PutC A s w 22 Q := by
  unfold PutC
  go_enter_defers Tryz.func38, Tryz.ntmps38
  go_wp2_with fail
  refine HW.mono ?_
  rintro e w1 ⟨⟨n, rfl⟩, h1⟩
  go_wp2_with fail
  refine (HS w1 h1).mono ?_
  rintro e w2 ⟨rfl, h2⟩
  go_wp2_with fail
  refine leaves_cons (f := 37) (args := #[pD A, .string ⟨#[116, 109, 112]⟩]) (by simp) (by simp [go_sem]) ?_
  refine (HD w2 h2 .returning).mono ?_
  rintro e u' w4 ⟨rfl, ⟨y, rfl⟩, h4⟩
  simp [Leaves, settle, results, Tryz.results38, go_sem]
  exact h4
end Mf
end Go.Proofs.YtgpedeagaghpfaaGreatDoor
namespace Go.Proofs.YtgpedeagaghpfaaGreatDoor
set_option linter.unusedVariables false
open Go Go.RowKit Go.Shelf Go.Sort Dk
namespace Mf
theorem nm_len {next : Int} {s : Bs} (h : isNm next s = true) : s.length ≤ 17 := by
  obtain ⟨c, n, rfl, _, _, _, h4⟩ := nm_parts h
  have := dec_len 15 n (by omega)
  simp; omega
theorem flat_len {α : Type} (f : α → Bs) (q : Nat) : ∀ (L : List α), (∀ x ∈ L, (f x).length ≤ q) → (L.flatMap f).length ≤ L.length * q
  | [], _ => by simp
  | x :: L, h => by
    have h1 := flat_len f q L (fun y hy => h y (by simp [hy]))
    have h2 := h x (by simp)
    rw [List.flatMap_cons, List.length_append, List.length_cons, Nat.add_mul]
    omega
theorem enc_small {m : Mn} (h : may m = true) : (encB m).length ≤ 40000 := by
  obtain ⟨h1, h2, h3, h4, h5, h6, h7, _⟩ := (may_iff m).1 h
  obtain ⟨a, ha⟩ := Int.eq_ofNat_of_zero_le (show 0 ≤ m.next by omega)
  obtain ⟨b, hb⟩ := Int.eq_ofNat_of_zero_le h3
  have l1 := dec_len 15 a (by omega)
  have l2 := dec_len 15 b (by omega)
  have l3 := nm_len h6
  have l4 := dec_len 9 (Wl.crcL (bodyB m)) (by have := Wl.crcL_lt (bodyB m); omega)
  have l5 := flat_len (fun s => lineB wSeg (bl s)) 26 m.segs (fun x hx => by
    have := nm_len (h7 x hx)
    simp [lineB, wSeg] at *; omega)
  have e : (bodyB m).length ≤ 39000 := by
    rw [body_eq, ha, hb, itoa_nat, itoa_nat]
    simp only [List.length_append, lineB, List.length_cons, List.length_nil] at l5 ⊢
    simp only [wLode, wNext, wSeq, wLog, List.length_cons, List.length_nil]
    have := Nat.mul_le_mul_right 26 h5
    omega
  unfold encB
  rw [List.length_append]
  have : (tailB (bodyB m)).length ≤ 20 := by
    unfold tailB lineB wSum
    simp; omega
  omega
/-! ### the disk's states -/
def NoS (P : List (Int × Int × Int)) (k : Int) : Prop := ∀ p ∈ P, p.1 ≠ k
theorem tick_no (D : DSt) (h : NoS D.plan (D.steps + 1)) : D.tick = { D with steps := D.steps + 1 } := by
  unfold DSt.tick
  rw [List.filter_eq_self.2 (fun p hp => by simpa using h p hp)]
theorem hit_no (D : DSt) (h : NoS D.plan (D.steps + 1)) : D.hit = none := by
  unfold DSt.hit
  exact List.find?_eq_none.2 (fun p hp => by simpa using h p hp)
def r1 (a : Bs) : DSt := ⟨[(nTmp, 0)], [[(nTmp, none)]], [⟨a, 0⟩], 1, []⟩
def r2 (a : Bs) : DSt := ⟨[(nTmp, 0)], [[(nTmp, none)]], [⟨a, a.length⟩], 2, []⟩
def r3 (a : Bs) : DSt := ⟨[(nMan, 0)], [[(nTmp, none)], [(nTmp, some 0), (nMan, none)]], [⟨a, a.length⟩], 3, []⟩
def r4 (a : Bs) (P : List (Int × Int × Int)) : DSt := ⟨[(nMan, 0)], [], [⟨a, a.length⟩], 4, P⟩
def s5 (a : Bs) (f : FileC) (st : Int) (P : List (Int × Int × Int)) : DSt := ⟨[(nMan, 0), (nTmp, 1)], [[(nTmp, none)]], [⟨a, a.length⟩, f], st, P⟩
def s7 (a b : Bs) (st : Int) (P : List (Int × Int × Int)) : DSt := ⟨[(nMan, 1)], [[(nTmp, none)], [(nTmp, some 1), (nMan, some 0)]], [⟨a, a.length⟩, ⟨b, b.length⟩], st, P⟩
def s8 (a b : Bs) (P : List (Int × Int × Int)) : DSt := ⟨[(nMan, 1)], [], [⟨a, a.length⟩, ⟨b, b.length⟩], 8, P⟩
def lost (a : Bs) (f : FileC) (st : Int) : DSt := ⟨[(nMan, 0)], [[(nTmp, none)], [(nTmp, some 1)]], [⟨a, a.length⟩, f], st, []⟩
theorem ft1 (a : Bs) : ({ more Dk.new.tick nTmp with files := (more Dk.new.tick nTmp).files.set Dk.new.files.length (FileC.mk a 0) } : DSt) = r1 a := by kernel_rfl
theorem ft2 (a : Bs) : ({ (r1 a).tick with files := (r1 a).files.set 0 (syncF ⟨a, 0⟩) } : DSt) = r2 a := by kernel_rfl
theorem ft3 (a : Bs) : (r2 a).tick.relink [(nTmp, none), (nMan, some 0)] = r3 a := by kernel_rfl
theorem ft4 (a : Bs) : DSt.close (r3 a).tick = r4 a [] := by kernel_rfl
theorem u5 (a b : Bs) (P : List (Int × Int × Int)) (h : NoS P 5) : ({ more (r4 a P).tick nTmp with files := (more (r4 a P).tick nTmp).files.set (r4 a P).files.length (FileC.mk b 0) } : DSt) = s5 a ⟨b, 0⟩ 5 P := by
  rw [tick_no (r4 a P) h]; kernel_rfl
theorem u5s (a b : Bs) (n : Int) : ({ more (r4 a [(5, 2, n)]).tick nTmp with files := (more (r4 a [(5, 2, n)]).tick nTmp).files.set (r4 a [(5, 2, n)]).files.length (FileC.mk b 0) } : DSt) = s5 a ⟨b, 0⟩ 5 [] := by kernel_rfl
theorem u6 (a b : Bs) (P : List (Int × Int × Int)) (h : NoS P 6) : ({ (s5 a ⟨b, 0⟩ 5 P).tick with files := (s5 a ⟨b, 0⟩ 5 P).files.set 1 (syncF ⟨b, 0⟩) } : DSt) = s5 a ⟨b, b.length⟩ 6 P := by
  rw [tick_no (s5 a ⟨b, 0⟩ 5 P) h]; kernel_rfl
theorem u6s (a : Bs) (f : FileC) (n : Int) : (s5 a f 5 [(6, 2, n)]).tick = s5 a f 6 [] := by kernel_rfl
theorem u7 (a b : Bs) (P : List (Int × Int × Int)) (h : NoS P 7) : (s5 a ⟨b, b.length⟩ 6 P).tick.relink [(nTmp, none), (nMan, some 1)] = s7 a b 7 P := by
  rw [tick_no (s5 a ⟨b, b.length⟩ 6 P) h]; kernel_rfl
theorem u7s (a : Bs) (f : FileC) (n : Int) : (s5 a f 6 [(7, 2, n)]).tick = s5 a f 7 [] := by kernel_rfl
theorem u8 (a b : Bs) (P : List (Int × Int × Int)) (h : NoS P 8) : DSt.close (s7 a b 7 P).tick = s8 a b P := by
  rw [tick_no (s7 a b 7 P) h]; kernel_rfl
theorem u8s (a b : Bs) (n : Int) : (s7 a b 7 [(8, 2, n)]).tick = s7 a b 8 [] := by kernel_rfl
theorem ul (a : Bs) (f : FileC) (st : Int) : (s5 a f st []).tick.relink [(nTmp, none)] = lost a f (st + 1) := by kernel_rfl
/-! ### behind a crash -/
def Has (D : DSt) (l : Bs) : Prop := ∃ i f, nmGet D.names nMan = some i ∧ D.files[i]? = some f ∧ f.data = l
theorem crash_whole (l : Bs) (n : Nat) : (FileC.crash ⟨l, l.length⟩ n).data = l := by
  unfold FileC.crash
  exact List.take_of_length_le (Nat.le_add_right _ _)
theorem crash_all (D : DSt) (k : Nat) (bs : List Int) (h : D.opn.length ≤ k) : D.crash k bs = D.crash D.opn.length bs := by
  unfold DSt.crash DSt.undo
  rw [List.drop_eq_nil_of_le h, List.drop_length]
theorem lost_crash (a : Bs) (f : FileC) (st : Int) (kk : Nat) (x : Int) : Has ((lost a f st).crash kk [x]) a := by
  match kk with
  | 0 => exact ⟨0, _, by kernel_rfl, by kernel_rfl, crash_whole a (left [x] 0)⟩
  | 1 => exact ⟨0, _, by kernel_rfl, by kernel_rfl, crash_whole a (left [x] 0)⟩
  | k + 2 =>
    rw [crash_all (lost a f st) (k + 2) [x] (by simp [lost]), show (lost a f st).opn.length = 2 from rfl]
    exact ⟨0, _, by kernel_rfl, by kernel_rfl, crash_whole a (left [x] 0)⟩
theorem s7_crash (a b : Bs) (st : Int) (P : List (Int × Int × Int)) (kk : Nat) (x : Int) : Has ((s7 a b st P).crash kk [x]) a ∨ Has ((s7 a b st P).crash kk [x]) b := by
  match kk with
  | 0 => exact .inl ⟨0, _, by kernel_rfl, by kernel_rfl, crash_whole a (left [x] 0)⟩
  | 1 => exact .inl ⟨0, _, by kernel_rfl, by kernel_rfl, crash_whole a (left [x] 0)⟩
  | k + 2 =>
    rw [crash_all (s7 a b st P) (k + 2) [x] (by simp [s7]), show (s7 a b st P).opn.length = 2 from rfl]
    exact .inr ⟨1, _, by kernel_rfl, by kernel_rfl, crash_whole b (left [x] 0)⟩
theorem s8_crash (a b : Bs) (P : List (Int × Int × Int)) (kk : Nat) (x : Int) : Has ((s8 a b P).crash kk [x]) b := by
  match kk with
  | 0 => exact ⟨1, _, by kernel_rfl, by kernel_rfl, crash_whole b (left [x] 0)⟩
  | k + 1 =>
    rw [crash_all (s8 a b P) (k + 1) [x] (by simp [s8]), show (s8 a b P).opn.length = 0 from rfl]
    exact ⟨1, _, by kernel_rfl, by kernel_rfl, crash_whole b (left [x] 0)⟩
structure Out (a b : Bs) (D : DSt) (e : Int) : Prop where
  few : D.names.length + D.opn.flatten.length ≤ 1099511627776 ∧ D.opn.length ≤ 1099511627776
  ans : (e = 0 ∧ ∀ kk x, Has (D.crash kk [x]) b) ∨ (e = 22 ∧ ∀ kk x, Has (D.crash kk [x]) a ∨ Has (D.crash kk [x]) b)
theorem out_lost (a b : Bs) (f : FileC) (st : Int) : Out a b (lost a f st) 22 := ⟨by simp [lost], .inr ⟨rfl, fun kk x => .inl (lost_crash a f st kk x)⟩⟩
theorem out_s7 (a b : Bs) (st : Int) : Out a b (s7 a b st []) 22 := ⟨by simp [s7], .inr ⟨rfl, fun kk x => s7_crash a b st [] kk x⟩⟩
theorem out_s8 (a b : Bs) (P : List (Int × Int × Int)) : Out a b (s8 a b P) 0 := ⟨by simp [s8], .inl ⟨rfl, fun kk x => s8_crash a b P kk x⟩⟩
end Mf
end Go.Proofs.YtgpedeagaghpfaaGreatDoor
namespace Go.Proofs.YtgpedeagaghpfaaGreatDoor
set_option linter.unusedVariables false
open Go Go.RowKit Go.Shelf Go.Sort Dk
namespace Mf
def RemoveC (A : Nat) (w : World) (x : Int) (Q : World → Prop) : Prop :=
  Calls Tryz.prog 37 #[pD A, .string ⟨#[116, 109, 112]⟩] w fun e w' => e = .returned (.int .i64 x) ∧ Q w'
def SyncNamesC (A : Nat) (w : World) (x : Int) (Q : World → Prop) : Prop :=
  Calls Tryz.prog 39 #[pD A] w fun e w' => e = .returned (.int .i64 x) ∧ Q w'
set_option maxHeartbeats 1000000 in
set_option maxRecDepth 100000 in
theorem store_err {A : Nat} {w : World} {m : Mn} {v : Value} {s : ByteArray} {Q0 Q1 : World → Prop} (hv : MnAt w v m)
    (HE : ∀ W, Below w.heap.size w W → Calls Tryz.prog 7 #[v] W fun e w' => e = .returned (.tuple #[.string s, .int .i64 0]) ∧ Below W.heap.size W w')
    (HR : ∀ W, Below w.heap.size w W → RemoveC A W 20 Q0) (HP : ∀ W, Q0 W → PutC A s W 22 Q1) :
    Calls Tryz.prog 16 #[pD A, v] w fun e w' => e = .returned (.int .i64 22) ∧ Q1 w' := by
  obtain ⟨p, c, rfl, _⟩ := hv
  generalize m.segs.length = n at *
  have hb0 := below_new w (.cells #[.slice p n c, .string m.log, .int .i64 m.next, .int .i64 m.seq] 24)
  obtain ⟨d0, d1, d2, d3⟩ := of_cells4 (heap_new w (.cells #[.slice p n c, .string m.log, .int .i64 m.next, .int .i64 m.seq] 24))
  have HB0 := Lib.hid hb0
  clear hb0
  go_enter Tryz.func16, Tryz.ntmps16
  go_wp2_with fail
  generalize w.alloc (.cells #[.slice p n c, .string m.log, .int .i64 m.next, .int .i64 m.seq] 24) = W0 at *
  refine (HE W0 HB0.out).mono ?_
  rintro e w1 ⟨rfl, hb1⟩
  have HB1 := Lib.hid (below_then HB0.out hb1)
  clear hb1 d0 d1 d2 d3
  go_wp2_with fail
  refine (HR w1 HB1.out).mono ?_
  rintro e w2 ⟨rfl, h2⟩
  go_wp2_with fail
  refine (HP w2 h2).mono ?_
  rintro e w3 ⟨rfl, h3⟩
  go_wp2_with fail
  go_ret
  exact ⟨rfl, h3⟩
set_option maxHeartbeats 1000000 in
set_option maxRecDepth 100000 in
theorem store_fin {A : Nat} {w : World} {m : Mn} {v : Value} {s : ByteArray} {Q0 Q1 Q2 : World → Prop} (y : Int) (hv : MnAt w v m)
    (HE : ∀ W, Below w.heap.size w W → Calls Tryz.prog 7 #[v] W fun e w' => e = .returned (.tuple #[.string s, .int .i64 0]) ∧ Below W.heap.size W w')
    (HR : ∀ W, Below w.heap.size w W → RemoveC A W 20 Q0) (HP : ∀ W, Q0 W → PutC A s W 0 Q1) (HN : ∀ W, Q1 W → SyncNamesC A W y Q2) :
    Calls Tryz.prog 16 #[pD A, v] w fun e w' => e = .returned (.int .i64 y) ∧ Q2 w' := by
  obtain ⟨p, c, rfl, _⟩ := hv
  generalize m.segs.length = n at *
  have hb0 := below_new w (.cells #[.slice p n c, .string m.log, .int .i64 m.next, .int .i64 m.seq] 24)
  obtain ⟨d0, d1, d2, d3⟩ := of_cells4 (heap_new w (.cells #[.slice p n c, .string m.log, .int .i64 m.next, .int .i64 m.seq] 24))
  have HB0 := Lib.hid hb0
  clear hb0
  go_enter Tryz.func16, Tryz.ntmps16
  go_wp2_with fail
  generalize w.alloc (.cells #[.slice p n c, .string m.log, .int .i64 m.next, .int .i64 m.seq] 24) = W0 at *
  refine (HE W0 HB0.out).mono ?_
  rintro e w1 ⟨rfl, hb1⟩
  have HB1 := Lib.hid (below_then HB0.out hb1)
  clear hb1 d0 d1 d2 d3
  go_wp2_with fail
  refine (HR w1 HB1.out).mono ?_
  rintro e w2 ⟨rfl, h2⟩
  go_wp2_with fail
  refine (HP w2 h2).mono ?_
  rintro e w3 ⟨rfl, h3⟩
  go_wp2_with fail
  refine (HN w3 h3).mono ?_
  rintro e w4 ⟨rfl, h4⟩
  go_wp2_with fail
  go_ret
  exact ⟨rfl, h4⟩
/-- A manifest that may not be is not stored. -/
theorem store_bad {A : Nat} {w : World} {m : Mn} {v : Value} (hv : MnAt w v m) (hm : Small m) (hmay : may m = false) (G : Gh w) :
    Calls Tryz.prog 16 #[pD A, v] w fun e w' => e = .returned (.int .i64 110) ∧ Below w.heap.size w w' := by
  have HE := Lib.hid (fun W (hW : Below w.heap.size w W) => encode_any m v W (hv.below hW) hm (G.below hW))
  have h1 : encS m = ⟨#[]⟩ := by unfold encS; rw [hmay]; rfl
  have h2 : encE m = 110 := by unfold encE; rw [hmay]; rfl
  rw [h1, h2] at HE
  obtain ⟨p, c, rfl, _⟩ := hv
  clear h1 h2 hm hmay G
  generalize m.segs.length = n at *
  have hb0 := below_new w (.cells #[.slice p n c, .string m.log, .int .i64 m.next, .int .i64 m.seq] 24)
  obtain ⟨d0, d1, d2, d3⟩ := of_cells4 (heap_new w (.cells #[.slice p n c, .string m.log, .int .i64 m.next, .int .i64 m.seq] 24))
  have HB0 := Lib.hid hb0
  clear hb0
  go_enter Tryz.func16, Tryz.ntmps16
  go_wp2_with fail
  generalize w.alloc (.cells #[.slice p n c, .string m.log, .int .i64 m.next, .int .i64 m.seq] 24) = W0 at *
  refine (HE.out W0 HB0.out).mono ?_
  rintro e w1 ⟨rfl, hb1⟩
  have HB1 := Lib.hid (below_then HB0.out hb1)
  clear hb1 d0 d1 d2 d3
  go_wp2_with fail
  go_ret
  exact ⟨rfl, HB1.out⟩
end Mf
end Go.Proofs.YtgpedeagaghpfaaGreatDoor
namespace Go.Proofs.YtgpedeagaghpfaaGreatDoor
set_option linter.unusedVariables false
open Go Go.RowKit Go.Shelf Go.Sort Dk
namespace Mf
def enc (m : Mn) : Bs := encB m
theorem enc_same (m : Mn) : (tx (encB m)).data.toList = enc m := tx_list _
section
variable {w0 : World} {A : Nat}
/-! ### the calls of the disk, state by state -/
theorem c_none {D : DSt} (hg : nmGet D.names nTmp = none) {W : World} (h : At w0 A D W) : RemoveC A W 20 (At w0 A D) :=
  (h.remove_none nTmp nTmp_size nTmp_full hg).mono fun e w' ⟨he, hw⟩ => ⟨he, hw ▸ h⟩
theorem d_none {D : DSt} (hg : nmGet D.names nTmp = none) {W : World} (h : At w0 A D W) : RemoveD A ⟨#[116, 109, 112]⟩ W (At w0 A D) :=
  fun u => (h.removeD_none nTmp nTmp_size nTmp_full hg u).mono fun e u' w' ⟨hu, he, hw⟩ => ⟨hu, ⟨_, he⟩, hw⟩
theorem d_lost {a : Bs} {f : FileC} {st : Int} (h0 : 0 ≤ st) (h1 : st ≤ 100) {W : World} (h : At w0 A (s5 a f st []) W) : RemoveD A ⟨#[116, 109, 112]⟩ W (At w0 A (lost a f (st + 1))) :=
  fun u => (h.removeD_miss h0 (by show st ≤ _; omega) (by simp [s5]) (by simp [s5]) nTmp nTmp_size nTmp_full 1 (by kernel_rfl) (by rfl) u).mono fun e u' w' ⟨hu, he, hw⟩ => ⟨hu, ⟨_, he⟩, ul a f st ▸ hw⟩
theorem man_unlike : (nTmp.toList == nMan.toList) = false := unlike _ _ (by decide)
section
variable {m : Mn} (hm : (encB m).length ≤ 40000)
include hm
theorem sz_ok : (tx (encB m)).size ≤ 40000 := by rw [tx_size]; exact hm
theorem w_first {W : World} (h : At w0 A Dk.new W) : WriteC A (tx (encB m)) W 0 (At w0 A (r1 (enc m))) := by
  have hs := sz_ok hm
  refine (h.write_new (by decide) (by decide) (by decide) (by decide) nTmp (tx (encB m)) nTmp_size (by unfold maxLen; omega) nTmp_full rfl rfl (by omega)).mono ?_
  rintro e w' ⟨rfl, h'⟩
  rw [enc_same, ft1] at h'
  exact ⟨⟨_, rfl⟩, h'⟩
theorem w_over {a : Bs} {P : List (Int × Int × Int)} (hP : NoS P 5) {W : World} (h : At w0 A (r4 a P) W) : WriteC A (tx (encB m)) W 0 (At w0 A (s5 a ⟨enc m, 0⟩ 5 P)) := by
  have hs := sz_ok hm
  refine (h.write_new (by simp [r4]) (by simp [r4]) (by simp [r4]) (by simp [r4]) nTmp (tx (encB m)) nTmp_size (by unfold maxLen; omega) nTmp_full (hit_no _ hP) (by kernel_rfl) (by omega)).mono ?_
  rintro e w' ⟨rfl, h'⟩
  rw [enc_same, u5 a (enc m) P hP] at h'
  exact ⟨⟨_, rfl⟩, h'⟩
theorem w_short {a : Bs} {n : Int} (hn : 0 ≤ n) {W : World} (h : At w0 A (r4 a [(5, 2, n)]) W) : WriteC A (tx (encB m)) W 22 (fun w' => ∃ b, At w0 A (s5 a ⟨b, 0⟩ 5 []) w') := by
  have hs := sz_ok hm
  obtain ⟨k, rfl⟩ := Int.eq_ofNat_of_zero_le hn
  by_cases hk : k ≤ (tx (encB m)).size
  · refine (h.short_new (by simp [r4]) (by simp [r4]) (by simp [r4]) (by simp [r4]) nTmp (tx (encB m)) nTmp_size (by unfold maxLen; omega) nTmp_full 5 k hk (by rfl) (by kernel_rfl) (by omega)).mono ?_
    rintro e w' ⟨rfl, h'⟩
    rw [u5s a _ (k : Int)] at h'
    exact ⟨⟨_, rfl⟩, _, h'⟩
  · refine (h.short_new_all (by simp [r4]) (by simp [r4]) (by simp [r4]) (by simp [r4]) nTmp (tx (encB m)) nTmp_size (by unfold maxLen; omega) nTmp_full 5 (k : Int) (by omega) (by rfl) (by kernel_rfl) (by omega)).mono ?_
    rintro e w' ⟨rfl, h'⟩
    rw [u5s a _ (k : Int)] at h'
    exact ⟨⟨_, rfl⟩, _, h'⟩
end
theorem y_first {b : Bs} {W : World} (h : At w0 A (r1 b) W) : SyncC A W 0 (At w0 A (r2 b)) := by
  refine (h.sync (by simp [r1]) (by simp [r1]) nTmp nTmp_size nTmp_full 0 ⟨b, 0⟩ (by kernel_rfl) (by rfl) (by rfl)).mono ?_
  rintro e w' ⟨rfl, h'⟩
  rw [ft2] at h'
  exact ⟨rfl, h'⟩
theorem y_over {a b : Bs} {P : List (Int × Int × Int)} (hP : NoS P 6) {W : World} (h : At w0 A (s5 a ⟨b, 0⟩ 5 P) W) : SyncC A W 0 (At w0 A (s5 a ⟨b, b.length⟩ 6 P)) := by
  refine (h.sync (by simp [s5]) (by simp [s5]) nTmp nTmp_size nTmp_full 1 ⟨b, 0⟩ (by kernel_rfl) (by rfl) (hit_no _ hP)).mono ?_
  rintro e w' ⟨rfl, h'⟩
  rw [u6 a b P hP] at h'
  exact ⟨rfl, h'⟩
theorem y_hit {a b : Bs} {n : Int} {W : World} (h : At w0 A (s5 a ⟨b, 0⟩ 5 [(6, 2, n)]) W) : SyncC A W 22 (At w0 A (s5 a ⟨b, 0⟩ 6 [])) := by
  refine (h.sync_hit (by simp [s5]) (by simp [s5]) nTmp nTmp_size nTmp_full 1 ⟨b, 0⟩ (by kernel_rfl) (by rfl) 6 2 n (by rfl)).mono ?_
  rintro e w' ⟨rfl, h'⟩
  rw [u6s] at h'
  exact ⟨rfl, h'⟩
theorem n_first {b : Bs} {W : World} (h : At w0 A (r2 b) W) : RenameC A W 0 (At w0 A (r3 b)) := by
  refine (h.rename (by simp [r2]) (by simp [r2]) (by simp [r2]) (by simp [r2]) nTmp nMan nTmp_size nMan_size nTmp_full nMan_full man_unlike 0 (by kernel_rfl) (by rfl)).mono ?_
  rintro e w' ⟨rfl, h'⟩
  rw [ft3] at h'
  exact ⟨rfl, h'⟩
theorem n_over {a b : Bs} {P : List (Int × Int × Int)} (hP : NoS P 7) {W : World} (h : At w0 A (s5 a ⟨b, b.length⟩ 6 P) W) : RenameC A W 0 (At w0 A (s7 a b 7 P)) := by
  refine (h.rename (by simp [s5]) (by simp [s5]) (by simp [s5]) (by simp [s5]) nTmp nMan nTmp_size nMan_size nTmp_full nMan_full man_unlike 1 (by kernel_rfl) (hit_no _ hP)).mono ?_
  rintro e w' ⟨rfl, h'⟩
  rw [u7 a b P hP] at h'
  exact ⟨rfl, h'⟩
theorem n_hit {a b : Bs} {n : Int} {W : World} (h : At w0 A (s5 a ⟨b, b.length⟩ 6 [(7, 2, n)]) W) : RenameC A W 22 (At w0 A (s5 a ⟨b, b.length⟩ 7 [])) := by
  refine (h.rename_hit (by simp [s5]) (by simp [s5]) nTmp nMan nTmp_size nTmp_full nMan_full 1 (by kernel_rfl) 7 2 n (by rfl)).mono ?_
  rintro e w' ⟨rfl, h'⟩
  rw [u7s] at h'
  exact ⟨rfl, h'⟩
theorem g_first {b : Bs} {W : World} (h : At w0 A (r3 b) W) : SyncNamesC A W 0 (At w0 A (r4 b [])) := by
  refine (h.syncNames (by simp [r3]) (by simp [r3]) (by rfl)).mono ?_
  rintro e w' ⟨rfl, h'⟩
  rw [ft4] at h'
  exact ⟨rfl, h'⟩
theorem g_over {a b : Bs} {P : List (Int × Int × Int)} (hP : NoS P 8) {W : World} (h : At w0 A (s7 a b 7 P) W) : SyncNamesC A W 0 (At w0 A (s8 a b P)) := by
  refine (h.syncNames (by simp [s7]) (by simp [s7]) (hit_no _ hP)).mono ?_
  rintro e w' ⟨rfl, h'⟩
  rw [u8 a b P hP] at h'
  exact ⟨rfl, h'⟩
theorem g_hit {a b : Bs} {n : Int} {W : World} (h : At w0 A (s7 a b 7 [(8, 2, n)]) W) : SyncNamesC A W 22 (At w0 A (s7 a b 8 [])) := by
  refine (h.syncNames_hit (by simp [s7]) (by simp [s7]) 8 2 n (by rfl)).mono ?_
  rintro e w' ⟨rfl, h'⟩
  rw [u8s] at h'
  exact ⟨rfl, h'⟩
end
/-! ### Store -/
section
variable {w0 w : World} {A : Nat} {m : Mn} {v : Value}
theorem enc_call (hv : MnAt w v m) (hm : Small m) (hmay : may m = true) (G : Gh w) : ∀ W, Below w.heap.size w W → Calls Tryz.prog 7 #[v] W fun e w' => e = .returned (.tuple #[.string (tx (encB m)), .int .i64 0]) ∧ Below W.heap.size W w' := by
  have h1 : encS m = tx (encB m) := by unfold encS; rw [hmay]; rfl
  have h2 : encE m = 0 := by unfold encE; rw [hmay]; rfl
  intro W hW
  have := encode_any m v W (hv.below hW) hm (G.below hW)
  rw [h1, h2] at this
  exact this
theorem store_first (h : At w0 A Dk.new w) (hv : MnAt w v m) (hm : Small m) (hmay : may m = true) (G : Gh w) :
    Calls Tryz.prog 16 #[pD A, v] w fun e w' => e = .returned (.int .i64 0) ∧ At w0 A (r4 (enc m) []) w' :=
  store_fin 0 hv (enc_call hv hm hmay G) (fun W hW => c_none rfl (h.others hW)) (fun W hW => put_whole 0 (w_first (enc_small hmay) hW) (fun _ => y_first) (fun _ => n_first) (fun _ => d_none (by kernel_rfl))) (fun _ => g_first)
/-- The step at which the disk's fault is met. -/
theorem store_over {a : Bs} {P : List (Int × Int × Int)} (hP : (NoS P 5 ∧ NoS P 6 ∧ NoS P 7 ∧ NoS P 8) ∨ ∃ k n : Int, 5 ≤ k ∧ k ≤ 8 ∧ 0 ≤ n ∧ P = [(k, 2, n)]) (h : At w0 A (r4 a P) w) (hv : MnAt w v m) (hm : Small m) (hmay : may m = true) (G : Gh w) :
    Calls Tryz.prog 16 #[pD A, v] w fun e w' => ∃ (x : Int) (D : DSt), e = .returned (.int .i64 x) ∧ Out a (enc m) D x ∧ At w0 A D w' := by
  have HE := enc_call hv hm hmay G
  have hs := enc_small hmay
  have HR : ∀ W, Below w.heap.size w W → RemoveC A W 20 (At w0 A (r4 a P)) := fun W hW => c_none (by kernel_rfl) (h.others hW)
  rcases hP with ⟨h5, h6, h7, h8⟩ | ⟨k, n, hk1, hk2, hn, rfl⟩
  · exact (store_fin 0 hv HE HR (fun W hW => put_whole 0 (w_over hs h5 hW) (fun _ => y_over h6) (fun _ => n_over h7) (fun _ => d_none (by kernel_rfl))) (fun _ => g_over h8)).mono fun e w' ⟨he, hw⟩ => ⟨0, _, he, out_s8 _ _ _, hw⟩
  · have no : ∀ j : Int, k ≠ j → NoS [(k, 2, n)] j := fun j hj p hp => by
      have : p = (k, 2, n) := by simpa using hp
      subst this; exact hj
    have hk : k = 5 ∨ k = 6 ∨ k = 7 ∨ k = 8 := by omega
    rcases hk with rfl | rfl | rfl | rfl
    · exact (store_err hv HE HR (fun W hW => put_write (w_short hs hn hW) (Q := fun w' => ∃ b, At w0 A (lost a ⟨b, 0⟩ (5 + 1)) w') (fun w3 ⟨b, hb⟩ u => (d_lost (by decide) (by decide) hb u).mono fun e u' w' ⟨h1, h2, h3⟩ => ⟨h1, h2, b, h3⟩))).mono fun e w' ⟨he, b, hw⟩ => ⟨22, _, he, out_lost _ _ _ _, hw⟩
    · exact (store_err hv HE HR (fun W hW => put_sync (w_over hs (no 5 (by decide)) hW) (fun _ => y_hit) (fun _ => d_lost (by decide) (by decide)))).mono fun e w' ⟨he, hw⟩ => ⟨22, _, he, out_lost _ _ _ _, hw⟩
    · exact (store_err hv HE HR (fun W hW => put_whole 22 (w_over hs (no 5 (by decide)) hW) (fun _ => y_over (no 6 (by decide))) (fun _ => n_hit) (fun _ => d_lost (by decide) (by decide)))).mono fun e w' ⟨he, hw⟩ => ⟨22, _, he, out_lost _ _ _ _, hw⟩
    · exact (store_fin 22 hv HE HR (fun W hW => put_whole 0 (w_over hs (no 5 (by decide)) hW) (fun _ => y_over (no 6 (by decide))) (fun _ => n_over (no 7 (by decide))) (fun _ => d_none (by kernel_rfl))) (fun _ => g_hit)).mono fun e w' ⟨he, hw⟩ => ⟨22, _, he, out_s7 _ _ _, hw⟩
end
end Mf
end Go.Proofs.YtgpedeagaghpfaaGreatDoor
namespace Go.Proofs.YtgpedeagaghpfaaGreatDoor
set_option linter.unusedVariables false
open Go Go.RowKit Go.Shelf Go.Sort Dk
namespace Mf
theorem of_cells2 {w : World} {K : Nat} {a b : Value} {T : TypeId} (h : w.heap[K]? = some (.cells #[a, b] T (0, 0))) : w.cell? ⟨K, 0, none⟩ = some a ∧ w.cell? ⟨K, 1, none⟩ = some b := by
  refine ⟨?_, ?_⟩ <;> rw [Lib.cell_of_heap h] <;> rfl
/-- Three boxes in a row: each is as it was, whatever was made since. -/
theorem boxes (w : World) (oa ob oc : Nat × Nat → Obj) :
    (∀ W, Below (((w.alloc (oa (0, 0))).alloc (ob (0, 0))).alloc (oc (0, 0))).heap.size (((w.alloc (oa (0, 0))).alloc (ob (0, 0))).alloc (oc (0, 0))) W → W.heap[w.heap.size]? = some (oa (0, 0)) ∧ W.heap[w.heap.size + 1]? = some (ob (0, 0)) ∧ W.heap[w.heap.size + 1 + 1]? = some (oc (0, 0)) ∧ Below w.heap.size w W) := by
  intro W h
  have e1 : (w.alloc (oa (0, 0))).heap.size = w.heap.size + 1 := by simp
  have e2 : ((w.alloc (oa (0, 0))).alloc (ob (0, 0))).heap.size = w.heap.size + 1 + 1 := by simp
  have e3 : (((w.alloc (oa (0, 0))).alloc (ob (0, 0))).alloc (oc (0, 0))).heap.size = w.heap.size + 1 + 1 + 1 := by simp
  have b1 := below_new w (oa (0, 0))
  have b2 := below_new (w.alloc (oa (0, 0))) (ob (0, 0))
  have b3 := below_new ((w.alloc (oa (0, 0))).alloc (ob (0, 0))) (oc (0, 0))
  refine ⟨?_, ?_, ?_, below_then (below_then (below_then b1 b2) b3) h⟩
  · exact (h.block _ (by omega)).trans ((heap_old _ _ (by omega)).trans ((heap_old _ _ (by omega)).trans (heap_new _ _)))
  · exact (h.block _ (by omega)).trans ((heap_old _ _ (by omega)).trans (by rw [← e1]; exact heap_new _ _))
  · exact (h.block _ (by omega)).trans (by rw [← e2]; exact heap_new _ _)
theorem at_ad {w0 z : World} {A : Nat} {D : DSt} {o : Obj} (h : At w0 A D z) : At w0 A D (z.alloc o).drew := (h.alloc o).others (below_drewN _ 1)
def GoodP (P : List (Int × Int × Int)) : Prop := (NoS P 5 ∧ NoS P 6 ∧ NoS P 7 ∧ NoS P 8) ∨ ∃ k n : Int, 5 ≤ k ∧ k ≤ 8 ∧ 0 ≤ n ∧ P = [(k, 2, n)]
theorem good_nil : GoodP [] := .inl ⟨by simp [NoS], by simp [NoS], by simp [NoS], by simp [NoS]⟩
theorem good_one {x n : Int} (h0 : 0 < x) (h9 : x < 9) (hn : 0 ≤ n) : GoodP [(4 + x, 2, n)] := by
  by_cases h : x ≤ 4
  · exact .inr ⟨4 + x, n, by omega, by omega, hn, rfl⟩
  · have no : ∀ j : Int, j ≤ 8 → NoS [(4 + x, 2, n)] j := fun j hj p hp => by
      have : p = (4 + x, 2, n) := by simpa using hp
      subst this
      show 4 + x ≠ j
      omega
    exact .inl ⟨no 5 (by decide), no 6 (by decide), no 7 (by decide), no 8 (by decide)⟩
theorem dec_encM {m : Mn} (h : may m = true) : decM (tx (enc m)) = m := by
  have hd : dec (tx (enc m)) = some m := dec_some.2 ⟨h, (tx_list _).symm⟩
  unfold decM; rw [hd]; rfl
theorem dec_encE {m : Mn} (h : may m = true) : decE (tx (enc m)) = 0 := by
  have hd : dec (tx (enc m)) = some m := dec_some.2 ⟨h, (tx_list _).symm⟩
  unfold decE; rw [hd]; rfl
theorem out_may {ma mb : Mn} {D : DSt} {z : Int} (h : Out (enc ma) (enc mb) D z) (kk : Nat) (y : Int) (ha : may ma = true) (hb : may mb = true) (sa : Small ma) (sb : Small mb) :
    ∃ m, may m = true ∧ Small m ∧ Has (D.crash kk [y]) (enc m) ∧ ((z = 0 ∧ m = mb) ∨ (z = 22 ∧ (m = ma ∨ m = mb))) := by
  rcases h.ans with ⟨rfl, h1⟩ | ⟨rfl, h1⟩
  · exact ⟨mb, hb, sb, h1 kk y, .inl ⟨rfl, rfl⟩⟩
  · rcases h1 kk y with h2 | h2
    · exact ⟨ma, ha, sa, h2, .inr ⟨rfl, .inl rfl⟩⟩
    · exact ⟨mb, hb, sb, h2, .inr ⟨rfl, .inr rfl⟩⟩
def AtG (w0 : World) (A : Nat) (a : Bs) (z : World) : Prop := ∃ P, GoodP P ∧ At w0 A (r4 a P) z
theorem plan_call {w0 z : World} {A : Nat} {a : Bs} (x N : Int) (h : At w0 A (r4 a []) z) (h0 : 0 < x) (h9 : x < 9) (hN : 0 ≤ N) :
    Calls Tryz.prog 14 #[pD A, .slice (some ⟨z.heap.size, 0, none⟩) 1 1] (z.alloc (.cells #[.int .i64 (4 + x), .int .i64 2, .int .i64 N] 61)).drew fun e w' => e = .returned (.int .i64 0) ∧ At w0 A (r4 a [(4 + x, 2, N)]) w' := by
  have h1 : decide ((4 : Int) < 4 + x) = true := decide_eq_true (by omega)
  have h2 : planOk (r4 a []).steps [(4 + x, 2, N)] = true := by
    show (decide ((4 : Int) < 4 + x) && mayB (4 + x, 2, N) && planOk (4 + x) []) = true
    rw [h1]
    simp [mayB, planOk]
    exact hN
  exact (h.others (below_drewN z 1)).plan_one (4 + x, 2, N) h2 ⟨by show _ ≤ 4 + x; omega, by show 4 + x ≤ _; omega⟩
set_option maxHeartbeats 4000000 in
set_option maxRecDepth 100000 in
theorem whole_walk (ma mb : Mn) (va vb : Value) (x y : Int) (w : World) (hva : MnAt w va ma) (hvb : MnAt w vb mb) (sa : Small ma) (sb : Small mb) (hx : -9223372036854775808 ≤ x ∧ x ≤ 9223372036854775807) (hy : -9223372036854775808 ≤ y ∧ y ≤ 9223372036854775807) (G : Gh w) :
    Calls Tryz.prog 5 #[va, vb, .agg #[.int .i64 x, .int .i64 y]] w fun e w' => e = .returned (.bool true) ∧ Below w.heap.size w w' := by
  have HMA := Lib.hid (fun W (hW : Below w.heap.size w W) => rmay_any ma va W (hva.below hW) sa)
  have HMB := Lib.hid (fun W (hW : Below w.heap.size w W) => rmay_any mb vb W (hvb.below hW) sb)
  have HVA := Lib.hid hva
  have HVB := Lib.hid hvb
  have HG := Lib.hid G
  have HX := Lib.hid hx
  have HY := Lib.hid hy
  obtain ⟨pa, ca, rfl, _⟩ := hva
  obtain ⟨pb, cb, rfl, _⟩ := hvb
  have HSA := Lib.hid sa
  have HSB := Lib.hid sb
  obtain ⟨na, hna⟩ : ∃ n, n = ma.segs.length := ⟨_, rfl⟩
  obtain ⟨la, hla⟩ : ∃ l, l = ma.log := ⟨_, rfl⟩
  obtain ⟨xa, hxa⟩ : ∃ n, n = ma.next := ⟨_, rfl⟩
  obtain ⟨qa, hqa⟩ : ∃ n, n = ma.seq := ⟨_, rfl⟩
  obtain ⟨nb, hnb⟩ : ∃ n, n = mb.segs.length := ⟨_, rfl⟩
  obtain ⟨lb, hlb⟩ : ∃ l, l = mb.log := ⟨_, rfl⟩
  obtain ⟨xb, hxb⟩ : ∃ n, n = mb.next := ⟨_, rfl⟩
  obtain ⟨qb, hqb⟩ : ∃ n, n = mb.seq := ⟨_, rfl⟩
  rw [← hna, ← hla, ← hxa, ← hqa] at HMA HVA ⊢
  rw [← hnb, ← hlb, ← hxb, ← hqb] at HMB HVB ⊢
  clear hna hla hxa hqa hnb hlb hxb hqb G hx hy sa sb
  go_enter Tryz.func5, Tryz.ntmps5
  have HBX := Lib.hid (boxes w (fun t => .cells #[.slice pa na ca, .string la, .int .i64 xa, .int .i64 qa] 24 t) (fun t => .cells #[.slice pb nb cb, .string lb, .int .i64 xb, .int .i64 qb] 24 t) (fun t => .cells #[.int .i64 x, .int .i64 y] 57 t))
  go_wp2_with fail
  generalize (((w.alloc (.cells #[.slice pa na ca, .string la, .int .i64 xa, .int .i64 qa] 24)).alloc (.cells #[.slice pb nb cb, .string lb, .int .i64 xb, .int .i64 qb] 24)).alloc (.cells #[.int .i64 x, .int .i64 y] 57)) = W0 at *
  refine (HMA.out W0 (HBX.out W0 (Below.refl _ _)).2.2.2).mono ?_
  clear HMA
  rintro e w1 ⟨rfl, hb1⟩
  have HB1 := Lib.hid hb1
  obtain ⟨-, hz2, -, hW1⟩ := HBX.out w1 hb1
  obtain ⟨e0, e1, e2, e3⟩ := of_cells4 hz2
  have HW1 := Lib.hid hW1
  clear hb1 hz2 hW1
  cases hma : may ma with
  | false =>
    clear hma
    go_wp2_with fail
    refine (at_new w1).mono ?_
    rintro e w2 ⟨rfl, hA2⟩
    have HA2 := Lib.hid hA2
    clear hA2 e0 e1 e2 e3
    go_wp2_with fail
    refine (store_bad (m := Mn.zero) ((zeroV_own w2 0).at) zero_small (by kernel_rfl) (HG.out.below (below_then HW1.out HA2.out.below))).mono ?_
    rintro e w3 ⟨rfl, hb3⟩
    have HA3 := Lib.hid (HA2.out.others hb3)
    clear hb3 HA2
    go_wp2_with fail
    refine (awake_yes w3 (HG.out.below (below_then HW1.out HA3.out.below))).mono ?_
    rintro e w4 ⟨rfl, hb4⟩
    have HF := Lib.hid (below_then (below_then HW1.out HA3.out.below) hb4)
    clear hb4
    go_wp2_with fail
    go_ret
    exact ⟨rfl, HF.out⟩
  | true =>
    have HYA := Lib.hid hma
    clear hma
    go_wp2_with fail
    refine (HMB.out w1 HW1.out).mono ?_
    clear HMB e0 e1 e2 e3
    rintro e w1' ⟨rfl, hb1'⟩
    have HB1' := Lib.hid (below_then HB1.out hb1')
    obtain ⟨hz1, -, -, hW1'⟩ := HBX.out w1' (below_then HB1.out hb1')
    obtain ⟨e0, e1, e2, e3⟩ := of_cells4 hz1
    have HW1' := Lib.hid hW1'
    clear hb1' hz1 hW1' HB1 HW1
    cases hmb : may mb with
    | false =>
      clear hmb
      go_wp2_with fail
      refine (at_new w1').mono ?_
      rintro e w2 ⟨rfl, hA2⟩
      have HA2 := Lib.hid hA2
      clear hA2 e0 e1 e2 e3
      go_wp2_with fail
      refine (store_bad (m := Mn.zero) ((zeroV_own w2 0).at) zero_small (by kernel_rfl) (HG.out.below (below_then HW1'.out HA2.out.below))).mono ?_
      rintro e w3 ⟨rfl, hb3⟩
      have HA3 := Lib.hid (HA2.out.others hb3)
      clear hb3 HA2
      go_wp2_with fail
      refine (awake_yes w3 (HG.out.below (below_then HW1'.out HA3.out.below))).mono ?_
      rintro e w4 ⟨rfl, hb4⟩
      have HF := Lib.hid (below_then (below_then HW1'.out HA3.out.below) hb4)
      clear hb4
      go_wp2_with fail
      go_ret
      exact ⟨rfl, HF.out⟩
    | true =>
      have HYB := Lib.hid hmb
      clear hmb
      go_wp2_with fail
      refine (at_new w1').mono ?_
      rintro e w2 ⟨rfl, hA2⟩
      generalize w1'.heap.size = A at hA2 ⊢
      have HA2 := Lib.hid hA2
      obtain ⟨hz1, -, -, hW2⟩ := HBX.out w2 (below_then HB1'.out hA2.below)
      obtain ⟨e0, e1, e2, e3⟩ := of_cells4 hz1
      have HW2 := Lib.hid hW2
      clear hA2 hz1 hW2
      go_wp2_with fail
      refine (store_first HA2.out (HVA.out.below HW2.out) HSA.out HYA.out (HG.out.below HW2.out)).mono ?_
      rintro e w3 ⟨rfl, hA3⟩
      have HA3 := Lib.hid hA3
      clear hA3 HA2 HW2 e0 e1 e2 e3
      go_wp2_with fail
      obtain ⟨-, -, hz3, hW3⟩ := HBX.out w3 (below_then HB1'.out HA3.out.below)
      obtain ⟨c0, c1⟩ := of_cells2 hz3
      have HW3 := Lib.hid hW3
      clear hz3 hW3
      go_cut [59] from 36 to 101 (fun s wx => s = .bool false ∧ Hid (AtG w1' A (enc ma) wx))
      case first =>
        by_cases h0 : 0 < x
        · by_cases h9 : x < 9
          · have hS : w3.drew.cell? ⟨w.heap.size + 1 + 1, 0, none⟩ = some (.int .i64 x) ∧ w3.drew.cell? ⟨w.heap.size + 1 + 1, 1, none⟩ = some (.int .i64 y) ∧ AtG w1' A (enc ma) w3.drew := ⟨c0, c1, _, good_nil, HA3.out.others (below_drewN w3 1)⟩
            have HST : Hid (∀ z, AtG w1' A (enc ma) z → Calls Tryz.prog 22 #[pD A] z fun e w' => e = .returned (.int .i64 4) ∧ z = w') := Lib.hid (fun z ⟨_, _, h⟩ => h.steps)
            have HPL := Lib.hid (fun N => plan_call x N HA3.out h0 h9)
            have CA : ∀ W, AtG w1' A (enc ma) W → W.cell? ⟨w.heap.size + 1 + 1, 0, none⟩ = some (.int .i64 x) ∧ W.cell? ⟨w.heap.size + 1 + 1, 1, none⟩ = some (.int .i64 y) ∧ AtG w1' A (enc ma) W := fun W h => let hz := (HBX.out W (below_then HB1'.out (let ⟨_, _, q⟩ := h; q.below))).2.2.1; ⟨(of_cells2 hz).1, (of_cells2 hz).2, h⟩
            have hsum : IntKind.i64.wrap ((4 : Int) + x) = 4 + x := by rw [IntKind.wrap_i64]; omega
            have SAT : ∀ {z : World}, (z.cell? ⟨w.heap.size + 1 + 1, 0, none⟩ = some (.int .i64 x) ∧ z.cell? ⟨w.heap.size + 1 + 1, 1, none⟩ = some (.int .i64 y) ∧ AtG w1' A (enc ma) z) → AtG w1' A (enc ma) z := fun h => h.2.2
            go_region_held3 (fun z => z.cell? ⟨w.heap.size + 1 + 1, 0, none⟩ = some (.int .i64 x) ∧ z.cell? ⟨w.heap.size + 1 + 1, 1, none⟩ = some (.int .i64 y) ∧ AtG w1' A (enc ma) z)
              (first | assumption | exact CA _ ⟨_, good_nil, at_ad HA3.out⟩ | go_keep)
              (first
                | (go_at_call 22; refine (HST.out _ (SAT (by assumption))).mono ?_; rintro e y1 ⟨rfl, rfl⟩)
                | (go_at_call 14; refine (HPL.out _ (Int.le_max_left _ _)).mono ?_; rintro e y2 ⟨rfl, hP⟩; have hS2 := CA _ ⟨_, good_one h0 h9 (Int.le_max_left _ _), hP⟩))
            all_goals
              go_wp2_with fail
              go_meet
              exact ⟨rfl, Lib.hid hS2.2.2⟩
          · have d9 : decide (x < 9) = false := decide_eq_false h9
            go_quiet (fail)
            go_wp2_with fail
            go_meet
            exact ⟨rfl, Lib.hid ⟨_, good_nil, HA3.out.others (below_drewN w3 _)⟩⟩
        · have d0 : decide (0 < x) = false := decide_eq_false h0
          go_quiet (fail)
          go_wp2_with fail
          go_meet
          exact ⟨rfl, Lib.hid ⟨_, good_nil, HA3.out.others (below_drewN w3 _)⟩⟩
      case rest =>
        obtain ⟨rfl, hP⟩ := hcut
        obtain ⟨P, gP, hA4⟩ := hP.out
        obtain ⟨w4, rfl⟩ : ∃ w4 : World, w4 = wc := ⟨_, rfl⟩
        obtain ⟨-, hz2, hz3, hW4⟩ := HBX.out w4 (below_then HB1'.out hA4.below)
        obtain ⟨e0, e1, e2, e3⟩ := of_cells4 hz2
        have HA4 := Lib.hid hA4
        have HW4 := Lib.hid hW4
        clear hz2 hz3 hW4 hA4 hP c0 c1 HA3 HW3
        go_wp2_with fail
        refine (store_over gP HA4.out (HVB.out.below HW4.out) HSB.out HYB.out (HG.out.below HW4.out)).mono ?_
        clear e0 e1 e2 e3 gP
        rintro e w5 ⟨z, D, rfl, hO, hA5⟩
        obtain ⟨-, -, hz3, hW5⟩ := HBX.out w5 (below_then HB1'.out hA5.below)
        obtain ⟨c0, c1⟩ := of_cells2 hz3
        have HA5 := Lib.hid hA5
        have HO := Lib.hid hO
        clear hA5 hO hz3 hW5 HA4 HW4
        go_wp2_with fail
        obtain ⟨kk, hkk⟩ := Int.eq_ofNat_of_zero_le (Int.le_max_left 0 y)
        have hkm : max (max 0 y) 0 = (kk : Int) := by omega
        refine (HA5.out.crash_own HO.out.few.1 HO.out.few.2 (max 0 y) kk hkm y HY.out).mono ?_
        rintro e w6 ⟨rfl, hA6⟩
        have HA6 := Lib.hid hA6
        clear hA6 HA5 c0 c1 hkk hkm
        obtain ⟨m, hmm, hsm, ⟨i, f, hg, hf, hfd⟩, hzm⟩ := out_may HO.out kk y HYA.out HYB.out HSA.out HSB.out
        go_wp2_with fail
        have hs6 := HBX.out w6 (below_then HB1'.out HA6.out.below)
        refine (load_some HA6.out (HG.out.below hs6.2.2.2) i f hg hf (by rw [hfd]; exact Nat.le_trans (enc_small hmm) (by decide))).mono ?_
        rw [hfd, dec_encM hmm, dec_encE hmm]
        rintro e w7 ⟨v, rfl, ⟨p7, c7, rfl, ho7⟩, hb7⟩
        have HA7 := Lib.hid (HA6.out.others hb7)
        have HO7 := Lib.hid ho7
        have HSM := Lib.hid hsm
        clear hs6 hb7 ho7 HA6 hg hf hfd hmm hsm HO
        go_wp2_with fail
        have hb8 := below_new w7 (.cells #[.slice p7 m.segs.length c7, .string m.log, .int .i64 m.next, .int .i64 m.seq] 24)
        have hz8 := heap_new w7 (.cells #[.slice p7 m.segs.length c7, .string m.log, .int .i64 m.next, .int .i64 m.seq] 24)
        generalize w7.alloc (.cells #[.slice p7 m.segs.length c7, .string m.log, .int .i64 m.next, .int .i64 m.seq] 24) = W8 at *
        have HA8 := Lib.hid (HA7.out.others hb8)
        refine (awake_yes W8 (HG.out.below (HBX.out W8 (below_then HB1'.out HA8.out.below)).2.2.2)).mono ?_
        rintro e w9 ⟨rfl, hb9⟩
        have HA9 := Lib.hid (HA8.out.others hb9)
        have HT9 := Lib.hid (HO7.out.at.below (below_then hb8 hb9))
        have hz9 := (hb9.block _ (Array.getElem?_eq_some_iff.1 hz8).1).trans hz8
        obtain ⟨d0, d1, d2, d3⟩ := of_cells4 hz9
        have HZ9 := Lib.hid hz9
        obtain ⟨hza, hzb, -, hW9⟩ := HBX.out w9 (below_then HB1'.out HA9.out.below)
        obtain ⟨a0, a1, a2, a3⟩ := of_cells4 hza
        obtain ⟨b0, b1, b2, b3⟩ := of_cells4 hzb
        have HW9 := Lib.hid hW9
        clear hb8 hz8 hb9 hz9 hza hzb hW9 HA8 HA7 HO7
        have HAT : Hid (MnAt w9 (.agg #[.slice p7 m.segs.length c7, .string m.log, .int .i64 m.next, .int .i64 m.seq]) m) := Lib.hid ⟨p7, c7, rfl, HT9.out⟩
        rcases hzm with ⟨rfl, hm⟩ | ⟨rfl, hm⟩
        · have HS := Lib.hid (same_any m mb _ _ w9 HAT.out (HVB.out.below HW9.out) HSM.out HSB.out)
          rw [hm, sameM_self] at HS
          rw [← hm] at HS
          clear hm
          go_wp2_with fail
          refine HS.out.mono ?_
          rintro e w10 ⟨rfl, hb10⟩
          have HF := Lib.hid (below_then HW9.out hb10)
          clear hb10 d0 d1 d2 d3 a0 a1 a2 a3 b0 b1 b2 b3
          go_wp2_with fail
          go_ret
          exact ⟨rfl, HF.out⟩
        · have HS := Lib.hid (same_any m ma _ _ w9 HAT.out (HVA.out.below HW9.out) HSM.out HSA.out)
          rcases hm with hm | hm
          · rw [hm, sameM_self] at HS
            rw [← hm] at HS
            clear hm
            go_wp2_with fail
            refine HS.out.mono ?_
            rintro e w10 ⟨rfl, hb10⟩
            have HF := Lib.hid (below_then HW9.out hb10)
            clear hb10 d0 d1 d2 d3 a0 a1 a2 a3 b0 b1 b2 b3
            go_wp2_with fail
            go_ret
            exact ⟨rfl, HF.out⟩
          · have HS2 := Lib.hid (fun W (hW : Below w9.heap.size w9 W) => same_any m mb _ _ W (HAT.out.below hW) (HVB.out.below (below_then HW9.out hW)) HSM.out HSB.out)
            rw [hm, sameM_self] at HS2
            rw [← hm] at HS2
            clear hm
            cases hs : sameM m ma with
            | true =>
              rw [hs] at HS
              clear hs
              go_wp2_with fail
              refine HS.out.mono ?_
              rintro e w10 ⟨rfl, hb10⟩
              have HF := Lib.hid (below_then HW9.out hb10)
              clear hb10 d0 d1 d2 d3 a0 a1 a2 a3 b0 b1 b2 b3
              go_wp2_with fail
              go_ret
              exact ⟨rfl, HF.out⟩
            | false =>
              rw [hs] at HS
              clear hs
              go_wp2_with fail
              refine HS.out.mono ?_
              rintro e w10 ⟨rfl, hb10⟩
              have HB10 := Lib.hid hb10
              clear d0 d1 d2 d3 a0 a1 a2 a3 b0 b1 b2 b3
              obtain ⟨d0, d1, d2, d3⟩ := of_cells4 ((hb10.block _ (Array.getElem?_eq_some_iff.1 HZ9.out).1).trans HZ9.out)
              obtain ⟨b0, b1, b2, b3⟩ := of_cells4 (HBX.out w10 (below_then HB1'.out (HA9.out.others hb10).below)).2.1
              clear hb10
              go_wp2_with fail
              refine (HS2.out w10 HB10.out).mono ?_
              rintro e w11 ⟨rfl, hb11⟩
              have HF := Lib.hid (below_then (below_then HW9.out HB10.out) hb11)
              clear hb11 d0 d1 d2 d3 b0 b1 b2 b3
              go_wp2_with fail
              go_ret
              exact ⟨rfl, HF.out⟩
end Mf
end Go.Proofs.YtgpedeagaghpfaaGreatDoor
namespace Go.Proofs.YtgpedeagaghpfaaGreatDoor
set_option linter.unusedVariables false
open Go.ChangeShapes Go.WideShapes Go.ChangeAt Go.RowKit Go.Joins Go.Deep
namespace Mf
section
variable {H : Type} {enc : TypeId × Value → H} {W : World} {base : Nat} {b0 : Nat} {r : Reach}
set_option maxRecDepth 100000 in
theorem open_ints2 {v : Value} {d : DataW H} {p : List MemPlace} (hv : Value.okWide Tryz.prog W r b0 57 v) (h : DataW.Trod enc Tryz.prog W base (fun _ => true) true 57 v d p) :
    ∃ a b : Int, v = .agg #[.int .i64 a, .int .i64 b] ∧ d = .agg [.lit (.int .i64 a), .lit (.int .i64 b)] ∧ (-9223372036854775808 ≤ a ∧ a ≤ 9223372036854775807) ∧ (-9223372036854775808 ≤ b ∧ b ≤ 9223372036854775807) := by
  obtain ⟨n, hn⟩ := h
  have hu : Tryz.prog.underlying 57 = some (.array 2 3) := Tryz.underlying57
  have hc : Tryz.prog.cellsOf 57 = 2 := by kernel_rfl
  have hc1 : Tryz.prog.cellsOf 3 = 1 := by kernel_rfl
  unfold Value.okWide at hv
  rw [hu] at hv
  obtain ⟨cs, rfl, hsz, _⟩ := hv
  rw [hc] at hsz
  obtain ⟨c0, c1, rfl⟩ := array2 hsz
  obtain ⟨xs, m, _, hx, _, hlen, hel⟩ := DataW.trod_array hu hn
  rw [hc1] at hel
  have e0 := hel 0 (by decide)
  have e1 := hel 1 (by decide)
  match xs, hlen with
  | [y0, y1], _ =>
    simp [Value.cells] at e0 e1
    obtain ⟨a, h0, h0', w0⟩ := DataW.trod_int Tryz.underlying3 e0
    obtain ⟨b, h1, h1', w1⟩ := DataW.trod_int Tryz.underlying3 e1
    obtain rfl : c0 = .int .i64 a := by simpa using h0
    obtain rfl : c1 = .int .i64 b := by simpa using h1
    have xa : -9223372036854775808 ≤ a ∧ a ≤ 9223372036854775807 := by simpa [Lit.wf, show IntKind.i64.min = -9223372036854775808 from rfl] using w0
    have xb : -9223372036854775808 ≤ b ∧ b ≤ 9223372036854775807 := by simpa [Lit.wf, show IntKind.i64.min = -9223372036854775808 from rfl] using w1
    subst h0' h1'
    simp at hx
    exact ⟨a, b, rfl, hx.1, xa, xb⟩
end
end Mf
end Go.Proofs.YtgpedeagaghpfaaGreatDoor
namespace Go.Proofs.YtgpedeagaghpfaaGreatDoor.manifestWhole
open Go.ChangeShapes Go.WideShapes Go.ChangeAt Go.RowKit Go.Proofs.YtgpedeagaghpfaaGreatDoor
open Go.ChangeMaps (open_string shut_string)
open Mf
set_option linter.unusedVariables false

theorem own : ownKnob Tryz.prog.godebug = none := by kernel_rfl
theorem laidOut : laidOutB Tryz.prog = true := by kernel_rfl

/-! ### The walk -/
set_option maxHeartbeats 2000000 in
set_option maxRecDepth 100000 in
theorem walk (v0 : Value) (x0 : Mn) (v1 : Value) (x1 : Mn) (a2 b2 : Int) (w : World) (i0 : MnAt w v0 x0) (s0 : Small x0) (i1 : MnAt w v1 x1) (s1 : Small x1) (w2 : -9223372036854775808 ≤ a2 ∧ a2 ≤ 9223372036854775807) (z2 : -9223372036854775808 ≤ b2 ∧ b2 ≤ 9223372036854775807) (G : Gh w) :
    Calls Tryz.prog 5 #[v0, v1, .agg #[.int .i64 a2, .int .i64 b2]] w fun e w' => e = .returned (.bool true) ∧ Below w.heap.size w w' := by
  exact whole_walk x0 x1 v0 v1 a2 b2 w i0 i1 s0 s1 w2 z2 G

theorem toLen (s : ByteArray) : s.data.toList.length = s.size := by rw [Array.length_toList]; rfl

/-! ### The row -/
set_option maxRecDepth 100000 in
theorem contract (H : Type) (enc : TypeId × Value → H) (W : World) (base : Nat) (args : Array Value) (ds gs : List (DataW H)) (before : List MemPlace)
    (hval0 : ∀ (j : Nat) t v, Tryz.f5.params[j]? = some t → args[j]? = some v → Value.okWide Tryz.prog W .any base t v)
    (hW : DataW.Whole enc Tryz.prog Tryz.f5.params.toList Rows.manifestWholeSpec.vars false W args.toList ds gs before) (hsz : Rows.uptoSmall H (ds ++ gs) = true) (hsz0 : (DataW.weightsEach Tryz.prog (Tryz.f5.params.toList ++ Rows.manifestWholeSpec.plain.varTypes Tryz.prog) (ds ++ gs)).all (· ≤ reachBytes) = true)
    (hL0 : laidMetH Tryz.prog Rows.manifestWholeUptoRow.laid W) (hsh : W.ShapedOpen Tryz.prog) :
    Calls Tryz.prog 5 args W fun e W' => ∃ v, e = .returned v ∧ Rows.manifestWholeSpec.post enc Tryz.prog Tryz.f5 false true false false W args v W' := by
  have hL := hL0
  rw [MakeChecks.laidMetH_plain _ _ _ (by kernel_rfl)] at hL
  have G : Gh W := gh_of hsh hL
  clear hL hL0
  have hval : ∀ (j : Nat) t v, Tryz.f5.params[j]? = some t → args[j]? = some v → Value.okWide Tryz.prog W .any base t v := hval0
  have hW' := hW
  obtain ⟨p, q, hA0, hV, rfl, hfz, hnd⟩ := hW
  have hA : DataW.TrodAll enc Tryz.prog W 0 (fun _ => true) true Tryz.f5.params.toList args.toList ds p := hA0
  rw [Tryz.params5] at hA hval
  obtain ⟨v0, vs0, d0, ds0, p0, q0, hargs, rfl, rfl, h0, r0⟩ := trodAll_cons hA
  obtain ⟨v1, vs1, d1, ds1, p1, q1, rfl, rfl, rfl, h1, r1⟩ := trodAll_cons r0
  obtain ⟨v2, vs2, d2, ds2, p2, q2, rfl, rfl, rfl, h2, r2⟩ := trodAll_cons r1
  obtain ⟨rfl, rfl, rfl⟩ := trodAll_nil r2
  obtain rfl : args = #[v0, v1, v2] := by cases args; simp_all
  obtain ⟨rfl, rfl⟩ := trodVars_none hV
  have k0 := h0
  have lt0 : ∀ x ∈ p0, x.block < W.heap.size := by obtain ⟨m, hm⟩ := k0; exact DataW.trod_lt m _ _ _ hm
  obtain ⟨x0, i0, sm0⟩ := open_mn (hval 0 24 v0 rfl rfl) h0
  have k1 := h1
  have lt1 : ∀ x ∈ p1, x.block < W.heap.size := by obtain ⟨m, hm⟩ := k1; exact DataW.trod_lt m _ _ _ hm
  obtain ⟨x1, i1, sm1⟩ := open_mn (hval 1 24 v1 rfl rfl) h1
  have k2 := h2
  have lt2 : ∀ x ∈ p2, x.block < W.heap.size := by obtain ⟨m, hm⟩ := k2; exact DataW.trod_lt m _ _ _ hm
  obtain ⟨a2, b2, rfl, rfl, w2, z2⟩ := open_ints2 (hval 2 57 v2 rfl rfl) h2
  have s0 : Small x0 := sm0 (by
    have h := of_decide_eq_true hsz
    simp only [List.append_nil, Rows.uptoBulkAll, Rows.uptoBulk] at h
    omega)
  have s1 : Small x1 := sm1 (by
    have h := of_decide_eq_true hsz
    simp only [List.append_nil, Rows.uptoBulkAll, Rows.uptoBulk] at h
    omega)
  clear hA0 hval0 hsz0
  refine (walk v0 x0 v1 x1 a2 b2 W i0 s0 i1 s1 w2 z2 G).mono fun e W' ⟨he, bel⟩ => ?_
  subst he
  exact ⟨_, rfl, _, _, _, [], _, [], hW', trodAll_mk1 (shut_bool Tryz.underlying4 _), (trodAll_cons_mk (Below.trod laidOut (by kernel_rfl) (of_decide_eq_true (by kernel_rfl)) k0 bel lt0) (trodAll_cons_mk (Below.trod laidOut (by kernel_rfl) (of_decide_eq_true (by kernel_rfl)) k1 bel lt1) (trodAll_cons_mk (Below.trod laidOut (by kernel_rfl) (of_decide_eq_true (by kernel_rfl)) k2 bel lt2) trodAll_mk0))), rfl, bel.frame _, fun h => by cases h⟩

/-! ### A world that fits -/
noncomputable def laidWorld (os : Os) : World := World.laidAll Tryz.prog os Rows.manifestWholeUptoRow.laid
theorem laid_met (os : Os) : laidMetH Tryz.prog Rows.manifestWholeUptoRow.laid ((laidWorld os).forCall (fun _ _ => 0) ⟨#[], #[.agg #[.slice none 0 0, .string ByteArray.empty, .int .i64 0, .int .i64 0], .agg #[.slice none 0 0, .string ByteArray.empty, .int .i64 0, .int .i64 0], .agg #[.int .i64 0, .int .i64 0]], []⟩).memory := by
  rw [MakeChecks.laidMetH_plain _ _ _ (by kernel_rfl)]
  exact laidMet_laidAll _ (by kernel_rfl) (by kernel_rfl)
theorem reads (os : Os) {H : Type} (enc : TypeId × Value → H) : ∃ places, DataW.whole enc Tryz.prog ((laidWorld os).forCall (fun _ _ => 0) ⟨#[], #[.agg #[.slice none 0 0, .string ByteArray.empty, .int .i64 0, .int .i64 0], .agg #[.slice none 0 0, .string ByteArray.empty, .int .i64 0, .int .i64 0], .agg #[.int .i64 0, .int .i64 0]], []⟩).memory Tryz.f5.params.toList Rows.manifestWholeSpec.vars false #[.agg #[.slice none 0 0, .string ByteArray.empty, .int .i64 0, .int .i64 0], .agg #[.slice none 0 0, .string ByteArray.empty, .int .i64 0, .int .i64 0], .agg #[.int .i64 0, .int .i64 0]].toList 8 = some ([.agg [.nil, .lit (.string []), .lit (.int .i64 0), .lit (.int .i64 0)], .agg [.nil, .lit (.string []), .lit (.int .i64 0), .lit (.int .i64 0)], .agg [.lit (.int .i64 0), .lit (.int .i64 0)]], [], places) :=
  ⟨[], by kernel_rfl⟩
theorem shaped (os : Os) : ((laidWorld os).forCall (fun _ _ => 0) ⟨#[], #[.agg #[.slice none 0 0, .string ByteArray.empty, .int .i64 0, .int .i64 0], .agg #[.slice none 0 0, .string ByteArray.empty, .int .i64 0, .int .i64 0], .agg #[.int .i64 0, .int .i64 0]], []⟩).Shaped Tryz.prog := World.shaped_of_ZipB (by kernel_rfl) (by kernel_rfl)
set_option maxRecDepth 100000 in
theorem lifted (os : Os) (started : os.Started) (H : Type) (enc : TypeId × Value → H) (F : Stop.Interp) :
    ReturnsInHanded {} Tryz.checked os 5 .any ((Rows.OpenSpec.upto Rows.manifestWholeSpec).preRow enc Tryz.prog Tryz.f5 Rows.manifestWholeUptoRow.domain false Rows.manifestWholeUptoRow.laid) (((Rows.OpenSpec.upto Rows.manifestWholeSpec).at F).post enc Tryz.prog Tryz.f5 false true false false) := by
  obtain ⟨places, hx⟩ := reads os enc
  refine returnsInHanded_of_row (C := Tryz.checked) (s := (Rows.OpenSpec.upto Rows.manifestWholeSpec)) own started (by kernel_rfl) Tryz.func5
    ⟨laidWorld os, fun _ _ => 0, ⟨#[], #[.agg #[.slice none 0 0, .string ByteArray.empty, .int .i64 0, .int .i64 0], .agg #[.slice none 0 0, .string ByteArray.empty, .int .i64 0, .int .i64 0], .agg #[.int .i64 0, .int .i64 0]], []⟩, World.laidAll_os _ _ _, shaped os, rfl, (Input.okWide_of_okWideB (by kernel_rfl)).2,
      OpenSpec.preRow_of_cond 8 hx (by kernel_rfl) (fun k hk => by cases hk; kernel_rfl) (by kernel_rfl) (laid_met os), by simp [Assume.holds]⟩ ?_
  intro W base args ds gs before hval hW _ hk hz hL hsh _
  exact contract H enc W base args ds gs before hval hW (hk _ rfl) hz hL hsh
theorem said : Rows.ManifestWholeUptoSaid :=
  OpenClaim.holds_of_cond 5 Tryz.f5 rfl rfl rfl rfl rfl rfl rfl ⟨rfl, rfl, rfl, rfl, rfl⟩ rfl rfl rfl rfl rfl (by kernel_rfl) Tryz.func5 (by kernel_rfl)
    (of_decide_eq_true (by kernel_rfl)) (by unfold Func.isWrapper; first | (rw [if_pos (by decide +kernel)]; kernel_rfl) | (rw [if_neg (by decide +kernel)]; exact ⟨rfl, rfl⟩))
    (fun os started H enc _ F => by rw [OpenClaim.pre_eq_preRow]; exact lifted os started H enc F)
theorem plain (f : FuncId) (fn : Func) (hf : Tryz.pinned.checked.prog.funcNamed "lodestar/lodestarlaw11.ManifestWhole" = some f) (hfn : Tryz.pinned.checked.prog.funcs[f]? = some fn) :
    true = Tryz.pinned.checked.prog.looks [] ∧ ∀ (j : Nat) t, fn.params[j]? = some t → Tryz.pinned.checked.prog.wantsStandIn t = false := by
  obtain rfl : f = 5 := Option.some.inj ((show Tryz.prog.funcNamed "lodestar/lodestarlaw11.ManifestWhole" = some 5 by kernel_rfl).symm.trans hf) |>.symm
  obtain rfl : fn = Tryz.f5 := (Option.some.inj (Tryz.func5.symm.trans hfn)).symm
  refine ⟨by kernel_rfl, fun j t ht => ?_⟩
  rw [Tryz.params5] at ht
  have hm : t ∈ [24, 24, 57] := by simpa using Array.mem_of_getElem? ht
  have hall : ([24, 24, 57].all fun u => !Tryz.prog.wantsStandIn u) = true := by kernel_rfl
  exact (show Tryz.prog.wantsStandIn t = false by simpa using List.all_eq_true.1 hall t hm)

/-- The statement. -/
theorem proved : Rows.ManifestWholeUptoCardSaid :=
  Claim7.holds_tied_plain_at .later [] _ _ _ _ said (fun _ h => by cases h) (by kernel_rfl) (fun _ h => by cases h) manifestWholeUpto_row_tie rfl ⟨rfl, rfl⟩ (by kernel_rfl) rfl plain (by kernel_rfl)
#print axioms proved
end Go.Proofs.YtgpedeagaghpfaaGreatDoor.manifestWhole
