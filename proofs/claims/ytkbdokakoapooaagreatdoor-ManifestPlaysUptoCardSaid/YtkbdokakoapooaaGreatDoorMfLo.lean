/- The manifest that each of both disks tells. Conditions: those that each theorem names. -/
import Derived.Test.YtkbdokakoapooaaGreatDoorMfPr
namespace Go.Proofs.YtkbdokakoapooaaGreatDoor
set_option linter.unusedVariables false
open Go Go.RowKit Go.Shelf Go.Sort Dk
theorem AtB.at {w0 w : World} {A : Nat} {D : DSt} {X : Nat → Prop} (h : AtB w0 A D X w) : At w0 A D w := let ⟨ρ, fb, h1, h2, _, h4⟩ := h; ⟨ρ, fb, h1, h2, h4⟩
namespace Mf
/-- What Load tells of a disk. -/
def ldM (D : DSt) : Mn := match nmGet D.names nMan with | none => Mn.zero | some _ => decM (readD D nMan)
def ldB (D : DSt) : Bool := match nmGet D.names nMan with | none => false | some _ => decide (decE (readD D nMan) = 0)
def ldE (D : DSt) : Int := match nmGet D.names nMan with | none => 0 | some _ => decE (readD D nMan)
section
variable {w0 w : World} {A B : Nat} {X Y : Nat → Prop} {D D' : DSt} {M : RSt} {c k : Nat} {φ : Nat → Nat}
theorem readD_some {D : DSt} {i : Nat} {f : FileC} (hg : nmGet D.names nMan = some i) (hf : D.files[i]? = some f) : readD D nMan = tx f.data := by
  unfold readD
  rw [if_neg (by rw [nMan_full]; decide), hg, (fileD_at hg hf).1]; rfl
theorem pload_any (h : AtB w0 A D X w) (hq : DataB 1048576 D) (G : Gh w) :
    Calls Tryz.prog 47 #[pD A] w fun e w' => ∃ v, e = .returned (.tuple #[v, .bool (ldB D), .int .i64 (ldE D)]) ∧ MnOwn w' w.heap.size v (ldM D) ∧ Below w.heap.size w w' := by
  unfold ldM ldB ldE
  cases hg : nmGet D.names nMan with
  | none => exact (load_none h.at hg).mono fun e w' ⟨he, hb⟩ => ⟨zeroV, he, zeroV_own _ _, hb⟩
  | some i =>
    obtain ⟨hf, -⟩ := h.file hg
    have e := readD_some hg hf
    have := load_some h.at G i _ hg hf (Nat.le_trans (hq _ (List.mem_of_getElem? hf)) (by decide))
    rw [← e] at this
    exact this
set_option maxHeartbeats 2000000 in
set_option maxRecDepth 100000 in
theorem rload_any (h : Two w0 A B Y D' M w) (tw : Dk.Twin φ D M) (b : DBd c k D) (bm : MBd c k M) (hk : k ≤ 1048577) (hq : DataB 1048576 D) :
    Calls Tryz.prog 48 #[pD B] w fun e w' => ∃ v, e = .returned (.tuple #[v, .bool (ldB D), .int .i64 (ldE D)]) ∧ MnOwn w' w.heap.size v (ldM D) ∧ Below w.heap.size w w' := by
  have hnm : M.now.length ≤ maxLen := by have := (bd_ok b bm tw hk).2.1; unfold maxLen; omega
  have HH : Hid (∀ W, Below w.heap.size w W → Calls Tryz.prog 41 #[pD B, .string nMan] W fun e w' => e = .returned (.bool (decide (askE M nMan = 0))) ∧ w' = W) := Lib.hid fun W hW => by
    obtain ⟨X, _, h2, _⟩ := h.others hW
    rw [← hasR_ask M nMan nMan_full]
    exact rhas_any M nMan W h2 hnm
  rw [tw.ask] at HH
  have HR : Hid (∀ W, Below w.heap.size w W → Calls Tryz.prog 10 #[pD B, .string nMan] W fun e w' => e = .returned (.tuple #[.string (readD D nMan), .int .i64 (askD D nMan)]) ∧ w' = W) := Lib.hid fun W hW => (h.others hW).rRead tw hnm nMan
  have hb0 := below_new w (.cells #[.slice none 0 0, .string ⟨#[]⟩, .int .i64 0, .int .i64 0] 61)
  have hz0 := heap_new w (.cells #[.slice none 0 0, .string ⟨#[]⟩, .int .i64 0, .int .i64 0] 61)
  have HB := Lib.hid hb0
  have HZ0 := Lib.hid hz0
  have HS0 : Hid ((w.alloc (.cells #[.slice none 0 0, .string ⟨#[]⟩, .int .i64 0, .int .i64 0] 61)).heap.size = w.heap.size + 1) := Lib.hid (by simp)
  unfold nMan at HH HR
  unfold ldM ldB ldE
  have hlen : ∀ (i : Nat), nmGet D.names nMan = some i → (readD D nMan).size ≤ 1048576 ∧ askD D nMan = 0 := fun i hg => by
    obtain ⟨f, hf, _, _⟩ := tw.file_at hg
    refine ⟨by rw [readD_some hg hf, tx_size]; exact hq _ (List.mem_of_getElem? hf), ?_⟩
    unfold askD
    rw [if_neg (by rw [nMan_full]; decide), hg]
  cases hg : nmGet D.names nMan with
  | none =>
    have ha : askD D nMan = 20 := by unfold askD; rw [if_neg (by rw [nMan_full]; decide), hg]
    have ha' : decide (askD D nMan = 0) = false := by rw [ha]; rfl
    unfold nMan at ha'
    rw [ha'] at HH
    have HST : Hid (∀ a b c d, Below w.heap.size w (((((w.alloc (.cells #[.slice none 0 0, .string ⟨#[]⟩, .int .i64 0, .int .i64 0] 61)).setCell ⟨w.heap.size, 0, none⟩ a).setCell ⟨w.heap.size, 1, none⟩ b).setCell ⟨w.heap.size, 2, none⟩ c).setCell ⟨w.heap.size, 3, none⟩ d)) := Lib.hid (fun a b c d =>
      (((hb0.setCell (p := ⟨w.heap.size, 0, none⟩) (Nat.le_refl _) _).setCell (p := ⟨w.heap.size, 1, none⟩) (Nat.le_refl _) _).setCell (p := ⟨w.heap.size, 2, none⟩) (Nat.le_refl _) _).setCell (p := ⟨w.heap.size, 3, none⟩) (Nat.le_refl _) _)
    obtain ⟨g0, g1, g2, g3⟩ := of_cells4 hz0
    have f0 := Lib.frozen_of_heap hz0 0
    have f1 := Lib.frozen_of_heap hz0 1
    have f2 := Lib.frozen_of_heap hz0 2
    have f3 := Lib.frozen_of_heap hz0 3
    clear hb0 hz0 hg ha ha' hlen HR hnm h
    go_enter Tryz.func48, Tryz.ntmps48
    go_wp2_with fail
    generalize w.alloc (.cells #[.slice none 0 0, .string ⟨#[]⟩, .int .i64 0, .int .i64 0] 61) = W0 at *
    refine (HH.out W0 HB.out).mono ?_
    rintro e w1 ⟨rfl, rfl⟩
    go_wp2_with fail
    exact bodyPost_ret (v := .tuple #[.agg #[.slice none 0 0, .string ⟨#[]⟩, .int .i64 0, .int .i64 0], .bool false, .int .i64 0]) (by simp [results, Tryz.results48, go_sem, g0, g1, g2, g3]) rfl ⟨_, rfl, zeroV_own _ _, HST.out _ _ _ _⟩
  | some i =>
    obtain ⟨hsz, ha⟩ := hlen i hg
    have ha' : decide (askD D nMan = 0) = true := by rw [ha]; rfl
    unfold nMan at ha ha' hsz
    rw [ha'] at HH
    rw [ha] at HR
    have HD := Lib.hid (fun W => rdecode_any _ W hsz)
    have htw := decE_two (readD D ⟨#[109, 97, 110, 105, 102, 101, 115, 116]⟩)
    simp only
    have e1 : readD D nMan = readD D ⟨#[109, 97, 110, 105, 102, 101, 115, 116]⟩ := rfl
    rw [e1]
    generalize readD D ⟨#[109, 97, 110, 105, 102, 101, 115, 116]⟩ = t at *
    generalize decE t = de at *
    generalize decM t = dm at *
    clear hb0 hz0 hg ha ha' hlen hnm h hsz e1
    go_enter Tryz.func48, Tryz.ntmps48
    go_wp2_with fail
    generalize w.alloc (.cells #[.slice none 0 0, .string ⟨#[]⟩, .int .i64 0, .int .i64 0] 61) = W0 at *
    refine (HH.out W0 HB.out).mono ?_
    rintro e w1 ⟨rfl, rfl⟩
    go_wp2_with fail
    refine (HR.out _ HB.out).mono ?_
    rintro e w1 ⟨rfl, rfl⟩
    go_wp2_with fail
    refine (HD.out _).mono ?_
    clear HD HR HH
    rintro e w2 ⟨v, rfl, ⟨p, c', rfl, ho⟩, hb2⟩
    rw [HS0.out] at ho
    have hz2 := (hb2.block _ (Array.getElem?_eq_some_iff.1 HZ0.out).1).trans HZ0.out
    have HB2 := Lib.hid (below_then HB.out hb2)
    have HO := Lib.hid ho
    have hz3 : ∀ o, (w2.alloc o).heap[w.heap.size]? = some (.cells #[.slice none 0 0, .string ⟨#[]⟩, .int .i64 0, .int .i64 0] 61 (0, 0)) := fun o => (heap_old w2 o (Array.getElem?_eq_some_iff.1 hz2).1).trans hz2
    have g0 : ∀ o, (w2.alloc o).cell? ⟨w.heap.size, 0, none⟩ = some (.slice none 0 0) := fun o => (of_cells4 (hz3 o)).1
    have g1 : ∀ o, (w2.alloc o).cell? ⟨w.heap.size, 1, none⟩ = some (.string ⟨#[]⟩) := fun o => (of_cells4 (hz3 o)).2.1
    have g2 : ∀ o, (w2.alloc o).cell? ⟨w.heap.size, 2, none⟩ = some (.int .i64 0) := fun o => (of_cells4 (hz3 o)).2.2.1
    have g3 : ∀ o, (w2.alloc o).cell? ⟨w.heap.size, 3, none⟩ = some (.int .i64 0) := fun o => (of_cells4 (hz3 o)).2.2.2
    have f0 : ∀ o, (w2.alloc o).frozen? ⟨w.heap.size, 0, none⟩ = false := fun o => Lib.frozen_of_heap (hz3 o) 0
    have f1 : ∀ o, (w2.alloc o).frozen? ⟨w.heap.size, 1, none⟩ = false := fun o => Lib.frozen_of_heap (hz3 o) 1
    have f2 : ∀ o, (w2.alloc o).frozen? ⟨w.heap.size, 2, none⟩ = false := fun o => Lib.frozen_of_heap (hz3 o) 2
    have f3 : ∀ o, (w2.alloc o).frozen? ⟨w.heap.size, 3, none⟩ = false := fun o => Lib.frozen_of_heap (hz3 o) 3
    have HST : Hid (∀ o a b c d, Below w.heap.size w (((((w2.alloc o).setCell ⟨w.heap.size, 0, none⟩ a).setCell ⟨w.heap.size, 1, none⟩ b).setCell ⟨w.heap.size, 2, none⟩ c).setCell ⟨w.heap.size, 3, none⟩ d)) := Lib.hid (fun o a b c d =>
      ((((below_then HB2.out (below_new w2 o)).setCell (p := ⟨w.heap.size, 0, none⟩) (Nat.le_refl _) _).setCell (p := ⟨w.heap.size, 1, none⟩) (Nat.le_refl _) _).setCell (p := ⟨w.heap.size, 2, none⟩) (Nat.le_refl _) _).setCell (p := ⟨w.heap.size, 3, none⟩) (Nat.le_refl _) _)
    have HTT : Hid (∀ o a b c'' d, OwnT (((((w2.alloc o).setCell ⟨w.heap.size, 0, none⟩ a).setCell ⟨w.heap.size, 1, none⟩ b).setCell ⟨w.heap.size, 2, none⟩ c'').setCell ⟨w.heap.size, 3, none⟩ d) (w.heap.size + 1) (.slice p dm.segs.length c') dm.segs) := Lib.hid (fun o a b c'' d =>
      ownT_set (ownT_set (ownT_set (ownT_set (ownT_kept HO.out (below_new w2 o)) (by omega)) (by omega)) (by omega)) (by omega))
    clear hb2 ho hz2
    rcases htw with rfl | rfl
    all_goals
      go_wp2_with fail
    · exact bodyPost_ret (v := .tuple #[.agg #[.slice p dm.segs.length c', .string dm.log, .int .i64 dm.next, .int .i64 dm.seq], .bool true, .int .i64 0]) (by simp [results, Tryz.results48, go_sem, g0, g1, g2, g3]) rfl ⟨_, rfl, ⟨p, c', rfl, ownT_base (HTT.out _ _ _ _ _) (by omega)⟩, HST.out _ _ _ _ _⟩
    · exact bodyPost_ret (v := .tuple #[.agg #[.slice p dm.segs.length c', .string dm.log, .int .i64 dm.next, .int .i64 dm.seq], .bool false, .int .i64 110]) (by simp [results, Tryz.results48, go_sem, g0, g1, g2, g3]) rfl ⟨_, rfl, ⟨p, c', rfl, ownT_base (HTT.out _ _ _ _ _) (by omega)⟩, HST.out _ _ _ _ _⟩
end
end Mf
end Go.Proofs.YtkbdokakoapooaaGreatDoor
