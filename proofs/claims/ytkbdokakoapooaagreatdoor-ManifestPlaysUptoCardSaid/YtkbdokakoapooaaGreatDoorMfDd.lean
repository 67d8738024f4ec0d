/- Calls of package disk that meet a fault, and Remove where it is deferred, for a law that holds one disk of its own. Conditions: those that each theorem names. -/
import Derived.Test.YtkbdokakoapooaaGreatDoorGaF
import Derived.Defers
namespace Go.Proofs.YtkbdokakoapooaaGreatDoor
set_option linter.unusedVariables false
open Go Go.RowKit Dk
section
variable {w0 w : World} {A : Nat} {D : DSt}
theorem At.syncNames_hit (h : At w0 A D w) (h0 : 0 ≤ D.steps) (h1 : D.steps ≤ 4611686018427387904) (fa fk fn : Int) (hm : D.hit = some (fa, fk, fn)) :
    Calls Tryz.prog 39 #[.pointer (some ⟨A, 0, none⟩)] w fun e w' => e = .returned (.int .i64 (hitErr (fa, fk, fn))) ∧ At w0 A D.tick w' :=
  let ⟨ρ, fb, hd, hl, hb⟩ := h; (Go.Proofs.YtkbdokakoapooaaGreatDoor.syncNames_hit A D ρ fb w hd h0 h1 fa fk fn hm).mono fun _ _ ⟨he, hk⟩ => ⟨he, at_kept hd hl hb hk.kept⟩
theorem At.sync_hit (h : At w0 A D w) (h0 : 0 ≤ D.steps) (h1 : D.steps ≤ 4611686018427387904) (s : ByteArray) (hl : s.size ≤ maxLen) (hs : s.toList.isEmpty = false) (i : Nat) (f : FileC) (hg : nmGet D.names s = some i) (hf : D.files[i]? = some f) (fa fk fn : Int) (hm : D.hit = some (fa, fk, fn)) :
    Calls Tryz.prog 77 #[.pointer (some ⟨A, 0, none⟩), .string s] w fun e w' => e = .returned (.int .i64 (hitErr (fa, fk, fn))) ∧ At w0 A D.tick w' :=
  let ⟨ρ, fb, hd, hlo, hb⟩ := h; (Go.Proofs.YtkbdokakoapooaaGreatDoor.sync_hit A D ρ fb w hd h0 h1 s hl hs i f hg hf fa fk fn hm).mono fun _ _ ⟨he, hk⟩ => ⟨he, at_kept hd hlo hb hk.kept⟩
theorem At.rename_hit (h : At w0 A D w) (h0 : 0 ≤ D.steps) (h1 : D.steps ≤ 4611686018427387904) (s t : ByteArray) (hl : s.size ≤ maxLen) (hs : s.toList.isEmpty = false) (ht : t.toList.isEmpty = false) (i : Nat) (hg : nmGet D.names s = some i) (fa fk fn : Int) (hm : D.hit = some (fa, fk, fn)) :
    Calls Tryz.prog 78 #[.pointer (some ⟨A, 0, none⟩), .string s, .string t] w fun e w' => e = .returned (.int .i64 (hitErr (fa, fk, fn))) ∧ At w0 A D.tick w' :=
  let ⟨ρ, fb, hd, hlo, hb⟩ := h; (Go.Proofs.YtkbdokakoapooaaGreatDoor.rename_hit A D ρ fb w hd h0 h1 s t hl hs ht i hg fa fk fn hm).mono fun _ _ ⟨he, hk⟩ => ⟨he, at_kept hd hlo hb hk.kept⟩
end
set_option maxHeartbeats 400000 in
theorem removeD_none (A : Nat) (D : DSt) (ρ : Nat → Nat × Nat) (fb : List Nat) (w : World) (h : DiskAt w A D ρ fb) (s : ByteArray) (hl : s.size ≤ maxLen) (hs : s.toList.isEmpty = false) (hg : nmGet D.names s = none) (u : FrameMode) :
    CallsD Tryz.prog 37 #[.pointer (some ⟨A, 0, none⟩), .string s] u w fun e u' w' => u' = u ∧ (e = .returned (.int .i64 20) ∧ w = w') := by
  have HC := Lib.hid (stepAt_none A D ρ fb w h s hl hs hg)
  clear h hl hs hg
  go_enter_d Tryz.func37, Tryz.ntmps37
  go_wp2_with (go_at_call 74; refine (HC.out).mono ?_; rintro e w' ⟨rfl, rfl⟩)
  go_ret
  exact ⟨rfl, rfl⟩
set_option maxHeartbeats 1000000 in
theorem removeD_miss (A : Nat) (D : DSt) (ρ : Nat → Nat × Nat) (fb : List Nat) (w : World) (h : DiskAt w A D ρ fb) (h0 : 0 ≤ D.steps) (h1 : D.steps ≤ 4611686018427387904) (hnm : D.names.length ≤ 1099511627776) (hop : D.opn.length ≤ 1099511627776)
    (s : ByteArray) (hl : s.size ≤ maxLen) (hs : s.toList.isEmpty = false) (i : Nat) (hg : nmGet D.names s = some i) (hm : D.hit = none) (u : FrameMode) :
    CallsD Tryz.prog 37 #[.pointer (some ⟨A, 0, none⟩), .string s] u w fun e u' w' => u' = u ∧ (e = .returned (.int .i64 0) ∧ Led w A (D.tick.relink [(s, none)]) ρ fb w') := by
  have hi : i < fb.length := by rw [h.files.1]; exact (h.ok.named _ ((nmGet_some h.ok.sorted).1 hg)).2
  have HT := Lib.hid (stepAt_miss A D ρ fb w h h0 h1 s hl hs i _ hg (List.getElem?_eq_getElem hi) hm)
  clear h h0 h1 hg hm
  go_enter_d Tryz.func37, Tryz.ntmps37
  go_wp2_with fail
  refine (HT.out).mono ?_
  rintro e w1 ⟨rfl, hD, hf⟩
  have hR := fun o => relink_any A D.tick ρ fb (w1.alloc o) (hD.alloc o) [(s, none)] (by
    intro x hx
    simp only [List.mem_cons, List.not_mem_nil, or_false] at hx
    subst hx
    exact ⟨hl, fun i h => by cases h⟩) (by simp) hnm hop w1.heap.size
  have hc : ([(s, none)] : List (Nm × Option Nat)).flatMap (linkCells fb) = [.string s, .pointer none] := by simp [linkCells, ptrV]
  rw [hc] at hR
  have hR' := hR (.cells #[.string s, .pointer none] 151) (heap_alloc_new _ _) (hD.out _ (Nat.le_refl _))
  have HR := Lib.hid hR'
  have HF := Lib.hid (hf.alloc hD.out (.cells #[.string s, .pointer none] 151))
  clear hR hR' hc hD hf
  go_wp2_with fail
  refine (HR.out).mono ?_
  rintro e w2 ⟨rfl, ρ2, hD2, hf2⟩
  have HD2 := Lib.hid hD2
  have HF2 := Lib.hid hf2
  clear hD2 hf2
  go_wp2
  go_ret
  exact ⟨rfl, ρ2, HD2.out, HF.out.trans HF2.out⟩
section
variable {w0 w : World} {A : Nat} {D : DSt}
theorem At.removeD_none (h : At w0 A D w) (s : ByteArray) (hl : s.size ≤ maxLen) (hs : s.toList.isEmpty = false) (hg : nmGet D.names s = none) (u : FrameMode) :
    CallsD Tryz.prog 37 #[.pointer (some ⟨A, 0, none⟩), .string s] u w fun e u' w' => u' = u ∧ (e = .returned (.int .i64 20) ∧ At w0 A D w') :=
  let ⟨ρ, fb, h1, _, _⟩ := h; (Go.Proofs.YtkbdokakoapooaaGreatDoor.removeD_none A D ρ fb w h1 s hl hs hg u).mono fun _ _ _ ⟨hu, he, hw⟩ => ⟨hu, he, hw ▸ h⟩
theorem At.removeD_miss (h : At w0 A D w) (h0 : 0 ≤ D.steps) (h1 : D.steps ≤ 4611686018427387904) (hnm : D.names.length ≤ 1099511627776) (hop : D.opn.length ≤ 1099511627776)
    (s : ByteArray) (hl : s.size ≤ maxLen) (hs : s.toList.isEmpty = false) (i : Nat) (hg : nmGet D.names s = some i) (hm : D.hit = none) (u : FrameMode) :
    CallsD Tryz.prog 37 #[.pointer (some ⟨A, 0, none⟩), .string s] u w fun e u' w' => u' = u ∧ (e = .returned (.int .i64 0) ∧ At w0 A (D.tick.relink [(s, none)]) w') :=
  let ⟨ρ, fb, hd, hlo, hb⟩ := h; (Go.Proofs.YtkbdokakoapooaaGreatDoor.removeD_miss A D ρ fb w hd h0 h1 hnm hop s hl hs i hg hm u).mono fun _ _ _ ⟨hu, he, hk⟩ => ⟨hu, he, at_kept hd hlo hb hk.kept⟩
end
/-- What a call does, whatever frame it is called from. -/
def RemoveD (A : Nat) (s : ByteArray) (w : World) (Q : World → Prop) : Prop :=
  ∀ u, CallsD Tryz.prog 37 #[.pointer (some ⟨A, 0, none⟩), .string s] u w fun e u' w' => u' = u ∧ ((∃ x : Int, e = .returned (.int .i64 x)) ∧ Q w')
end Go.Proofs.YtkbdokakoapooaaGreatDoor
