/- The document's Open of a log: what it tells is what the program tells. Conditions: those that each theorem names. -/
import Derived.Test.YtioidkbpjkcjeaaGreatDoorWlRd
namespace Go.Proofs.YtioidkbpjkcjeaaGreatDoor
set_option linter.unusedVariables false
open Go Go.RowKit Dk
namespace Wl
def tailD (D : DSt) (s : ByteArray) : OpR :=
  if (scan 0 s.data.toList).err = 90 then ⟨90, [], 0, D⟩ else
  if (settleD D ((scan 0 s.data.toList).size : Int) (decide ((scan 0 s.data.toList).err = 91))).1 ≠ 0 then ⟨(settleD D ((scan 0 s.data.toList).size : Int) (decide ((scan 0 s.data.toList).err = 91))).1, [], 0, (settleD D ((scan 0 s.data.toList).size : Int) (decide ((scan 0 s.data.toList).err = 91))).2⟩ else
  ⟨0, (scan 0 s.data.toList).recs, (scan 0 s.data.toList).size, (settleD D ((scan 0 s.data.toList).size : Int) (decide ((scan 0 s.data.toList).err = 91))).2⟩
def tailR (D : DSt) (M : RSt) (s : ByteArray) : RSt :=
  if (scan 0 s.data.toList).err = 90 then M else settleR D M ((scan 0 s.data.toList).size : Int) (decide ((scan 0 s.data.toList).err = 91))
theorem openD_fail {D : DSt} (h : (freadD D).2.1 ≠ 0) : openD D = ⟨(freadD D).2.1, [], 0, (freadD D).2.2⟩ := by unfold openD; rw [if_pos h]
theorem openD_go {D : DSt} (h : (freadD D).2.1 = 0) : openD D = tailD (freadD D).2.2 (freadD D).1 := by unfold openD tailD; rw [if_neg (by simpa using h)]
theorem openR_fail {D : DSt} {M : RSt} (h : (freadD D).2.1 ≠ 0) : openR D M = freadR M := by unfold openR; rw [if_pos (.inl h)]
theorem openR_go {D : DSt} {M : RSt} (h : (freadD D).2.1 = 0) : openR D M = tailR (freadD D).2.2 (freadR M) (freadD D).1 := by
  unfold openR tailR
  by_cases e : (scan 0 (freadD D).1.data.toList).err = 90
  · rw [if_pos (.inr e), if_pos e]
  · have h3 : ¬ ((freadD D).2.1 ≠ 0 ∨ (scan 0 (freadD D).1.data.toList).err = 90) := fun c => c.elim (fun c => c h) e
    rw [if_neg h3, if_neg e]
section
variable {w0 w : World} {A B : Nat} {Y : Nat → Prop} {D D' : DSt} {M M1 M2 : RSt} {φ : Nat → Nat} {c k : Nat}
theorem ro_tail (y : Bool) (s : ByteArray) (hs : s.size ≤ 140737488351232) (h : Two w0 A B Y D' M w) (HH : HasT w0 A B D' M y)
    (HC : (y = false ∧ WrT w0 A B D' M 0 M1 ∧ SnT w0 A B D' M1 0 M2) ∨ (y = true ∧ M = M2)) (HR : RdT w0 A B D' M2 s 0) (tw : Dk.Twin φ D M2) (b : DBd c k D) (m : MBd c k M2) (hk : k + 1 ≤ 1048577) :
    Calls Tryz.prog 16 #[pR B, .string nL] w (ROpenQ w0 A B Y w D' (tailD D s) (tailR D M2 s)) := by
  have hcase := (scan_facts s.data.toList.length 0 s.data.toList (Nat.le_refl _)).1
  unfold tailD tailR
  obtain ⟨recs, sz, er, hR⟩ : ∃ recs sz er, scan 0 s.data.toList = ⟨recs, sz, er⟩ := ⟨_, _, _, rfl⟩
  rw [hR] at hcase ⊢
  simp only at hcase ⊢
  have HY : SyT w0 A B D' M2 (syncD D nL).1 (syncR M2 nL).2 := fun Y W hW => hW.rSync b m tw (by omega) nL
  rcases hcase with rfl | rfl | rfl
  · rw [if_neg (by decide : ¬ ((0 : Nat) = 90)), if_neg (by decide : ¬ ((0 : Nat) = 90)), show decide ((0 : Nat) = 91) = false from rfl]
    unfold settleD settleR
    rw [if_neg (by decide : ¬ (false = true)), if_neg (by decide : ¬ (false = true))]
    by_cases h0 : (syncD D nL).1 = 0
    · rw [if_neg (by simpa using h0)]
      rw [h0] at HY
      exact ro_good 0 y s hs recs sz 0 hR h HH HC HR (.inl ⟨rfl, rfl, HY⟩) (M3 := M2)
    · rw [if_pos h0]
      exact ro_stop 0 y s hs recs sz 0 hR _ h0 h HH HC HR (.inl ⟨rfl, rfl, HY⟩) (M3 := M2)
  · rw [if_pos rfl, if_pos rfl]
    exact ro_bad y s hs recs sz hR h HH HC HR
  · rw [if_neg (by decide : ¬ ((91 : Nat) = 90)), if_neg (by decide : ¬ ((91 : Nat) = 90)), show decide ((91 : Nat) = 91) = true from rfl]
    have HZ : CtT w0 A B D' M2 (sz : Int) (cutD D nL (sz : Int)).1 (cutR M2 nL (cutNat M2 (sz : Int))).2 := fun Y W hW => hW.rCut b m tw (by omega) nL (sz : Int)
    have t3 : Dk.Twin φ (cutD D nL (sz : Int)).2 (cutR M2 nL (cutNat M2 (sz : Int))).2 := (two_cut tw nL (sz : Int) (cutNat M2 (sz : Int)) (by unfold cutNat; omega)).2
    obtain ⟨b3, m3⟩ := bd_cut b m tw nL (sz : Int) (cutNat M2 (sz : Int))
    have HY1 : SyT w0 A B D' (cutR M2 nL (cutNat M2 (sz : Int))).2 (syncD (cutD D nL (sz : Int)).2 nL).1 (syncR (cutR M2 nL (cutNat M2 (sz : Int))).2 nL).2 := fun Y W hW => hW.rSync b3 m3 t3 hk nL
    unfold settleD settleR
    rw [if_pos (rfl : true = true), if_pos (rfl : true = true)]
    generalize cutR M2 nL (cutNat M2 (sz : Int)) = M3 at *
    generalize cutD D nL (sz : Int) = O at *
    by_cases h0 : O.1 = 0
    · have h0' : ¬ (O.1 ≠ 0) := by simpa using h0
      rw [if_neg h0', if_neg h0']
      rw [h0] at HZ
      by_cases h1 : (syncD O.2 nL).1 = 0
      · rw [if_neg (by simpa using h1)]
        rw [h1] at HY1
        exact ro_good 1 y s hs recs sz 91 hR h HH HC HR (.inr ⟨rfl, rfl, HZ, HY1⟩)
      · rw [if_pos h1]
        exact ro_stop 2 y s hs recs sz 91 hR _ h1 h HH HC HR (.inr (.inr ⟨rfl, rfl, HZ, HY1⟩))
    · rw [if_pos h0, if_pos h0, if_pos h0]
      exact ro_stop 1 y s hs recs sz 91 hR _ h0 h HH HC HR (.inr (.inl ⟨rfl, rfl, HZ⟩)) (M3 := M2)
theorem ropen_any (h : Two w0 A B Y D' M w) (tw : Dk.Twin φ D M) (b : DBd c k D) (bm : MBd c k M) (hk : k + 4 ≤ 1048577) (hc : c ≤ 4194304) (hsz : (freadD D).1.size ≤ 140737488351232) :
    Calls Tryz.prog 16 #[pR B, .string nL] w (ROpenQ w0 A B Y w D' (openD D) (openR D M)) := by
  have hz : (⟨#[]⟩ : ByteArray).size ≤ c := Nat.zero_le _
  have HH : HasT w0 A B D' M (decide (askD D nL = 0)) := fun Y W hW => by
    obtain ⟨X, _, h2, _⟩ := hW
    rw [← tw.ask, ← hasR_ask M nL nL_full]
    exact (rhas_any M nL W h2 (by have := (bd_ok b bm tw (by omega)).2.1; unfold maxLen; omega)).mono fun _ _ ⟨he, hw⟩ => ⟨he, hw.symm⟩
  obtain ⟨b1, m1⟩ := bd_write b bm tw nL ⟨#[]⟩ hz
  obtain ⟨-, e1, ψ, t1⟩ := two_write tw b.plan nL ⟨#[]⟩
  have HW : WrT w0 A B D' M (writeD D nL ⟨#[]⟩).2.1 (writeR M nL ⟨#[]⟩).2.2 := fun Y W hW => (hW.rWrite b bm tw (by omega) hc nL ⟨#[]⟩ hz).mono fun _ _ ⟨he, k⟩ => ⟨⟨_, he⟩, k⟩
  have HN : SnT w0 A B D' (writeR M nL ⟨#[]⟩).2.2 (syncNamesD (writeD D nL ⟨#[]⟩).2.2).1 (syncNamesR (writeR M nL ⟨#[]⟩).2.2).2 := fun Y W hW => hW.rSyncNames b1 m1 t1 (by omega)
  obtain ⟨b2, m2⟩ := bd_syncNames b1 m1
  obtain ⟨e2, t2⟩ := two_syncNames t1
  by_cases ha : askD D nL = 0
  · have hf : freadD D = (readD D nL, 0, D) := by unfold freadD; rw [if_pos ha]
    have hm : freadR M = M := by unfold freadR; rw [tw.ask, if_pos ha]
    rw [openD_go (by rw [hf]), openR_go (by rw [hf]), hm]
    rw [hf] at hsz ⊢
    rw [decide_eq_true ha] at HH
    have HR : RdT w0 A B D' M (readD D nL) 0 := fun Y W hW => by
      have := hW.rRead tw (by have := (bd_ok b bm tw (by omega)).2.1; unfold maxLen; omega) nL
      rw [ha] at this
      exact this.mono fun _ _ ⟨he, hw⟩ => ⟨he, hw.symm⟩
    exact ro_tail true (readD D nL) hsz h HH (.inr ⟨rfl, rfl⟩) HR tw b bm (by omega) (M1 := M)
  · rw [decide_eq_false ha] at HH
    have hm : freadR M = (beginR M).2 := by unfold freadR; rw [tw.ask, if_neg ha]
    by_cases h1 : (writeD D nL ⟨#[]⟩).2.1 = 0
    · have hb : beginD D = syncNamesD (writeD D nL ⟨#[]⟩).2.2 := by unfold beginD; rw [if_neg (by simpa using h1)]
      have hbm : beginR M = syncNamesR (writeR M nL ⟨#[]⟩).2.2 := by unfold beginR; rw [e1, if_neg (by simpa using h1)]
      rw [h1] at HW
      by_cases h2 : (beginD D).1 = 0
      · have hf : freadD D = (readD (beginD D).2 nL, askD (beginD D).2 nL, (beginD D).2) := by unfold freadD; rw [if_neg ha, if_neg (by simpa using h2)]
        rw [hb] at h2
        rw [h2] at HN
        rw [hb] at hf
        have HR : RdT w0 A B D' (syncNamesR (writeR M nL ⟨#[]⟩).2.2).2 (readD (syncNamesD (writeD D nL ⟨#[]⟩).2.2).2 nL) (askD (syncNamesD (writeD D nL ⟨#[]⟩).2.2).2 nL) := fun Y W hW =>
          (hW.rRead t2 (by have := (bd_ok b2 m2 t2 (by omega)).2.1; unfold maxLen; omega) nL).mono fun _ _ ⟨he, hw⟩ => ⟨he, hw.symm⟩
        by_cases h3 : (freadD D).2.1 = 0
        · rw [openD_go h3, openR_go h3, hm, hbm]
          rw [hf] at h3 hsz ⊢
          simp only at h3 hsz
          rw [h3] at HR
          exact ro_tail false _ hsz h HH (.inl ⟨rfl, HW, HN⟩) HR t2 b2 m2 (by omega)
        · rw [openD_fail h3, openR_fail h3, hm, hbm]
          rw [hf] at h3 ⊢
          exact ro_read false _ _ h3 h HH (.inl ⟨rfl, HW, HN⟩) HR
      · have hf : freadD D = (⟨#[]⟩, beginD D) := by unfold freadD; rw [if_neg ha, if_pos h2]
        rw [openD_fail (by rw [hf]; exact h2), openR_fail (by rw [hf]; exact h2), hm, hbm, hf]
        rw [hb] at h2 ⊢
        exact ro_begin 1 _ h2 h HH (.inr ⟨rfl, HW, HN⟩)
    · have hb : beginD D = (writeD D nL ⟨#[]⟩).2 := by unfold beginD; rw [if_pos h1]
      have hbm : beginR M = (writeR M nL ⟨#[]⟩).2 := by unfold beginR; rw [e1, if_pos h1]
      have hf : freadD D = (⟨#[]⟩, beginD D) := by unfold freadD; rw [if_neg ha, if_pos (by rw [hb]; exact h1)]
      rw [openD_fail (by rw [hf, hb]; exact h1), openR_fail (by rw [hf, hb]; exact h1), hm, hbm, hf, hb]
      exact ro_begin 0 _ h1 h HH (.inl ⟨rfl, HW⟩) (M1 := M)
end
end Wl
end Go.Proofs.YtioidkbpjkcjeaaGreatDoor
