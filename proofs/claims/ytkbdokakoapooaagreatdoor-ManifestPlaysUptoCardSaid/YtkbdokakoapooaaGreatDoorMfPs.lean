/- manifest's Store on both disks, plain: what it does to each, and that they stay alike. Conditions: those that each theorem names. -/
import Derived.Test.YtkbdokakoapooaaGreatDoorGaF
import Derived.Test.YtkbdokakoapooaaGreatDoorMfDk
namespace Go.Proofs.YtkbdokakoapooaaGreatDoor
set_option linter.unusedVariables false
open Go Go.RowKit Dk
namespace Mf
/-! ### the program's -/
def putD (D : DSt) (s : Nm) : Int × DSt :=
  if (writeD D nTmp s).2.1 ≠ 0 then ((writeD D nTmp s).2.1, (removeD (writeD D nTmp s).2.2 nTmp).2) else
  if (syncD (writeD D nTmp s).2.2 nTmp).1 ≠ 0 then ((syncD (writeD D nTmp s).2.2 nTmp).1, (removeD (syncD (writeD D nTmp s).2.2 nTmp).2 nTmp).2) else
  ((renameD (syncD (writeD D nTmp s).2.2 nTmp).2 nTmp nMan).1, (removeD (renameD (syncD (writeD D nTmp s).2.2 nTmp).2 nTmp nMan).2 nTmp).2)
def storeD (D : DSt) (s : Nm) : Int × DSt :=
  if (removeD D nTmp).1 ≠ 0 ∧ (removeD D nTmp).1 ≠ 20 then removeD D nTmp else
  if (putD (removeD D nTmp).2 s).1 ≠ 0 then putD (removeD D nTmp).2 s else syncNamesD (putD (removeD D nTmp).2 s).2
/-! ### the document's -/
def clearR (M : RSt) : Int × RSt := if askE M nTmp = 0 then removeR M nTmp else (0, M)
def putR (M : RSt) (s : Nm) : Int × RSt :=
  if (writeR M nTmp s).2.1 ≠ 0 then ((writeR M nTmp s).2.1, (clearR (writeR M nTmp s).2.2).2) else
  if (syncR (writeR M nTmp s).2.2 nTmp).1 ≠ 0 then ((syncR (writeR M nTmp s).2.2 nTmp).1, (clearR (syncR (writeR M nTmp s).2.2 nTmp).2).2) else
  if (renameR (syncR (writeR M nTmp s).2.2 nTmp).2 nTmp nMan).1 ≠ 0 then ((renameR (syncR (writeR M nTmp s).2.2 nTmp).2 nTmp nMan).1, (clearR (renameR (syncR (writeR M nTmp s).2.2 nTmp).2 nTmp nMan).2).2) else
  renameR (syncR (writeR M nTmp s).2.2 nTmp).2 nTmp nMan
def storeR (M : RSt) (s : Nm) : Int × RSt :=
  if (clearR M).1 ≠ 0 then clearR M else if (putR (clearR M).2 s).1 ≠ 0 then putR (clearR M).2 s else syncNamesR (putR (clearR M).2 s).2
/-! ### alike -/
theorem hitD_val (D : DSt) : hitD D = 0 ∨ hitD D = 22 ∨ hitD D = 23 := by
  rcases hitD_ways D with ⟨_, h⟩ | ⟨fa, fk, fn, _, h, _⟩
  · exact .inl h
  · rw [h]; unfold hitErr; by_cases e : fk = 3 <;> simp [e]
theorem askTmp (D : DSt) : askD D nTmp = 20 ∨ askD D nTmp = 0 := by
  rcases askD_ways D nTmp with ⟨h, _⟩ | ⟨_, _, h⟩ | ⟨_, _, _, h⟩
  · rw [nTmp_full] at h; cases h
  · exact .inl h
  · exact .inr h
theorem remove_ans (D : DSt) : (askD D nTmp = 20 ∧ removeD D nTmp = (20, D)) ∨ (askD D nTmp = 0 ∧ (removeD D nTmp).1 = hitD D) := by
  rcases askTmp D with h | h
  · exact .inl ⟨h, by unfold removeD; rw [h, if_pos (by decide)]⟩
  · refine .inr ⟨h, ?_⟩
    unfold removeD
    rw [h, if_neg (by decide)]
    split
    · rfl
    · omega
section
variable {φ : Nat → Nat} {D : DSt} {M : RSt} {c k : Nat}
theorem two_clear (h : Dk.Twin φ D M) : Dk.Twin φ (removeD D nTmp).2 (clearR M).2 ∧ (((removeD D nTmp).1 ≠ 0 ∧ (removeD D nTmp).1 ≠ 20) ↔ (clearR M).1 ≠ 0) ∧ ((clearR M).1 ≠ 0 → (clearR M).1 = (removeD D nTmp).1) := by
  unfold clearR
  rw [h.ask]
  rcases remove_ans D with ⟨h1, h2⟩ | ⟨h1, h2⟩
  · rw [h2, if_neg (by rw [h1]; decide)]
    exact ⟨h, by simp, by simp⟩
  · rw [if_pos h1]
    obtain ⟨e, t⟩ := two_remove h nTmp
    refine ⟨t, ?_, fun _ => e⟩
    rw [e, h2]
    have := hitD_val D
    omega
theorem bd_clear (b : DBd c k D) (m : MBd c k M) : DBd c (k + 1) (removeD D nTmp).2 ∧ MBd c (k + 1) (clearR M).2 := by
  obtain ⟨h1, h2⟩ := bd_remove b m nTmp
  refine ⟨h1, ?_⟩
  unfold clearR
  split
  · exact h2
  · exact m.more
/-- Behind a renaming that went well there is no such file. -/
theorem renamed_none (h : Dk.Twin φ D M) (h0 : (renameD D nTmp nMan).1 = 0) : nmGet (renameD D nTmp nMan).2.names nTmp = none := by
  have hne : nTmp ≠ nMan := by decide
  unfold renameD at h0 ⊢
  rw [if_neg (by rw [nMan_full]; decide)] at h0 ⊢
  by_cases ha : askD D nTmp = 0
  · rw [if_neg (by omega)] at h0 ⊢
    by_cases hh : hitD D = 0
    · rw [if_neg (by omega), if_neg hne]
      have hs := h.names_sorted
      show nmGet (nmSet (nmSet D.names (nTmp, none)) (nMan, some (placeD D nTmp))) nTmp = none
      rw [get_set (sorted_nmSet hs _), if_neg hne, get_set hs]
      simp
    · rw [if_pos hh] at h0; exact absurd h0 hh
  · rw [if_pos ha] at h0; exact absurd h0 ha
theorem remove_gone (D : DSt) (h : nmGet D.names nTmp = none) : removeD D nTmp = (20, D) := by
  rcases askD_ways D nTmp with ⟨h1, _⟩ | ⟨_, _, h1⟩ | ⟨i, _, hg, _⟩
  · rw [nTmp_full] at h1; cases h1
  · unfold removeD; rw [h1, if_pos (by decide)]
  · rw [h] at hg; cases hg
theorem two_put (h : Dk.Twin φ D M) (b : DBd c k D) (m : MBd c k M) (s : Nm) (hs : s.size ≤ c) : (putR M s).1 = (putD D s).1 ∧ (∃ ψ, Dk.Twin ψ (putD D s).2 (putR M s).2) ∧ DBd c (k + 4) (putD D s).2 ∧ MBd c (k + 4) (putR M s).2 := by
  obtain ⟨-, e1, ψ, t1⟩ := two_write h b.plan nTmp s
  obtain ⟨b1, m1⟩ := bd_write b m h nTmp s hs
  unfold putD putR
  rw [e1]
  generalize (writeD D nTmp s).2.1 = x1 at *
  generalize (writeD D nTmp s).2.2 = D1 at *
  generalize (writeR M nTmp s).2.2 = M1 at *
  split
  · obtain ⟨b2, m2⟩ := bd_clear b1 m1
    exact ⟨rfl, ⟨ψ, (two_clear t1).1⟩, b2.more.more, m2.more.more⟩
  obtain ⟨e2, t2⟩ := two_sync t1 nTmp
  obtain ⟨b2, m2⟩ := bd_sync b1 m1 t1 nTmp
  rw [e2]
  generalize (syncD D1 nTmp).1 = x2 at *
  generalize (syncD D1 nTmp).2 = D2 at *
  generalize (syncR M1 nTmp).2 = M2 at *
  split
  · obtain ⟨b3, m3⟩ := bd_clear b2 m2
    exact ⟨rfl, ⟨ψ, (two_clear t2).1⟩, b3.more, m3.more⟩
  obtain ⟨e3, t3⟩ := two_rename t2 nTmp nMan
  obtain ⟨b3, m3⟩ := bd_rename b2 m2 nTmp nMan
  have hg := renamed_none t2
  rw [e3]
  obtain ⟨b4, m4⟩ := bd_clear b3 m3
  split
  · exact ⟨rfl, ⟨ψ, (two_clear t3).1⟩, b4, m4⟩
  · rename_i h0
    have hgo := remove_gone _ (hg (by omega))
    refine ⟨e3, ⟨ψ, ?_⟩, b4, m3.more⟩
    rw [hgo]
    exact t3
theorem two_store (h : Dk.Twin φ D M) (b : DBd c k D) (m : MBd c k M) (s : Nm) (hs : s.size ≤ c) : (storeR M s).1 = (storeD D s).1 ∧ (∃ ψ, Dk.Twin ψ (storeD D s).2 (storeR M s).2) ∧ DBd c (k + 6) (storeD D s).2 ∧ MBd c (k + 6) (storeR M s).2 := by
  obtain ⟨t1, i1, e1⟩ := two_clear h
  obtain ⟨b1, m1⟩ := bd_clear b m
  unfold storeD storeR
  by_cases hc : (clearR M).1 ≠ 0
  · rw [if_pos hc, if_pos (i1.2 hc)]
    exact ⟨e1 hc, ⟨φ, t1⟩, b1.more.more.more.more.more, m1.more.more.more.more.more⟩
  · rw [if_neg hc, if_neg (fun e => hc (i1.1 e))]
    obtain ⟨e2, ⟨ψ, t2⟩, b2, m2⟩ := two_put t1 b1 m1 s hs
    rw [e2]
    split
    · exact ⟨e2, ⟨ψ, t2⟩, b2.more, m2.more⟩
    · obtain ⟨e3, t3⟩ := two_syncNames t2
      obtain ⟨b3, m3⟩ := bd_syncNames b2 m2
      exact ⟨e3, ⟨ψ, t3⟩, b3, m3⟩
/-! ### how great the files are -/
def DataB (q : Nat) (D : DSt) : Prop := ∀ f ∈ D.files, f.data.length ≤ q
theorem db_remove {q : Nat} (h : DataB q D) (s : Nm) : DataB q (removeD D s).2 := by
  unfold removeD
  split
  · exact h
  split <;> exact h
theorem db_rename {q : Nat} (h : DataB q D) (s t : Nm) : DataB q (renameD D s t).2 := by
  unfold renameD
  split
  · exact h
  split
  · exact h
  split
  · exact h
  split <;> exact h
theorem db_syncNames {q : Nat} (h : DataB q D) : DataB q (syncNamesD D).2 := by
  unfold syncNamesD
  split <;> exact h
theorem db_sync {q : Nat} (h : DataB q D) (hd : DataB q D) (s : Nm) (hf : (fileD D s).data.length ≤ q) : DataB q (syncD D s).2 := by
  unfold syncD
  split
  · exact h
  split
  · exact h
  · intro f hm
    rcases List.mem_or_eq_of_mem_set hm with e | rfl
    · exact h f e
    · exact hf
theorem db_fileD {q : Nat} (h : DataB q D) (s : Nm) : (fileD D s).data.length ≤ q := by
  unfold fileD
  cases hx : (nmGet D.names s).bind fun i => D.files[i]? with
  | none => exact Nat.zero_le _
  | some f =>
    cases hg : nmGet D.names s with
    | none => rw [hg] at hx; cases hx
    | some i =>
      rw [hg] at hx
      exact h f (List.mem_of_getElem? hx)
theorem db_write {q : Nat} (h : DataB q D) (s : Nm) (hs : s.size ≤ q) (hg : nmGet D.names nTmp = none) : DataB q (writeD D nTmp s).2.2 := by
  have hl : s.data.toList.length = s.size := by rw [Array.length_toList]; rfl
  unfold writeD
  split
  · exact h
  split
  · exact h
  · unfold layD
    have hg' : nmGet D.tick.names nTmp = none := hg
    rw [hg']
    intro f hm
    have e : (more D.tick nTmp).files.set D.tick.files.length (FileC.mk (s.data.toList.take (writeK D s).toNat) 0) = D.files ++ [⟨s.data.toList.take (writeK D s).toNat, 0⟩] := set_end _ _ _
    have hm' : f ∈ D.files ++ [⟨s.data.toList.take (writeK D s).toNat, 0⟩] := by rw [← e]; exact hm
    rcases List.mem_append.1 hm' with hm' | hm'
    · exact h f hm'
    · obtain rfl : f = ⟨s.data.toList.take (writeK D s).toNat, 0⟩ := by simpa using hm'
      show (s.data.toList.take _).length ≤ q
      rw [List.length_take]; omega
theorem db_put {q : Nat} (h : DataB q D) (s : Nm) (hs : s.size ≤ q) (hg : nmGet D.names nTmp = none) : DataB q (putD D s).2 := by
  have h1 := db_write h s hs hg
  unfold putD
  split
  · exact db_remove h1 _
  have h2 := db_sync h1 h1 nTmp (db_fileD h1 _)
  split
  · exact db_remove h2 _
  · exact db_remove (db_rename h2 _ _) _
theorem removed_none (h : Dk.Twin φ D M) (h0 : (removeD D nTmp).1 = 0 ∨ (removeD D nTmp).1 = 20) : nmGet (removeD D nTmp).2.names nTmp = none := by
  rcases remove_ans D with ⟨h1, h2⟩ | ⟨h1, h2⟩
  · rw [h2]
    rcases askD_ways D nTmp with ⟨h3, _⟩ | ⟨_, hg, _⟩ | ⟨i, _, hg, h3⟩
    · rw [nTmp_full] at h3; cases h3
    · exact hg
    · omega
  · have hv := hitD_val D
    have hh : hitD D = 0 := by omega
    unfold removeD
    rw [if_neg (by omega), if_neg (by omega)]
    show nmGet (nmSet D.names (nTmp, none)) nTmp = none
    rw [get_set h.names_sorted]; simp
theorem db_store {q : Nat} (tw : Dk.Twin φ D M) (h : DataB q D) (s : Nm) (hs : s.size ≤ q) : DataB q (storeD D s).2 := by
  have h1 := db_remove h nTmp
  unfold storeD
  split
  · exact h1
  · rename_i hc
    have hn := removed_none tw (by omega)
    have h2 := db_put h1 s hs hn
    split
    · exact h2
    · exact db_syncNames h2
theorem db_crash {q : Nat} (h : DataB q D) (n : Nat) (bs : List Int) : DataB q (D.crash n bs) := crashFiles_bd bs _ _ _ h
end
end Mf
end Go.Proofs.YtkbdokakoapooaaGreatDoor
