/- The disk of a law: each call as one outcome, whatever it meets. Conditions: those that each theorem names. -/
import Derived.Test.YtblhbkhehddccaaDkB
import Derived.Test.YtblhbkhehddccaaDkShort
namespace Go.Proofs.Ytblhbkhehddccaa
set_option linter.unusedVariables false
open Go.RowKit Dk
namespace Dk
def askD (D : DSt) (s : Nm) : Int := if s.toList.isEmpty then 1 else match nmGet D.names s with | none => 20 | some _ => 0
def hitD (D : DSt) : Int := match D.hit with | none => 0 | some f => hitErr f
def fileD (D : DSt) (s : Nm) : FileC := ((nmGet D.names s).bind fun i => D.files[i]?).getD ⟨[], 0⟩
def placeD (D : DSt) (s : Nm) : Nat := (nmGet D.names s).getD 0
def removeD (D : DSt) (s : Nm) : Int × DSt := if askD D s ≠ 0 then (askD D s, D) else if hitD D ≠ 0 then (hitD D, D.tick) else (0, D.tick.relink [(s, none)])
def renameD (D : DSt) (s t : Nm) : Int × DSt :=
  if t.toList.isEmpty then (1, D) else if askD D s ≠ 0 then (askD D s, D) else if hitD D ≠ 0 then (hitD D, D.tick) else if s = t then (0, D.tick) else (0, D.tick.relink [(s, none), (t, some (placeD D s))])
def syncD (D : DSt) (s : Nm) : Int × DSt := if askD D s ≠ 0 then (askD D s, D) else if hitD D ≠ 0 then (hitD D, D.tick) else (0, { D.tick with files := D.files.set (placeD D s) (syncF (fileD D s)) })
def cutK (f : FileC) (z : Int) : Nat := (min (max z 0) (f.data.length : Int)).toNat
def cutD (D : DSt) (s : Nm) (z : Int) : Int × DSt := if askD D s ≠ 0 then (askD D s, D) else if hitD D ≠ 0 then (hitD D, D.tick) else (0, { D.tick with files := D.files.set (placeD D s) ((fileD D s).cut (cutK (fileD D s) z)) })
def syncNamesD (D : DSt) : Int × DSt := if hitD D ≠ 0 then (hitD D, D.tick) else (0, DSt.close D.tick)
def planD (D : DSt) (l : List (Int × Int × Int)) : Int × DSt := if 4096 < l.length then (1, D) else if planOk D.steps l then (0, { D with plan := l }) else (1, D)
def layD (D : DSt) (s : Nm) (d : List UInt8) : DSt := match nmGet D.names s with
  | some i => { D with files := D.files.set i { fileD D s with data := (fileD D s).data ++ d } }
  | none => { more D s with files := (more D s).files.set D.files.length (FileC.mk d 0) }
/-- How many bytes a write lays: none at all where it is refused (-1). -/
def writeK (D : DSt) (t : Nm) : Int := match D.hit with | none => t.size | some f => if f.2.1 = 2 then min f.2.2 t.size else -1
def writeD (D : DSt) (s t : Nm) : Int × Int × DSt :=
  if s.toList.isEmpty then (0, 1, D) else if writeK D t < 0 then (0, hitD D, D.tick) else (writeK D t, hitD D, layD D.tick s (t.data.toList.take (writeK D t).toNat))
def readD (D : DSt) (s : Nm) : Nm := if s.toList.isEmpty then ⟨#[]⟩ else match nmGet D.names s with | none => ⟨#[]⟩ | some _ => ⟨(fileD D s).data.toArray⟩
theorem askD_ways (D : DSt) (s : Nm) : (s.toList.isEmpty = true ∧ askD D s = 1) ∨ (s.toList.isEmpty = false ∧ nmGet D.names s = none ∧ askD D s = 20) ∨ ∃ i, s.toList.isEmpty = false ∧ nmGet D.names s = some i ∧ askD D s = 0 := by
  unfold askD
  cases h : s.toList.isEmpty
  · right
    cases hg : nmGet D.names s with
    | none => left; exact ⟨rfl, rfl, rfl⟩
    | some i => right; exact ⟨i, rfl, rfl, rfl⟩
  · left; exact ⟨rfl, rfl⟩
theorem hitD_ways (D : DSt) : (D.hit = none ∧ hitD D = 0) ∨ ∃ fa fk fn, D.hit = some (fa, fk, fn) ∧ hitD D = hitErr (fa, fk, fn) ∧ hitD D ≠ 0 := by
  unfold hitD
  cases h : D.hit with
  | none => exact .inl ⟨rfl, rfl⟩
  | some f =>
    obtain ⟨a, b, c⟩ := f
    exact .inr ⟨a, b, c, rfl, rfl, by show hitErr _ ≠ 0; unfold hitErr; split <;> decide⟩
def MB : Nat := 1048576
/-- What a disk must be for its calls to be walked. -/
structure DBd (k : Nat) (D : DSt) : Prop where
  sum : D.names.length + D.opn.flatten.length ≤ 4 * k
  opn : D.opn.length ≤ k
  low : 0 ≤ D.steps
  high : D.steps ≤ k
  data : ∀ f ∈ D.files, f.data.length ≤ k * MB
  plan : ∀ f ∈ D.plan, mayB f = true
end Dk
section
variable {w0 w : World} {A : Nat} {D : DSt} {X : Nat → Prop} {k : Nat}
theorem AtB.ok (h : AtB w0 A D X w) : D.Ok := let ⟨_, _, h1, _, _, _⟩ := h; h1.ok
theorem AtB.file (h : AtB w0 A D X w) {s : Nm} {i : Nat} (hg : nmGet D.names s = some i) : D.files[i]? = some (fileD D s) ∧ placeD D s = i := by
  have hlt := (h.ok.named _ ((nmGet_some h.ok.sorted).1 hg)).2
  refine ⟨?_, by unfold placeD; rw [hg]; rfl⟩
  unfold fileD
  rw [hg]
  simp only [Option.bind_some]
  rw [List.getElem?_eq_getElem hlt]; rfl
theorem bd_big (b : DBd k D) (hk : k ≤ 1048577) : D.steps ≤ 4611686018427387904 ∧ D.names.length ≤ 1099511627776 ∧ D.opn.length ≤ 1099511627776 ∧ D.names.length + D.opn.flatten.length ≤ 1099511627776 := by
  have h1 := b.sum; have h2 := b.opn; have h3 := b.high
  omega
theorem AtB.removeD (h : AtB w0 A D X w) (b : DBd k D) (hk : k ≤ 1048577) (s : ByteArray) (hl : s.size ≤ maxLen) :
    Calls Try.prog 16 #[.pointer (some ⟨A, 0, none⟩), .string s] w fun e w' => e = .returned (.int .i64 (removeD D s).1) ∧ AtB w0 A (removeD D s).2 X w' ∧ Stay X w w' := by
  have h' := h
  obtain ⟨ρ, fb, hd, hlo, hx, hb⟩ := h
  obtain ⟨q1, q2, q3, q4⟩ := bd_big b hk
  unfold Dk.removeD
  rcases askD_ways D s with ⟨h1, h2⟩ | ⟨h1, hg, h2⟩ | ⟨i, h1, hg, h2⟩ <;> rw [h2]
  · rw [if_pos (by decide)]
    exact (remove_empty A s (by simpa using h1) w).mono fun _ _ ⟨he, hw⟩ => ⟨he, by subst hw; exact ⟨h', Stay.refl _ _⟩⟩
  · rw [if_pos (by decide)]
    exact (remove_none A D ρ fb w hd s hl h1 hg).mono fun _ _ ⟨he, hw⟩ => ⟨he, by subst hw; exact ⟨h', Stay.refl _ _⟩⟩
  · rw [if_neg (by decide)]
    rcases hitD_ways D with ⟨hm, h3⟩ | ⟨fa, fk, fn, hm, h3, h4⟩
    · rw [h3, if_neg (by decide)]
      exact (remove_miss A D ρ fb w hd b.low q1 q2 q3 s hl h1 i hg hm).mono fun _ _ ⟨he, hk⟩ => ⟨he, atB_kept hd hlo hx hb hk.kept⟩
    · rw [if_pos h4, h3]
      exact (remove_hit A D ρ fb w hd b.low q1 s hl h1 i hg fa fk fn hm).mono fun _ _ ⟨he, hk⟩ => ⟨he, atB_kept hd hlo hx hb hk.kept⟩
theorem AtB.renameD (h : AtB w0 A D X w) (b : DBd k D) (hk : k ≤ 1048577) (s t : ByteArray) (hl : s.size ≤ maxLen) (hl' : t.size ≤ maxLen) :
    Calls Try.prog 14 #[.pointer (some ⟨A, 0, none⟩), .string s, .string t] w fun e w' => e = .returned (.int .i64 (renameD D s t).1) ∧ AtB w0 A (renameD D s t).2 X w' ∧ Stay X w w' := by
  have h' := h
  obtain ⟨ρ, fb, hd, hlo, hx, hb⟩ := h
  obtain ⟨q1, q2, q3, q4⟩ := bd_big b hk
  unfold Dk.renameD
  cases ht : t.toList.isEmpty
  · rw [if_neg (by decide)]
    rcases askD_ways D s with ⟨h1, h2⟩ | ⟨h1, hg, h2⟩ | ⟨i, h1, hg, h2⟩ <;> rw [h2]
    · rw [if_pos (by decide)]
      exact (rename_empty A s t (.inl (by simpa using h1)) w).mono fun _ _ ⟨he, hw⟩ => ⟨he, by subst hw; exact ⟨h', Stay.refl _ _⟩⟩
    · rw [if_pos (by decide)]
      exact (rename_none A D ρ fb w hd s t hl h1 ht hg).mono fun _ _ ⟨he, hw⟩ => ⟨he, by subst hw; exact ⟨h', Stay.refl _ _⟩⟩
    · rw [if_neg (by decide)]
      rcases hitD_ways D with ⟨hm, h3⟩ | ⟨fa, fk, fn, hm, h3, h4⟩
      · rw [h3, if_neg (by decide)]
        by_cases hst : s = t
        · subst hst
          rw [if_pos rfl]
          exact (rename_same A D ρ fb w hd b.low q1 s hl h1 i hg hm).mono fun _ _ ⟨he, hk⟩ => ⟨he, atB_kept hd hlo hx hb hk.kept⟩
        · rw [if_neg hst, (h'.file hg).2]
          exact (rename_miss A D ρ fb w hd b.low q1 q2 q3 s t hl hl' h1 ht (by rw [Go.ByteArray.toList_eq, Go.ByteArray.toList_eq]; simpa using fun e => hst (nm_ext e)) i hg hm).mono fun _ _ ⟨he, hk⟩ => ⟨he, atB_kept hd hlo hx hb hk.kept⟩
      · rw [if_pos h4, h3]
        exact (rename_hit A D ρ fb w hd b.low q1 s t hl h1 ht i hg fa fk fn hm).mono fun _ _ ⟨he, hk⟩ => ⟨he, atB_kept hd hlo hx hb hk.kept⟩
  · rw [if_pos rfl]
    exact (rename_empty A s t (.inr (by simpa using ht)) w).mono fun _ _ ⟨he, hw⟩ => ⟨he, by subst hw; exact ⟨h', Stay.refl _ _⟩⟩
theorem AtB.syncD (h : AtB w0 A D X w) (b : DBd k D) (hk : k ≤ 1048577) (s : ByteArray) (hl : s.size ≤ maxLen) :
    Calls Try.prog 12 #[.pointer (some ⟨A, 0, none⟩), .string s] w fun e w' => e = .returned (.int .i64 (syncD D s).1) ∧ AtB w0 A (syncD D s).2 X w' ∧ Stay X w w' := by
  have h' := h
  obtain ⟨ρ, fb, hd, hlo, hx, hb⟩ := h
  obtain ⟨q1, q2, q3, q4⟩ := bd_big b hk
  unfold Dk.syncD
  rcases askD_ways D s with ⟨h1, h2⟩ | ⟨h1, hg, h2⟩ | ⟨i, h1, hg, h2⟩ <;> rw [h2]
  · rw [if_pos (by decide)]
    exact (sync_empty A s (by simpa using h1) w).mono fun _ _ ⟨he, hw⟩ => ⟨he, by subst hw; exact ⟨h', Stay.refl _ _⟩⟩
  · rw [if_pos (by decide)]
    exact (sync_none A D ρ fb w hd s hl h1 hg).mono fun _ _ ⟨he, hw⟩ => ⟨he, by subst hw; exact ⟨h', Stay.refl _ _⟩⟩
  · rw [if_neg (by decide)]
    obtain ⟨hf, hp⟩ := h'.file hg
    rcases hitD_ways D with ⟨hm, h3⟩ | ⟨fa, fk, fn, hm, h3, h4⟩
    · rw [h3, if_neg (by decide), hp]
      exact (sync_miss A D ρ fb w hd b.low q1 s hl h1 i _ hg hf hm).mono fun _ _ ⟨he, hk⟩ => ⟨he, atB_kept hd hlo hx hb hk.kept⟩
    · rw [if_pos h4, h3]
      exact (sync_hit A D ρ fb w hd b.low q1 s hl h1 i _ hg hf fa fk fn hm).mono fun _ _ ⟨he, hk⟩ => ⟨he, atB_kept hd hlo hx hb hk.kept⟩
theorem AtB.cutD (h : AtB w0 A D X w) (b : DBd k D) (hk : k ≤ 1048577) (s : ByteArray) (z : Int) (hl : s.size ≤ maxLen) :
    Calls Try.prog 10 #[.pointer (some ⟨A, 0, none⟩), .string s, .int .i64 z] w fun e w' => e = .returned (.int .i64 (cutD D s z).1) ∧ AtB w0 A (cutD D s z).2 X w' ∧ Stay X w w' := by
  have h' := h
  obtain ⟨ρ, fb, hd, hlo, hx, hb⟩ := h
  obtain ⟨q1, q2, q3, q4⟩ := bd_big b hk
  unfold Dk.cutD
  rcases askD_ways D s with ⟨h1, h2⟩ | ⟨h1, hg, h2⟩ | ⟨i, h1, hg, h2⟩ <;> rw [h2]
  · rw [if_pos (by decide)]
    exact (fcut_empty A s (by simpa using h1) z w).mono fun _ _ ⟨he, hw⟩ => ⟨he, by subst hw; exact ⟨h', Stay.refl _ _⟩⟩
  · rw [if_pos (by decide)]
    exact (fcut_none A D ρ fb w hd s z hl h1 hg).mono fun _ _ ⟨he, hw⟩ => ⟨he, by subst hw; exact ⟨h', Stay.refl _ _⟩⟩
  · rw [if_neg (by decide)]
    obtain ⟨hf, hp⟩ := h'.file hg
    rcases hitD_ways D with ⟨hm, h3⟩ | ⟨fa, fk, fn, hm, h3, h4⟩
    · rw [h3, if_neg (by decide), hp]
      exact (fcut_miss A D ρ fb w hd b.low q1 s z hl h1 i _ hg hf hm _ (by unfold cutK; omega)).mono fun _ _ ⟨he, hk⟩ => ⟨he, atB_kept hd hlo hx hb hk.kept⟩
    · rw [if_pos h4, h3]
      exact (fcut_hit A D ρ fb w hd b.low q1 s z hl h1 i _ hg hf fa fk fn hm).mono fun _ _ ⟨he, hk⟩ => ⟨he, atB_kept hd hlo hx hb hk.kept⟩
theorem AtB.syncNamesD (h : AtB w0 A D X w) (b : DBd k D) (hk : k ≤ 1048577) :
    Calls Try.prog 18 #[.pointer (some ⟨A, 0, none⟩)] w fun e w' => e = .returned (.int .i64 (syncNamesD D).1) ∧ AtB w0 A (syncNamesD D).2 X w' ∧ Stay X w w' := by
  obtain ⟨ρ, fb, hd, hlo, hx, hb⟩ := h
  obtain ⟨q1, q2, q3, q4⟩ := bd_big b hk
  unfold Dk.syncNamesD
  rcases hitD_ways D with ⟨hm, h3⟩ | ⟨fa, fk, fn, hm, h3, h4⟩
  · rw [h3, if_neg (by decide)]
    exact (syncNames_miss A D ρ fb w hd b.low q1 hm).mono fun _ _ ⟨he, hk⟩ => ⟨he, atB_kept hd hlo hx hb hk.kept⟩
  · rw [if_pos h4, h3]
    exact (syncNames_hit A D ρ fb w hd b.low q1 fa fk fn hm).mono fun _ _ ⟨he, hk⟩ => ⟨he, atB_kept hd hlo hx hb hk.kept⟩
theorem AtB.planD (h : AtB w0 A D X w) (p : Option Addr) (c : Nat) (l : List (Int × Int × Int)) (hl : FaultsAt w p c l) (hlo : ∀ g, (Value.slice p l.length c).ownBlock = some g → X g) (hr : ∀ f ∈ l, -9223372036854775808 ≤ f.1 ∧ f.1 ≤ 9223372036854775807) :
    Calls Try.prog 21 #[.pointer (some ⟨A, 0, none⟩), .slice p l.length c] w fun e w' => e = .returned (.int .i64 (planD D l).1) ∧ AtB w0 A (planD D l).2 X w' ∧ Stay X w w' := by
  have h' := h
  obtain ⟨ρ, fb, hd, hlo', hx, hb⟩ := h
  unfold Dk.planD
  by_cases h1 : 4096 < l.length
  · rw [if_pos h1]
    exact (plan_long A p l.length c h1 w).mono fun _ _ ⟨he, hw⟩ => ⟨he, by subst hw; exact ⟨h', Stay.refl _ _⟩⟩
  · rw [if_neg h1]
    cases h2 : planOk D.steps l
    · rw [if_neg (by decide)]
      exact (plan_bad A D ρ fb w hd p c l hl (by omega) h2).mono fun _ _ ⟨he, hw⟩ => ⟨he, h'.others hw, stay_below h' hw⟩
    · rw [if_pos rfl]
      exact (plan_good A D ρ fb w hd p c l hl (fun g hg => (hx g (hlo g hg)).2) (by omega) h2 hr).mono fun _ _ ⟨he, hk⟩ => ⟨he, atB_kept hd hlo' hx hb hk.kept⟩
theorem AtB.writeD (h : AtB w0 A D X w) (b : DBd k D) (hk : k ≤ 1048577) (s t : ByteArray) (hl : s.size ≤ maxLen) (ht : t.size ≤ 1048576) :
    Calls Try.prog 8 #[.pointer (some ⟨A, 0, none⟩), .string s, .string t] w fun e w' => e = .returned (.tuple #[.int .i64 (writeD D s t).1, .int .i64 (writeD D s t).2.1]) ∧ AtB w0 A (writeD D s t).2.2 X w' ∧ Stay X w w' := by
  have h' := h
  obtain ⟨ρ, fb, hd, hlo, hx, hb⟩ := h
  obtain ⟨q1, q2, q3, q4⟩ := bd_big b hk
  have htm : t.size ≤ maxLen := by unfold maxLen; omega
  have hlen : t.data.toList.length = t.size := by rw [Array.length_toList]; rfl
  unfold Dk.writeD
  cases h1 : s.toList.isEmpty
  · rw [if_neg (by decide)]
    have hbig : ∀ (i : Nat) (f : FileC), D.files[i]? = some f → f.data.length + t.size ≤ 200000000000000 := fun i f hf => by
      have := b.data f (List.mem_of_getElem? hf)
      have : k * MB ≤ 1048577 * 1048576 := by unfold MB; exact Nat.mul_le_mul_right _ hk
      omega
    rcases hitD_ways D with ⟨hm, h3⟩ | ⟨fa, fk, fn, hm, h3, h4⟩
    · have hw : writeK D t = t.size := by unfold writeK; rw [hm]
      rw [hw, h3, if_neg (by omega), Int.toNat_natCast, List.take_of_length_le (by omega)]
      unfold layD
      cases hg : nmGet D.tick.names s with
      | some i =>
        obtain ⟨hf, hp⟩ := h'.file (s := s) (i := i) hg
        exact (Go.Proofs.Ytblhbkhehddccaa.write_old A D ρ fb w hd b.low q1 s t hl htm h1 hm i _ hg hf (hbig i _ hf)).mono fun _ _ ⟨he, hk⟩ => ⟨he, atB_kept hd hlo hx hb hk⟩
      | none =>
        exact (Go.Proofs.Ytblhbkhehddccaa.write_new A D ρ fb w hd b.low q1 q2 q3 s t hl htm h1 hm hg (by omega)).mono fun _ _ ⟨he, hk⟩ => ⟨he, atB_kept hd hlo hx hb hk⟩
    · by_cases c2 : fk = 2
      · subst c2
        have h5 : hitD D = 22 := by rw [h3]; rfl
        have hmay : 0 ≤ fn := by
          have := b.plan _ (List.mem_of_find?_eq_some hm)
          simpa [mayB] using this
        have hw : writeK D t = min fn t.size := by unfold writeK; rw [hm]; rfl
        rw [hw, h5, if_neg (by omega)]
        by_cases c3 : fn ≤ t.size
        · obtain ⟨n, rfl⟩ : ∃ n : Nat, fn = n := ⟨fn.toNat, by omega⟩
          have e : min (n : Int) (t.size : Int) = n := by omega
          rw [e, Int.toNat_natCast]
          unfold layD
          cases hg : nmGet D.tick.names s with
          | some i =>
            obtain ⟨hf, hp⟩ := h'.file (s := s) (i := i) hg
            exact (short_old A D ρ fb w hd b.low q1 s t hl htm h1 fa n (by omega) hm i _ hg hf (hbig i _ hf)).mono fun _ _ ⟨he, hk⟩ => ⟨he, atB_kept hd hlo hx hb hk⟩
          | none =>
            exact (short_new A D ρ fb w hd b.low q1 q2 q3 s t hl htm h1 fa n (by omega) hm hg (by omega)).mono fun _ _ ⟨he, hk⟩ => ⟨he, atB_kept hd hlo hx hb hk⟩
        · have e : min fn (t.size : Int) = t.size := by omega
          rw [e, Int.toNat_natCast, List.take_of_length_le (by omega)]
          unfold layD
          cases hg : nmGet D.tick.names s with
          | some i =>
            obtain ⟨hf, hp⟩ := h'.file (s := s) (i := i) hg
            exact (short_old_all A D ρ fb w hd b.low q1 s t hl htm h1 fa fn (by omega) hm i _ hg hf (hbig i _ hf)).mono fun _ _ ⟨he, hk⟩ => ⟨he, atB_kept hd hlo hx hb hk⟩
          | none =>
            exact (short_new_all A D ρ fb w hd b.low q1 q2 q3 s t hl htm h1 fa fn (by omega) hm hg (by omega)).mono fun _ _ ⟨he, hk⟩ => ⟨he, atB_kept hd hlo hx hb hk⟩
      · have hw : writeK D t = -1 := by unfold writeK; rw [hm]; simp [c2]
        rw [hw, if_pos (by decide), h3]
        exact (write_hit A D ρ fb w hd b.low q1 s t h1 fa fk fn (by simpa using c2) hm).mono fun _ _ ⟨he, hk⟩ => ⟨he, atB_kept hd hlo hx hb hk⟩
  · rw [if_pos rfl]
    exact (write_empty A s t (by simpa using h1) w).mono fun _ _ ⟨he, hw⟩ => ⟨he, by subst hw; exact ⟨h', Stay.refl _ _⟩⟩
theorem AtB.readD (h : AtB w0 A D X w) (s : ByteArray) (hl : s.size ≤ maxLen) :
    Calls Try.prog 25 #[.pointer (some ⟨A, 0, none⟩), .string s] w fun e w' => e = .returned (.tuple #[.string (readD D s), .int .i64 (askD D s)]) ∧ w = w' := by
  unfold Dk.readD
  rcases askD_ways D s with ⟨h1, h2⟩ | ⟨h1, hg, h2⟩ | ⟨i, h1, hg, h2⟩ <;> rw [h2]
  · rw [if_pos h1]; exact read_empty A s (by simpa using h1) w
  · rw [if_neg (by rw [h1]; decide), hg]; exact h.read_none s hl h1 hg
  · rw [if_neg (by rw [h1]; decide), hg]; exact h.read_some s hl h1 i _ hg (h.file hg).1
theorem AtB.stepsD (h : AtB w0 A D X w) : Calls Try.prog 29 #[.pointer (some ⟨A, 0, none⟩)] w fun e w' => e = .returned (.int .i64 D.steps) ∧ w = w' :=
  let ⟨ρ, fb, h1, _, _, _⟩ := h; steps_any A D ρ fb w h1
theorem AtB.namesD (h : AtB w0 A D X w) (hnm : D.names.length ≤ 1099511627776) : Calls Try.prog 27 #[.pointer (some ⟨A, 0, none⟩)] w (NamesOut w D.names) :=
  let ⟨ρ, fb, h1, _, _, _⟩ := h; names_any A D ρ fb w h1 hnm
end
end Go.Proofs.Ytblhbkhehddccaa
