/- manifest's call Store over a disk in memory, with at most one fault that cuts a write short. Conditions: those that each theorem names. -/
import Derived.Test.YtkbdokakoapooaaGreatDoorMfPu
namespace Go.Proofs.YtkbdokakoapooaaGreatDoor
set_option linter.unusedVariables false
open Go Go.RowKit Go.Shelf Go.Sort Dk
namespace Mf
theorem nm_len {next : Int} {s : Bs} (h : isNm next s = true) : s.length ≤ 17 := by
  obtain ⟨c, n, rfl, _, _, _, h4⟩ := nm_parts h
  have := dec_len 15 n (by omega)
  simp; omega
theorem flat_len {α : Type} (f : α → Bs) (q : Nat) : ∀ (L : List α), (∀ x ∈ L, (f x).length ≤ q) → (L.flatMap f).length ≤ L.length * q
  | [], _ => by simp
  | x :: L, h => by
    have h1 := flat_len f q L (fun y hy => h y (by simp [hy]))
    have h2 := h x (by simp)
    rw [List.flatMap_cons, List.length_append, List.length_cons, Nat.add_mul]
    omega
theorem enc_small {m : Mn} (h : may m = true) : (encB m).length ≤ 40000 := by
  obtain ⟨h1, h2, h3, h4, h5, h6, h7, _⟩ := (may_iff m).1 h
  obtain ⟨a, ha⟩ := Int.eq_ofNat_of_zero_le (show 0 ≤ m.next by omega)
  obtain ⟨b, hb⟩ := Int.eq_ofNat_of_zero_le h3
  have l1 := dec_len 15 a (by omega)
  have l2 := dec_len 15 b (by omega)
  have l3 := nm_len h6
  have l4 := dec_len 9 (Wl.crcL (bodyB m)) (by have := Wl.crcL_lt (bodyB m); omega)
  have l5 := flat_len (fun s => lineB wSeg (bl s)) 26 m.segs (fun x hx => by
    have := nm_len (h7 x hx)
    simp [lineB, wSeg] at *; omega)
  have e : (bodyB m).length ≤ 39000 := by
    rw [body_eq, ha, hb, itoa_nat, itoa_nat]
    simp only [List.length_append, lineB, List.length_cons, List.length_nil] at l5 ⊢
    simp only [wLode, wNext, wSeq, wLog, List.length_cons, List.length_nil]
    have := Nat.mul_le_mul_right 26 h5
    omega
  unfold encB
  rw [List.length_append]
  have : (tailB (bodyB m)).length ≤ 20 := by
    unfold tailB lineB wSum
    simp; omega
  omega
/-! ### the disk's states -/
def NoS (P : List (Int × Int × Int)) (k : Int) : Prop := ∀ p ∈ P, p.1 ≠ k
theorem tick_no (D : DSt) (h : NoS D.plan (D.steps + 1)) : D.tick = { D with steps := D.steps + 1 } := by
  unfold DSt.tick
  rw [List.filter_eq_self.2 (fun p hp => by simpa using h p hp)]
theorem hit_no (D : DSt) (h : NoS D.plan (D.steps + 1)) : D.hit = none := by
  unfold DSt.hit
  exact List.find?_eq_none.2 (fun p hp => by simpa using h p hp)
def r1 (a : Bs) : DSt := ⟨[(nTmp, 0)], [[(nTmp, none)]], [⟨a, 0⟩], 1, []⟩
def r2 (a : Bs) : DSt := ⟨[(nTmp, 0)], [[(nTmp, none)]], [⟨a, a.length⟩], 2, []⟩
def r3 (a : Bs) : DSt := ⟨[(nMan, 0)], [[(nTmp, none)], [(nTmp, some 0), (nMan, none)]], [⟨a, a.length⟩], 3, []⟩
def r4 (a : Bs) (P : List (Int × Int × Int)) : DSt := ⟨[(nMan, 0)], [], [⟨a, a.length⟩], 4, P⟩
def s5 (a : Bs) (f : FileC) (st : Int) (P : List (Int × Int × Int)) : DSt := ⟨[(nMan, 0), (nTmp, 1)], [[(nTmp, none)]], [⟨a, a.length⟩, f], st, P⟩
def s7 (a b : Bs) (st : Int) (P : List (Int × Int × Int)) : DSt := ⟨[(nMan, 1)], [[(nTmp, none)], [(nTmp, some 1), (nMan, some 0)]], [⟨a, a.length⟩, ⟨b, b.length⟩], st, P⟩
def s8 (a b : Bs) (P : List (Int × Int × Int)) : DSt := ⟨[(nMan, 1)], [], [⟨a, a.length⟩, ⟨b, b.length⟩], 8, P⟩
def lost (a : Bs) (f : FileC) (st : Int) : DSt := ⟨[(nMan, 0)], [[(nTmp, none)], [(nTmp, some 1)]], [⟨a, a.length⟩, f], st, []⟩
theorem ft1 (a : Bs) : ({ more Dk.new.tick nTmp with files := (more Dk.new.tick nTmp).files.set Dk.new.files.length (FileC.mk a 0) } : DSt) = r1 a := by kernel_rfl
theorem ft2 (a : Bs) : ({ (r1 a).tick with files := (r1 a).files.set 0 (syncF ⟨a, 0⟩) } : DSt) = r2 a := by kernel_rfl
theorem ft3 (a : Bs) : (r2 a).tick.relink [(nTmp, none), (nMan, some 0)] = r3 a := by kernel_rfl
theorem ft4 (a : Bs) : DSt.close (r3 a).tick = r4 a [] := by kernel_rfl
theorem u5 (a b : Bs) (P : List (Int × Int × Int)) (h : NoS P 5) : ({ more (r4 a P).tick nTmp with files := (more (r4 a P).tick nTmp).files.set (r4 a P).files.length (FileC.mk b 0) } : DSt) = s5 a ⟨b, 0⟩ 5 P := by
  rw [tick_no (r4 a P) h]; kernel_rfl
theorem u5s (a b : Bs) (n : Int) : ({ more (r4 a [(5, 2, n)]).tick nTmp with files := (more (r4 a [(5, 2, n)]).tick nTmp).files.set (r4 a [(5, 2, n)]).files.length (FileC.mk b 0) } : DSt) = s5 a ⟨b, 0⟩ 5 [] := by kernel_rfl
theorem u6 (a b : Bs) (P : List (Int × Int × Int)) (h : NoS P 6) : ({ (s5 a ⟨b, 0⟩ 5 P).tick with files := (s5 a ⟨b, 0⟩ 5 P).files.set 1 (syncF ⟨b, 0⟩) } : DSt) = s5 a ⟨b, b.length⟩ 6 P := by
  rw [tick_no (s5 a ⟨b, 0⟩ 5 P) h]; kernel_rfl
theorem u6s (a : Bs) (f : FileC) (n : Int) : (s5 a f 5 [(6, 2, n)]).tick = s5 a f 6 [] := by kernel_rfl
theorem u7 (a b : Bs) (P : List (Int × Int × Int)) (h : NoS P 7) : (s5 a ⟨b, b.length⟩ 6 P).tick.relink [(nTmp, none), (nMan, some 1)] = s7 a b 7 P := by
  rw [tick_no (s5 a ⟨b, b.length⟩ 6 P) h]; kernel_rfl
theorem u7s (a : Bs) (f : FileC) (n : Int) : (s5 a f 6 [(7, 2, n)]).tick = s5 a f 7 [] := by kernel_rfl
theorem u8 (a b : Bs) (P : List (Int × Int × Int)) (h : NoS P 8) : DSt.close (s7 a b 7 P).tick = s8 a b P := by
  rw [tick_no (s7 a b 7 P) h]; kernel_rfl
theorem u8s (a b : Bs) (n : Int) : (s7 a b 7 [(8, 2, n)]).tick = s7 a b 8 [] := by kernel_rfl
theorem ul (a : Bs) (f : FileC) (st : Int) : (s5 a f st []).tick.relink [(nTmp, none)] = lost a f (st + 1) := by kernel_rfl
/-! ### behind a crash -/
def Has (D : DSt) (l : Bs) : Prop := ∃ i f, nmGet D.names nMan = some i ∧ D.files[i]? = some f ∧ f.data = l
theorem crash_whole (l : Bs) (n : Nat) : (FileC.crash ⟨l, l.length⟩ n).data = l := by
  unfold FileC.crash
  exact List.take_of_length_le (Nat.le_add_right _ _)
theorem crash_all (D : DSt) (k : Nat) (bs : List Int) (h : D.opn.length ≤ k) : D.crash k bs = D.crash D.opn.length bs := by
  unfold DSt.crash DSt.undo
  rw [List.drop_eq_nil_of_le h, List.drop_length]
theorem lost_crash (a : Bs) (f : FileC) (st : Int) (kk : Nat) (x : Int) : Has ((lost a f st).crash kk [x]) a := by
  match kk with
  | 0 => exact ⟨0, _, by kernel_rfl, by kernel_rfl, crash_whole a (left [x] 0)⟩
  | 1 => exact ⟨0, _, by kernel_rfl, by kernel_rfl, crash_whole a (left [x] 0)⟩
  | k + 2 =>
    rw [crash_all (lost a f st) (k + 2) [x] (by simp [lost]), show (lost a f st).opn.length = 2 from rfl]
    exact ⟨0, _, by kernel_rfl, by kernel_rfl, crash_whole a (left [x] 0)⟩
theorem s7_crash (a b : Bs) (st : Int) (P : List (Int × Int × Int)) (kk : Nat) (x : Int) : Has ((s7 a b st P).crash kk [x]) a ∨ Has ((s7 a b st P).crash kk [x]) b := by
  match kk with
  | 0 => exact .inl ⟨0, _, by kernel_rfl, by kernel_rfl, crash_whole a (left [x] 0)⟩
  | 1 => exact .inl ⟨0, _, by kernel_rfl, by kernel_rfl, crash_whole a (left [x] 0)⟩
  | k + 2 =>
    rw [crash_all (s7 a b st P) (k + 2) [x] (by simp [s7]), show (s7 a b st P).opn.length = 2 from rfl]
    exact .inr ⟨1, _, by kernel_rfl, by kernel_rfl, crash_whole b (left [x] 0)⟩
theorem s8_crash (a b : Bs) (P : List (Int × Int × Int)) (kk : Nat) (x : Int) : Has ((s8 a b P).crash kk [x]) b := by
  match kk with
  | 0 => exact ⟨1, _, by kernel_rfl, by kernel_rfl, crash_whole b (left [x] 0)⟩
  | k + 1 =>
    rw [crash_all (s8 a b P) (k + 1) [x] (by simp [s8]), show (s8 a b P).opn.length = 0 from rfl]
    exact ⟨1, _, by kernel_rfl, by kernel_rfl, crash_whole b (left [x] 0)⟩
structure Out (a b : Bs) (D : DSt) (e : Int) : Prop where
  few : D.names.length + D.opn.flatten.length ≤ 1099511627776 ∧ D.opn.length ≤ 1099511627776
  ans : (e = 0 ∧ ∀ kk x, Has (D.crash kk [x]) b) ∨ (e = 22 ∧ ∀ kk x, Has (D.crash kk [x]) a ∨ Has (D.crash kk [x]) b)
theorem out_lost (a b : Bs) (f : FileC) (st : Int) : Out a b (lost a f st) 22 := ⟨by simp [lost], .inr ⟨rfl, fun kk x => .inl (lost_crash a f st kk x)⟩⟩
theorem out_s7 (a b : Bs) (st : Int) : Out a b (s7 a b st []) 22 := ⟨by simp [s7], .inr ⟨rfl, fun kk x => s7_crash a b st [] kk x⟩⟩
theorem out_s8 (a b : Bs) (P : List (Int × Int × Int)) : Out a b (s8 a b P) 0 := ⟨by simp [s8], .inl ⟨rfl, fun kk x => s8_crash a b P kk x⟩⟩
end Mf
end Go.Proofs.YtkbdokakoapooaaGreatDoor
