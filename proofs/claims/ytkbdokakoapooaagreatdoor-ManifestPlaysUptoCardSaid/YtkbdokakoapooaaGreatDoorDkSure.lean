/- What must come whatever the input of the laws of disks is. Conditions: none. -/
import Derived.Test.YtkbdokakoapooaaGreatDoorGaF
namespace Go.Proofs.YtkbdokakoapooaaGreatDoor
open Go.RowKit Dk

theorem toL (s : ByteArray) : s.toList = s.data.toList := Go.ByteArray.toList_eq s
theorem full (s : ByteArray) (h : s.data.toList.isEmpty = false) : s.toList.isEmpty = false := by rw [toL]; exact h
theorem unlike (s t : ByteArray) (h : (s.data.toList == t.data.toList) = false) : (s.toList == t.toList) = false := by rw [toL, toL]; exact h
def nA : Nm := ⟨#[97]⟩
def nB : Nm := ⟨#[98]⟩
def nQ : Nm := ⟨#[113]⟩
def dOld : ByteArray := ⟨#[111, 108, 100]⟩
def dNew : ByteArray := ⟨#[110, 101, 119]⟩
def q1 : DSt := ⟨[(nA, 0)], [[(nA, none)]], [⟨[111, 108, 100], 0⟩], 1, []⟩
def q2 : DSt := ⟨[(nA, 0)], [[(nA, none)]], [⟨[111, 108, 100], 3⟩], 2, []⟩
def q3 : DSt := ⟨[(nA, 0)], [], [⟨[111, 108, 100], 3⟩], 3, []⟩
def q4 : DSt := ⟨[(nA, 0), (nB, 1)], [[(nB, none)]], [⟨[111, 108, 100], 3⟩, ⟨[110, 101, 119], 0⟩], 4, []⟩
def q5 : DSt := ⟨[(nA, 0), (nB, 1)], [[(nB, none)]], [⟨[111, 108, 100], 3⟩, ⟨[110, 101, 119], 3⟩], 5, []⟩
def q6 : DSt := ⟨[(nA, 1)], [[(nB, none)], [(nB, some 1), (nA, some 0)]], [⟨[111, 108, 100], 3⟩, ⟨[110, 101, 119], 3⟩], 6, []⟩
def q7 : DSt := ⟨[(nA, 0), (nB, 1)], [], [⟨[111, 108, 100], 3⟩, ⟨[110, 101, 119], 3⟩], 6, []⟩
theorem e1 : ({ more new.tick nA with files := (more new.tick nA).files.set new.files.length (FileC.mk dOld.data.toList 0) } : DSt) = q1 := by kernel_rfl
theorem e2 : ({ q1.tick with files := q1.files.set 0 (syncF ⟨[111, 108, 100], 0⟩) } : DSt) = q2 := by kernel_rfl
theorem e3 : DSt.close q2.tick = q3 := by kernel_rfl
theorem e4 : ({ more q3.tick nB with files := (more q3.tick nB).files.set q3.files.length (FileC.mk dNew.data.toList 0) } : DSt) = q4 := by kernel_rfl
theorem e5 : ({ q4.tick with files := q4.files.set 1 (syncF ⟨[110, 101, 119], 0⟩) } : DSt) = q5 := by kernel_rfl
theorem e6 : q5.tick.relink [(nB, none), (nA, some 1)] = q6 := by kernel_rfl
theorem e7 : q6.crash 1 [] = q7 := by kernel_rfl
theorem i_none (w : World) : IntsAt w (.slice none 0 0) [] := .inl ⟨rfl, _, _, rfl⟩

end Go.Proofs.YtkbdokakoapooaaGreatDoor
