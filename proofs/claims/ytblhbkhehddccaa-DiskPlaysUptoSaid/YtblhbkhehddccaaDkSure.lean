/- What must come whatever the input of the laws of disks is. Conditions: none. -/
import Derived.Test.YtblhbkhehddccaaDkAt
namespace Go.Proofs.Ytblhbkhehddccaa
open Go.RowKit Dk

theorem toL (s : ByteArray) : s.toList = s.data.toList := Go.ByteArray.toList_eq s
theorem full (s : ByteArray) (h : s.data.toList.isEmpty = false) : s.toList.isEmpty = false := by rw [toL]; exact h
theorem unlike (s t : ByteArray) (h : (s.data.toList == t.data.toList) = false) : (s.toList == t.toList) = false := by rw [toL, toL]; exact h
def nA : Nm := ⟨#[97]⟩
def nB : Nm := ⟨#[98]⟩
def nQ : Nm := ⟨#[113]⟩
def dOld : ByteArray := ⟨#[111, 108, 100]⟩
def dNew : ByteArray := ⟨#[110, 101, 119]⟩
def q1 : DSt := ⟨[(nA, 0)], [[(nA, none)]], [⟨[111, 108, 100], 0⟩], 1, []⟩
def q2 : DSt := ⟨[(nA, 0)], [[(nA, none)]], [⟨[111, 108, 100], 3⟩], 2, []⟩
def q3 : DSt := ⟨[(nA, 0)], [], [⟨[111, 108, 100], 3⟩], 3, []⟩
def q4 : DSt := ⟨[(nA, 0), (nB, 1)], [[(nB, none)]], [⟨[111, 108, 100], 3⟩, ⟨[110, 101, 119], 0⟩], 4, []⟩
def q5 : DSt := ⟨[(nA, 0), (nB, 1)], [[(nB, none)]], [⟨[111, 108, 100], 3⟩, ⟨[110, 101, 119], 3⟩], 5, []⟩
def q6 : DSt := ⟨[(nA, 1)], [[(nB, none)], [(nB, some 1), (nA, some 0)]], [⟨[111, 108, 100], 3⟩, ⟨[110, 101, 119], 3⟩], 6, []⟩
def q7 : DSt := ⟨[(nA, 0), (nB, 1)], [], [⟨[111, 108, 100], 3⟩, ⟨[110, 101, 119], 3⟩], 6, []⟩
theorem e1 : ({ more new.tick nA with files := (more new.tick nA).files.set new.files.length (FileC.mk dOld.data.toList 0) } : DSt) = q1 := by kernel_rfl
theorem e2 : ({ q1.tick with files := q1.files.set 0 (syncF ⟨[111, 108, 100], 0⟩) } : DSt) = q2 := by kernel_rfl
theorem e3 : DSt.close q2.tick = q3 := by kernel_rfl
theorem e4 : ({ more q3.tick nB with files := (more q3.tick nB).files.set q3.files.length (FileC.mk dNew.data.toList 0) } : DSt) = q4 := by kernel_rfl
theorem e5 : ({ q4.tick with files := q4.files.set 1 (syncF ⟨[110, 101, 119], 0⟩) } : DSt) = q5 := by kernel_rfl
theorem e6 : q5.tick.relink [(nB, none), (nA, some 1)] = q6 := by kernel_rfl
theorem e7 : q6.crash 1 [] = q7 := by kernel_rfl
theorem i_none (w : World) : IntsAt w (.slice none 0 0) [] := .inl ⟨rfl, _, _, rfl⟩

set_option maxHeartbeats 2000000 in
set_option maxRecDepth 100000 in
theorem sure_yes (w : World) :
    Calls Try.prog 7 #[] w fun e w' => e = .returned (.bool true) ∧ Below w.heap.size w w' := by
  go_enter Try.func7, Try.ntmps7
  go_wp2_with fail
  refine (at_new w).mono ?_
  rintro e w0 ⟨rfl, h0⟩
  generalize w.heap.size = A at h0
  have H0 := Lib.hid h0
  clear h0
  go_wp2_with fail
  refine (H0.out.write_new (by decide) (by decide) (by decide) (by decide) nA dOld (by decide) (by decide) (full _ rfl) (by rfl) (by rfl) (by decide)).mono ?_
  rintro e w1 ⟨rfl, h1⟩
  rw [e1] at h1
  rw [show (dOld.size : Int) = 3 from rfl]
  have H1 := Lib.hid h1
  clear h1
  go_wp2_with fail
  refine (H1.out.sync (by decide) (by decide) nA (by decide) (full _ rfl) 0 ⟨[111, 108, 100], 0⟩ (by kernel_rfl) (by rfl) (by rfl)).mono ?_
  rintro e w2 ⟨rfl, h2⟩
  rw [e2] at h2
  have H2 := Lib.hid h2
  clear h2
  go_wp2_with fail
  refine (H2.out.syncNames (by decide) (by decide) (by rfl)).mono ?_
  rintro e w3 ⟨rfl, h3⟩
  rw [e3] at h3
  have H3 := Lib.hid h3
  clear h3
  go_wp2_with fail
  refine (H3.out.write_new (by decide) (by decide) (by decide) (by decide) nB dNew (by decide) (by decide) (full _ rfl) (by rfl) (by kernel_rfl) (by decide)).mono ?_
  rintro e w4 ⟨rfl, h4⟩
  rw [e4] at h4
  have H4 := Lib.hid h4
  clear h4
  go_wp2_with fail
  refine (H4.out.sync (by decide) (by decide) nB (by decide) (full _ rfl) 1 ⟨[110, 101, 119], 0⟩ (by kernel_rfl) (by rfl) (by rfl)).mono ?_
  rintro e w5 ⟨rfl, h5⟩
  rw [e5] at h5
  have H5 := Lib.hid h5
  clear h5
  go_wp2_with fail
  refine (H5.out.rename (by decide) (by decide) (by decide) (by decide) nB nA (by decide) (by decide) (full _ rfl) (full _ rfl) (unlike _ _ (by decide)) 1 (by kernel_rfl) (by rfl)).mono ?_
  rintro e w6 ⟨rfl, h6⟩
  rw [e6] at h6
  have H6 := Lib.hid h6
  clear h6
  go_wp2_with fail
  refine (H6.out.steps).mono ?_
  rintro e w6' ⟨rfl, rfl⟩
  rw [show q6.steps = 6 from rfl]
  go_wp2_with fail
  refine (H6.out.names (by decide)).mono ?_
  rintro e w7 ⟨⟨p, c, rfl⟩, h7⟩
  rw [show q6.names.length = 1 from rfl]
  have H7 := Lib.hid h7
  clear h7
  go_wp2_with fail
  refine (H7.out.remove_none nQ (by decide) (full _ rfl) (by kernel_rfl)).mono ?_
  rintro e w7' ⟨rfl, rfl⟩
  go_wp2_with fail
  refine (H7.out.crash (by decide) (by decide) 1 1 (by decide) (.slice none 0 0) [] (i_none _) (by decide) (by simp) (.inl rfl)).mono ?_
  rintro e w8 ⟨rfl, h8⟩
  rw [e7] at h8
  have H8 := Lib.hid h8
  clear h8
  go_wp2_with fail
  refine (H8.out.read_some nA (by decide) (full _ rfl) 0 ⟨[111, 108, 100], 3⟩ (by kernel_rfl) (by rfl)).mono ?_
  rintro e w8' ⟨rfl, rfl⟩
  go_wp2_with fail
  refine (H8.out.read_some nB (by decide) (full _ rfl) 1 ⟨[110, 101, 119], 3⟩ (by kernel_rfl) (by rfl)).mono ?_
  rintro e w8' ⟨rfl, rfl⟩
  go_wp2_with fail
  refine (H8.out.plan_bad_one (1, 1, 0) (by decide)).mono ?_
  rintro e w9 ⟨rfl, h9⟩
  have H9 := Lib.hid h9
  clear h9
  go_wp2
  go_ret
  exact ⟨rfl, H9.out.below⟩
end Go.Proofs.Ytblhbkhehddccaa
