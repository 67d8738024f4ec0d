/- The document's disk: has it a file of that name? Conditions: those that each theorem names. -/
import Derived.Test.YtioidkbpjkcjeaaGreatDoorRfBoth
namespace Go.Proofs.YtioidkbpjkcjeaaGreatDoor
set_option linter.unusedVariables false
open Go Go.RowKit Dk
section
variable {w0 w : World} {A B : Nat} {Y : Nat → Prop} {D D' : DSt} {M : RSt} {c k : Nat} {φ : Nat → Nat}
def hasR (M : RSt) (s : Nm) : Bool := decide (0 ≤ fileNo M.now s)
set_option maxHeartbeats 1000000 in
set_option maxRecDepth 100000 in
theorem rhas_any {X : Nat → Prop} (M : RSt) (s : ByteArray) (w : World) (h : RfAt w B X M) (hn : M.now.length ≤ maxLen) :
    Calls Tryz.prog 34 #[.pointer (some ⟨B, 0, none⟩), .string s] w fun e w' => e = .returned (.bool (hasR M s)) ∧ w' = w := by
  obtain ⟨fv, nv, lv, ov, pv, cs, ht⟩ := h
  have HF := Lib.hid (rfind_any M.now nv s w ht.now hn)
  obtain ⟨p, c, rfl⟩ := ht.now.form
  obtain ⟨⟨a0, a1, a2⟩, a3, a4, a5⟩ := ht.cells
  unfold hasR
  generalize fileNo M.now s = F at *
  generalize M.now.length = n at *
  clear ht hn a0 a2 a3 a4 a5
  go_enter Tryz.func34, Tryz.ntmps34
  go_wp2_with fail
  refine HF.out.mono ?_
  rintro e w' ⟨rfl, rfl⟩
  go_wp2_with fail
  go_ret
  exact ⟨rfl, rfl⟩
theorem hasR_ask (M : RSt) (s : Nm) (hs : s.toList.isEmpty = false) : hasR M s = decide (askE M s = 0) := by
  unfold hasR
  rcases ask_ways M s with ⟨h, _⟩ | ⟨_, _, h1, _, h2⟩ | ⟨i, _, _, h1, _, h2⟩
  · rw [hs] at h; cases h
  · rw [h1, h2]; rfl
  · rw [h1, h2]; simp
end
end Go.Proofs.YtioidkbpjkcjeaaGreatDoor
