/- manifest's call put, by what the disk's calls in it do. Conditions: those that each theorem names. -/
import Derived.Test.YtkbdokakoapooaaGreatDoorMfDk
import Derived.Test.YtkbdokakoapooaaGreatDoorMfDd
namespace Go.Proofs.YtkbdokakoapooaaGreatDoor
set_option linter.unusedVariables false
open Go Go.RowKit Go.Shelf Go.Sort Dk
namespace Mf
abbrev pD (A : Nat) : Value := .pointer (some ⟨A, 0, none⟩)
def WriteC (A : Nat) (s : ByteArray) (w : World) (x : Int) (Q : World → Prop) : Prop :=
  Calls Tryz.prog 76 #[pD A, .string ⟨#[116, 109, 112]⟩, .string s] w fun e w' => (∃ n : Int, e = .returned (.tuple #[.int .i64 n, .int .i64 x])) ∧ Q w'
def SyncC (A : Nat) (w : World) (x : Int) (Q : World → Prop) : Prop :=
  Calls Tryz.prog 77 #[pD A, .string ⟨#[116, 109, 112]⟩] w fun e w' => e = .returned (.int .i64 x) ∧ Q w'
def RenameC (A : Nat) (w : World) (x : Int) (Q : World → Prop) : Prop :=
  Calls Tryz.prog 78 #[pD A, .string ⟨#[116, 109, 112]⟩, .string ⟨#[109, 97, 110, 105, 102, 101, 115, 116]⟩] w fun e w' => e = .returned (.int .i64 x) ∧ Q w'
def PutC (A : Nat) (s : ByteArray) (w : World) (x : Int) (Q : World → Prop) : Prop :=
  Calls Tryz.prog 38 #[pD A, .string s] w fun e w' => e = .returned (.int .i64 x) ∧ Q w'
set_option maxHeartbeats 1000000 in
set_option maxRecDepth 100000 in
theorem put_whole {A : Nat} {s : ByteArray} {w : World} (x : Int) {P1 P2 P3 Q : World → Prop} (HW : WriteC A s w 0 P1) (HS : ∀ w1, P1 w1 → SyncC A w1 0 P2) (HR : ∀ w2, P2 w2 → RenameC A w2 x P3) (HD : ∀ w3, P3 w3 → RemoveD A ⟨#[116, 109, 112]⟩ w3 Q) : PutC A s w x Q := by
  unfold PutC
  go_enter_defers Tryz.func38, Tryz.ntmps38
  go_wp2_with fail
  refine HW.mono ?_
  rintro e w1 ⟨⟨n, rfl⟩, h1⟩
  go_wp2_with fail
  refine (HS w1 h1).mono ?_
  rintro e w2 ⟨rfl, h2⟩
  go_wp2_with fail
  refine (HR w2 h2).mono ?_
  rintro e w3 ⟨rfl, h3⟩
  go_wp2_with fail
  refine leaves_cons (f := 37) (args := #[pD A, .string ⟨#[116, 109, 112]⟩]) (by simp) (by simp [go_sem]) ?_
  refine (HD w3 h3 .returning).mono ?_
  rintro e u' w4 ⟨rfl, ⟨y, rfl⟩, h4⟩
  simp [Leaves, settle, results, Tryz.results38, go_sem]
  exact h4
set_option maxHeartbeats 1000000 in
set_option maxRecDepth 100000 in
theorem put_write {A : Nat} {s : ByteArray} {w : World} {P1 Q : World → Prop} (HW : WriteC A s w 22 P1) (HD : ∀ w3, P1 w3 → RemoveD A ⟨#[116, 109, 112]⟩ w3 Q) : PutC A s w 22 Q := by
  unfold PutC
  go_enter_defers Tryz.func38, Tryz.ntmps38
  go_wp2_with fail
  refine HW.mono ?_
  rintro e w1 ⟨⟨n, rfl⟩, h1⟩
  go_wp2_with fail
  refine leaves_cons (f := 37) (args := #[pD A, .string ⟨#[116, 109, 112]⟩]) (by simp) (by simp [go_sem]) ?_
  refine (HD w1 h1 .returning).mono ?_
  rintro e u' w4 ⟨rfl, ⟨y, rfl⟩, h4⟩
  simp [Leaves, settle, results, Tryz.results38, go_sem]
  exact h4
set_option maxHeartbeats 1000000 in
set_option maxRecDepth 100000 in
theorem put_sync {A : Nat} {s : ByteArray} {w : World} {P1 P2 Q : World → Prop} (HW : WriteC A s w 0 P1) (HS : ∀ w1, P1 w1 → SyncC A w1 22 P2) (HD : ∀ w3, P2 w3 → RemoveD A ⟨#[116, 109, 112]⟩ w3 Q) : PutC A s w 22 Q := by
  unfold PutC
  go_enter_defers Tryz.func38, Tryz.ntmps38
  go_wp2_with fail
  refine HW.mono ?_
  rintro e w1 ⟨⟨n, rfl⟩, h1⟩
  go_wp2_with fail
  refine (HS w1 h1).mono ?_
  rintro e w2 ⟨rfl, h2⟩
  go_wp2_with fail
  refine leaves_cons (f := 37) (args := #[pD A, .string ⟨#[116, 109, 112]⟩]) (by simp) (by simp [go_sem]) ?_
  refine (HD w2 h2 .returning).mono ?_
  rintro e u' w4 ⟨rfl, ⟨y, rfl⟩, h4⟩
  simp [Leaves, settle, results, Tryz.results38, go_sem]
  exact h4
end Mf
end Go.Proofs.YtkbdokakoapooaaGreatDoor
