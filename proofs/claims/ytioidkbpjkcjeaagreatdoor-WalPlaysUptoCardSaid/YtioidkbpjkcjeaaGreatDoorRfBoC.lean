/- Both disks in one world: a crash of the document's. Conditions: those that each theorem names. -/
import Derived.Test.YtioidkbpjkcjeaaGreatDoorRfBoth
import Derived.Test.YtioidkbpjkcjeaaGreatDoorRfCrashW
namespace Go.Proofs.YtioidkbpjkcjeaaGreatDoor
set_option linter.unusedVariables false
open Go.RowKit Dk
section
variable {w0 w : World} {A B : Nat} {Y : Nat → Prop} {D D' : DSt} {M M' : RSt} {c k : Nat} {φ : Nat → Nat}
theorem Two.rCrash (h : Two w0 A B Y D' M w) (b : DBd c k D) (m : MBd c k M) (tw : Dk.Twin φ D M) (hk : k ≤ 1048577) (hc : c ≤ 4194304) (keep : Int) (kk : Nat) (hkk : max keep 0 = (kk : Int)) (v : Value) (bs : List Int) (hb : IntsAt w v bs) (hbl : bs.length ≤ maxLen) :
    Calls Tryz.prog 25 #[.pointer (some ⟨B, 0, none⟩), .agg #[.int .i64 keep, v]] w fun e w' => e = .returned (.tuple #[]) ∧ Two w0 A B Y D' (M.crash kk bs) w' ∧ Stay Y w w' := by
  have h2 := b.opn
  have e2 := tw.names.1
  refine h.doc fun X a => rcrash_any B X M keep kk hkk v bs w a hb hbl (by omega) (fun n _ => by have := names_bd b tw n; omega) (fun p hp => ?_)
  obtain ⟨f, f1, f2, f3⟩ := files_bd m tw kk p hp
  have : k * c ≤ 1048577 * 4194304 := Nat.mul_le_mul hk hc
  exact ⟨f, f1, f2, by omega⟩
end
end Go.Proofs.YtioidkbpjkcjeaaGreatDoor
