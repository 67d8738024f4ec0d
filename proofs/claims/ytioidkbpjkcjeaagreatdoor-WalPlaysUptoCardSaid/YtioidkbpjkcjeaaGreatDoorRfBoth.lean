/- Both disks in one world: each call of the one leaves the other as it was, and blocks of others stay. Conditions: those that each theorem names. -/
import Derived.Test.YtioidkbpjkcjeaaGreatDoorGaF
namespace Go.Proofs.YtioidkbpjkcjeaaGreatDoor
set_option linter.unusedVariables false
open Go.RowKit Dk
/-- The program's disk at A holds D, the document's at B holds M; both were made since w0; the blocks Y are there and no disk's. -/
def Two (w0 : World) (A B : Nat) (Y : Nat → Prop) (D : DSt) (M : RSt) (w : World) : Prop := ∃ X, AtB w0 A D (fun b => X b ∨ Y b) w ∧ RfAt w B X M ∧ ∀ b, X b → w0.heap.size ≤ b ∧ ¬ Y b
section
variable {w0 w : World} {A B : Nat} {Y : Nat → Prop} {D D' : DSt} {M M' : RSt} {c k : Nat} {φ : Nat → Nat}
theorem RfAt.lt {X : Nat → Prop} (h : RfAt w B X M) : ∀ b, X b → b < w.heap.size := let ⟨_, _, _, _, _, _, h⟩ := h; h.lt
theorem Two.below (h : Two w0 A B Y D M w) : Below w0.heap.size w0 w := let ⟨_, h1, _, _⟩ := h; h1.below
theorem Two.lt (h : Two w0 A B Y D M w) {b : Nat} (hb : Y b) : b < w.heap.size := let ⟨_, h1, _, _⟩ := h; h1.lt (.inr hb)
theorem Two.others (h : Two w0 A B Y D M w) {w' : World} (hb : Below w.heap.size w w') : Two w0 A B Y D M w' := let ⟨X, h1, h2, h3⟩ := h; ⟨X, h1.others hb, h2.below hb, h3⟩
theorem Two.alloc (h : Two w0 A B Y D M w) (o : Obj) : Two w0 A B Y D M (w.alloc o) := h.others (belowNew w o)
theorem Two.drew (h : Two w0 A B Y D M w) : Two w0 A B Y D M w.drew := h.others (Below.refl _ _).drew
/-- New blocks come to those that stay, or some go. -/
theorem Two.add (h : Two w0 A B Y D M w) {w' : World} (hb : Below w.heap.size w w') {Y' : Nat → Prop} (hy : ∀ b, Y' b → Y b ∨ (w.heap.size ≤ b ∧ b < w'.heap.size)) : Two w0 A B Y' D M w' := by
  obtain ⟨X, h1, h2, h3⟩ := h
  refine ⟨X, h1.add hb (fun b hx => hx.elim (fun c => .inl (.inl c)) (fun c => (hy b c).imp .inr id)), h2.below hb, fun b hx => ⟨(h3 b hx).1, fun c => ?_⟩⟩
  rcases hy b c with e | e
  · exact (h3 b hx).2 e
  · have := h2.lt b hx; omega
/-- A store into one of these blocks. -/
theorem Two.set (h : Two w0 A B Y D M w) (g i : Nat) (v : Value) (hg : Y g) (h0 : w0.heap.size ≤ g) : Two w0 A B Y D M (w.setCell ⟨g, i, none⟩ v) := by
  obtain ⟨X, h1, h2, h3⟩ := h
  refine ⟨X, h1.set g i v (.inr hg) h0, h2.kept (by simp [World.setCell]) (fun b hx => heap_setCell_other _ _ _ _ (fun e => (h3 b hx).2 (by rw [e]; exact hg))), h3⟩
/-- A call of the program's disk. -/
theorem Two.prog (h : Two w0 A B Y D M w) {P : Program} {f : FuncId} {av : Array Value} {e0 : Ending} (c : ∀ X, (∀ b, Y b → X b) → AtB w0 A D X w → Calls P f av w fun e w' => e = e0 ∧ AtB w0 A D' X w' ∧ Stay X w w') :
    Calls P f av w fun e w' => e = e0 ∧ Two w0 A B Y D' M w' ∧ Stay Y w w' :=
  let ⟨X, h1, h2, h3⟩ := h; (c _ (fun _ hb => .inr hb) h1).mono fun _ _ ⟨he, k1, k2⟩ => ⟨he, ⟨X, k1, h2.kept k2.1 (fun b hb => k2.2 b (.inl hb)), h3⟩, k2.1, fun b hb => k2.2 b (.inr hb)⟩
/-- A call of the document's. -/
theorem Two.doc (h : Two w0 A B Y D M w) {P : Program} {f : FuncId} {av : Array Value} {e0 : Ending} (c : ∀ X, RfAt w B X M → Calls P f av w fun e w' => e = e0 ∧ RfOp w B X M' w') :
    Calls P f av w fun e w' => e = e0 ∧ Two w0 A B Y D M' w' ∧ Stay Y w w' := by
  obtain ⟨X, h1, h2, h3⟩ := h
  refine (c X h2).mono fun _ w' ⟨he, X', k1, k2, k3⟩ => ⟨he, ⟨X', ?_, k1, fun b hb => (k2 b hb).elim (h3 b) (fun hc => ⟨Nat.le_trans h1.below.size hc, fun hy => ?_⟩)⟩, k3.size, fun b hb => k3.block b (h1.lt (.inr hb)) (fun hx => (h3 b hx).2 hb)⟩
  · obtain ⟨ρ, fb, d1, d2, d3, d4⟩ := h1
    refine ⟨ρ, fb, d1.others (Fr.others k3.os k3.tape k3.output k3.size (fun b hlt hn => k3.block b hlt (fun hx => hn (d3 b (.inl hx)).2)) d1.out), d2, fun b hx => ?_, d4.trans ⟨k3.os, k3.tape, k3.output, k3.size, fun b hb => k3.block b (Nat.lt_of_lt_of_le hb d4.size) (fun hx => by have := (h3 b hx).1; omega)⟩⟩
    rcases hx with hx | hx
    · refine ⟨k1.lt b hx, ?_⟩
      rcases k2 b hx with c | c
      · exact (d3 b (.inl c)).2
      · exact d1.out b c
    · exact ⟨Nat.lt_of_lt_of_le (d3 b (.inr hx)).1 k3.size, (d3 b (.inr hx)).2⟩
  · have := h1.lt (.inr hy); omega
/-! ### call by call -/
theorem Two.pWrite (h : Two w0 A B Y D M w) (b : DBd c k D) (hk : k ≤ 1048577) (hc : c ≤ 4194304) (s t : ByteArray) (hl : s.size ≤ maxLen) (ht : t.size ≤ c) :
    Calls Tryz.prog 61 #[.pointer (some ⟨A, 0, none⟩), .string s, .string t] w fun e w' => e = .returned (.tuple #[.int .i64 (writeD D s t).1, .int .i64 (writeD D s t).2.1]) ∧ Two w0 A B Y (writeD D s t).2.2 M w' ∧ Stay Y w w' :=
  h.prog fun _ _ a => a.writeD b hk hc s t hl ht
theorem Two.rWrite (h : Two w0 A B Y D' M w) (b : DBd c k D) (m : MBd c k M) (tw : Dk.Twin φ D M) (hk : k ≤ 1048577) (hc : c ≤ 4194304) (s t : ByteArray) (ht : t.size ≤ c) :
    Calls Tryz.prog 35 #[.pointer (some ⟨B, 0, none⟩), .string s, .string t] w fun e w' => e = .returned (.tuple #[.int .i64 (writeD D s t).1, .int .i64 (writeD D s t).2.1]) ∧ Two w0 A B Y D' (writeR M s t).2.2 w' ∧ Stay Y w w' := by
  obtain ⟨e1, e2, _⟩ := two_write tw b.plan s t
  obtain ⟨o1, o2, o3⟩ := bd_ok b m tw hk
  rw [← e1, ← e2]
  refine h.doc fun X a => rwrite_any B X M s t w a o1 (tw.filed s) o3 (fun i f hf => ?_) (by omega)
  have := (m.data f (List.mem_of_getElem? hf)).2
  have : k * c ≤ 1048577 * 4194304 := Nat.mul_le_mul hk hc
  omega
theorem Two.pSync (h : Two w0 A B Y D M w) (b : DBd c k D) (hk : k ≤ 1048577) (s : ByteArray) (hl : s.size ≤ maxLen) :
    Calls Tryz.prog 64 #[.pointer (some ⟨A, 0, none⟩), .string s] w fun e w' => e = .returned (.int .i64 (syncD D s).1) ∧ Two w0 A B Y (syncD D s).2 M w' ∧ Stay Y w w' :=
  h.prog fun _ _ a => a.syncD b hk s hl
theorem Two.rSync (h : Two w0 A B Y D' M w) (b : DBd c k D) (m : MBd c k M) (tw : Dk.Twin φ D M) (hk : k ≤ 1048577) (s : ByteArray) :
    Calls Tryz.prog 39 #[.pointer (some ⟨B, 0, none⟩), .string s] w fun e w' => e = .returned (.int .i64 (syncD D s).1) ∧ Two w0 A B Y D' (syncR M s).2 w' ∧ Stay Y w w' := by
  rw [← (two_sync tw s).1]
  exact h.doc fun X a => rsync_any B X M s w a (bd_ok b m tw hk).1 (tw.filed s)
theorem Two.pCut (h : Two w0 A B Y D M w) (b : DBd c k D) (hk : k ≤ 1048577) (s : ByteArray) (z : Int) (hl : s.size ≤ maxLen) :
    Calls Tryz.prog 79 #[.pointer (some ⟨A, 0, none⟩), .string s, .int .i64 z] w fun e w' => e = .returned (.int .i64 (cutD D s z).1) ∧ Two w0 A B Y (cutD D s z).2 M w' ∧ Stay Y w w' :=
  h.prog fun _ _ a => a.cutD b hk s z hl
/-- How far the document's cut goes. -/
def cutN (M : RSt) (s : Nm) (z : Int) : Nat := (max 0 (min z ((fileOf M s).data.length : Int))).toNat
theorem cutN_is (M : RSt) (s : Nm) (z : Int) : max 0 (min z ((fileOf M s).data.length : Int)) = (cutN M s z : Int) := by unfold cutN; omega
theorem Two.rCut (h : Two w0 A B Y D' M w) (b : DBd c k D) (m : MBd c k M) (tw : Dk.Twin φ D M) (hk : k ≤ 1048577) (s : ByteArray) (z : Int) :
    Calls Tryz.prog 38 #[.pointer (some ⟨B, 0, none⟩), .string s, .int .i64 z] w fun e w' => e = .returned (.int .i64 (cutD D s z).1) ∧ Two w0 A B Y D' (cutR M s (cutN M s z)).2 w' ∧ Stay Y w w' := by
  rw [← (two_cut tw s z _ (cutN_is M s z)).1]
  exact h.doc fun X a => rcut_any B X M s z _ w a (bd_ok b m tw hk).1 (tw.filed s) (cutN_is M s z)
theorem Two.pSyncNames (h : Two w0 A B Y D M w) (b : DBd c k D) (hk : k ≤ 1048577) :
    Calls Tryz.prog 74 #[.pointer (some ⟨A, 0, none⟩)] w fun e w' => e = .returned (.int .i64 (syncNamesD D).1) ∧ Two w0 A B Y (syncNamesD D).2 M w' ∧ Stay Y w w' :=
  h.prog fun _ _ a => a.syncNamesD b hk
theorem Two.rSyncNames (h : Two w0 A B Y D' M w) (b : DBd c k D) (m : MBd c k M) (tw : Dk.Twin φ D M) (hk : k ≤ 1048577) :
    Calls Tryz.prog 36 #[.pointer (some ⟨B, 0, none⟩)] w fun e w' => e = .returned (.int .i64 (syncNamesD D).1) ∧ Two w0 A B Y D' (syncNamesR M).2 w' ∧ Stay Y w w' := by
  rw [← (two_syncNames tw).1]
  exact h.doc fun X a => rsyncNames_any B X M w a (bd_ok b m tw hk).1
/-- A plan, whose row lies in one of the blocks that stay. -/
theorem Two.pPlan (h : Two w0 A B Y D M w) (p : Option Addr) (c : Nat) (l : List (Int × Int × Int)) (hl : FaultsAt w p c l) (hs : ∀ g, (Value.slice p l.length c).ownBlock = some g → Y g) (hr : ∀ f ∈ l, -9223372036854775808 ≤ f.1 ∧ f.1 ≤ 9223372036854775807) :
    Calls Tryz.prog 22 #[.pointer (some ⟨A, 0, none⟩), .slice p l.length c] w fun e w' => e = .returned (.int .i64 (planD D l).1) ∧ Two w0 A B Y (planD D l).2 M w' ∧ Stay Y w w' :=
  h.prog fun _ hy a => a.planD p c l hl (fun g hg => hy g (hs g hg)) hr
theorem Two.rPlan (h : Two w0 A B Y D' M w) (tw : Dk.Twin φ D M) (p : Option Addr) (c : Nat) (l : List (Int × Int × Int)) (hl : FaultsAt w p c l) :
    Calls Tryz.prog 23 #[.pointer (some ⟨B, 0, none⟩), .slice p l.length c] w fun e w' => e = .returned (.int .i64 (planD D l).1) ∧ Two w0 A B Y D' (planR M l).2 w' ∧ Stay Y w w' := by
  rw [← (two_plan tw l).1]
  exact h.doc fun X a => rplan_any B X M p c l w a hl
theorem Two.pNames (h : Two w0 A B Y D M w) (b : DBd c k D) (hk : k ≤ 1048577) : Calls Tryz.prog 45 #[.pointer (some ⟨A, 0, none⟩)] w (NamesOut w D.names) :=
  let ⟨_, h1, _, _⟩ := h; h1.namesD (bd_big b hk).2.1
theorem Two.pSteps (h : Two w0 A B Y D M w) : Calls Tryz.prog 21 #[.pointer (some ⟨A, 0, none⟩)] w fun e w' => e = .returned (.int .i64 D.steps) ∧ w' = w :=
  let ⟨_, h1, _, _⟩ := h; h1.stepsD.mono fun _ _ ⟨he, hw⟩ => ⟨he, hw.symm⟩
theorem Two.pRead (h : Two w0 A B Y D M w) (s : ByteArray) (hl : s.size ≤ maxLen) : Calls Tryz.prog 8 #[.pointer (some ⟨A, 0, none⟩), .string s] w fun e w' => e = .returned (.tuple #[.string (readD D s), .int .i64 (askD D s)]) ∧ w' = w :=
  let ⟨_, h1, _, _⟩ := h; (h1.readD s hl).mono fun _ _ ⟨he, hw⟩ => ⟨he, hw.symm⟩
theorem Two.rRead (h : Two w0 A B Y D' M w) (tw : Dk.Twin φ D M) (hn : M.now.length ≤ maxLen) (s : ByteArray) : Calls Tryz.prog 9 #[.pointer (some ⟨B, 0, none⟩), .string s] w fun e w' => e = .returned (.tuple #[.string (readD D s), .int .i64 (askD D s)]) ∧ w' = w := by
  obtain ⟨X, _, h2, _⟩ := h
  rw [← two_read tw s, ← tw.ask s]
  exact rread_any B X M s w h2 hn (tw.filed s)
theorem Two.pCrash (h : Two w0 A B Y D M w) (b : DBd c k D) (hk : k ≤ 1048577) (keep : Int) (kk : Nat) (hkk : max keep 0 = (kk : Int)) (v : Value) (bs : List Int) (hb : IntsAt w v bs) (hbl : bs.length ≤ maxLen) (hbr : ∀ x ∈ bs, -9223372036854775808 ≤ x ∧ x ≤ 9223372036854775807) (hbo : bs = [] ∨ ∀ g, v.ownBlock = some g → g < w0.heap.size) :
    Calls Tryz.prog 24 #[.pointer (some ⟨A, 0, none⟩), .agg #[.int .i64 keep, v]] w fun e w' => e = .returned (.tuple #[]) ∧ Two w0 A B Y (D.crash kk bs) M w' ∧ Stay Y w w' :=
  h.prog fun _ _ a => a.crash (bd_big b hk).2.2.2 (bd_big b hk).2.2.1 keep kk hkk v bs hb hbl hbr hbo
end
end Go.Proofs.YtioidkbpjkcjeaaGreatDoor
