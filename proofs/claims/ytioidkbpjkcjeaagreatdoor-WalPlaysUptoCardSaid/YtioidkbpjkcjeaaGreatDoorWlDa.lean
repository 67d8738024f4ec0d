/- The law's 'do' on both logs: Append, Sync, beside both disks. Conditions: those that each theorem names. -/
import Derived.Test.YtioidkbpjkcjeaaGreatDoorWlDo
namespace Go.Proofs.YtioidkbpjkcjeaaGreatDoor
set_option linter.unusedVariables false
open Go Go.RowKit Dk
namespace Wl
/-- What a call of the program's log leaves, beside the document's disk. -/
def PLogQ (w0 : World) (A B L : Nat) (Y : Nat → Prop) (w : World) (R : LogR) (M : RSt) (e : Ending) (w' : World) : Prop :=
  e = .returned (.int .i64 R.err) ∧ w'.heap[L]? = some (logO A (R.size : Int) (R.last : Int) R.br) ∧ Two w0 A B (fun y => Y y ∨ y = L) R.D M w' ∧ Stay Y w w'
section
variable {w0 w : World} {A B L : Nat} {Y : Nat → Prop} {D : DSt} {M : RSt} {c k : Nat}
theorem two_log {R : LogR} {P : Program} {f : FuncId} {av : Array Value} (h : Two w0 A B (fun y => Y y ∨ y = L) D M w) (hY : ¬ Y L)
    (hc : ∀ X, ¬ X L → AtB w0 A D (fun y => X y ∨ y = L) w → Calls P f av w (LogQ w0 A L X w R)) : Calls P f av w (PLogQ w0 A B L Y w R M) := by
  obtain ⟨X, h1, h2, h3⟩ := h
  have hx : ¬ (X L ∨ Y L) := fun e => e.elim (fun e => (h3 L e).2 (.inr rfl)) hY
  have ha : AtB w0 A D (fun y => (X y ∨ Y y) ∨ y = L) w := h1.add (Below.refl _ _) (fun b hb => .inl (by
    rcases hb with (k | k) | k
    · exact .inl k
    · exact .inr (.inl k)
    · exact .inr (.inr k)))
  refine (hc (fun y => X y ∨ Y y) hx ha).mono fun e w' ⟨he, hl, k1, k2⟩ => ⟨he, hl, ⟨X, k1.add (Below.refl _ _) (fun b hb => .inl (by
    rcases hb with k | k | k
    · exact .inl (.inl k)
    · exact .inl (.inr k)
    · exact .inr k)), h2.kept k2.1 (fun b hb => k2.2 b (.inl hb)), h3⟩, k2.1, fun b hb => k2.2 b (.inr hb)⟩
theorem pappend_l {sz last : Nat} {br : Bool} (q : Int) (b : ByteArray) (h : Two w0 A B (fun y => Y y ∨ y = L) D M w) (bd : DBd c k D) (hk : k ≤ 1048577) (hc : c ≤ 4194304) (hY : ¬ Y L) (h0 : w0.heap.size ≤ L) (hB : w.heap[L]? = some (logO A (sz : Int) (last : Int) br)) (G : Hd w0)
    (hb : b.size + 20 ≤ c) (hq : -9223372036854775808 ≤ q ∧ q ≤ 9223372036854775807) (hla : last ≤ 4503599627370496) (hsz : sz ≤ 140737488351232) :
    Calls Tryz.prog 17 #[.pointer (some ⟨L, 0, none⟩), .agg #[.int .i64 q, .string b]] w (PLogQ w0 A B L Y w (appD D sz last br q b) M) :=
  two_log h hY fun X hX a => lappend_d q b a bd hk hc hX h0 hB G hb hq hla hsz
theorem psync_l {sz last : Nat} {br : Bool} (h : Two w0 A B (fun y => Y y ∨ y = L) D M w) (bd : DBd c k D) (hk : k ≤ 1048577) (hY : ¬ Y L) (h0 : w0.heap.size ≤ L) (hB : w.heap[L]? = some (logO A (sz : Int) (last : Int) br)) (G : Hd w0) :
    Calls Tryz.prog 19 #[.pointer (some ⟨L, 0, none⟩)] w (PLogQ w0 A B L Y w (syncL D sz last br) M) :=
  two_log h hY fun X hX a => lsync_d a bd hk hX h0 hB G
/-- What an Append, a Sync do to the numbers. -/
theorem app_nums (D : DSt) {sz last : Nat} (br : Bool) (q : Int) (b : ByteArray) (hla : last ≤ 4503599627370496) (hb : b.size + 20 ≤ c) (hsz : sz ≤ k * c) : (appD D sz last br q b).last ≤ 4503599627370496 ∧ (appD D sz last br q b).size ≤ (k + 1) * c ∧ ((appD D sz last br q b).err = 0 → (appD D sz last br q b).last = q) ∧ ((appD D sz last br q b).err ≠ 0 → (appD D sz last br q b).last = last) := by
  have hc : k * c + c = (k + 1) * c := grow_mul k c
  unfold appD
  split
  · exact ⟨hla, by show sz ≤ _; omega, fun e => absurd e (by show (122 : Int) ≠ 0; decide), fun _ => rfl⟩
  split
  · exact ⟨hla, by show sz ≤ _; omega, fun e => absurd e (by show (1 : Int) ≠ 0; decide), fun _ => rfl⟩
  rename_i hbad
  split
  · exact ⟨hla, by show sz ≤ _; omega, fun e => absurd e (by show (1 : Int) ≠ 0; decide), fun _ => rfl⟩
  split
  · rename_i hE
    exact ⟨hla, by show sz ≤ _; omega, fun e => absurd e hE, fun _ => rfl⟩
  · refine ⟨by show q.toNat ≤ _; omega, by show sz + (20 + b.size) ≤ _; omega, fun _ => ?_, fun e => absurd rfl e⟩
    show ((q.toNat : Nat) : Int) = q
    omega
theorem sync_nums (D : DSt) {sz last : Nat} (br : Bool) : (syncL D sz last br).last = last ∧ (syncL D sz last br).size = sz := by
  unfold syncL
  split
  · exact ⟨rfl, rfl⟩
  split <;> exact ⟨rfl, rfl⟩
end
section
variable {w0 w : World} {A B P k : Nat}
set_option maxHeartbeats 2000000 in
set_option maxRecDepth 100000 in
/-- Without a log nothing is done. -/
theorem wdo_none (h : w.heap[P]? = some (pairO A B (.pointer none) (.pointer none) 1)) (kd : Int) (hkd : kd = 0 ∨ kd = 1) (s : ByteArray) (sq st fs fk fn cn : Int) (q : Option Addr) (n2 c2 : Nat) :
    Calls Tryz.prog 7 #[.pointer (some ⟨P, 0, none⟩), dV kd s sq st fs fk fn cn q n2 c2] w fun e w' => e = .returned (.bool true) ∧ Below w.heap.size w w' := by
  have hb : Below w.heap.size w (w.alloc (dO kd s sq st fs fk fn cn q n2 c2)) := below_new w _
  have hlt : P < w.heap.size := by
    rcases Nat.lt_or_ge P w.heap.size with c | c
    · exact c
    · rw [Array.getElem?_eq_none c] at h; cases h
  obtain ⟨-, -, -, p3, -⟩ := pairO_cells ((hb.block P hlt).trans h)
  obtain ⟨⟨c0, -⟩, -⟩ := dO_cells (heap_alloc_new w (dO kd s sq st fs fk fn cn q n2 c2))
  have HB := Lib.hid hb
  clear hb h hlt
  unfold dV
  unfold dO at *
  rcases hkd with rfl | rfl
  all_goals
    go_enter Tryz.func7, Tryz.ntmps7
    go_wp2_with fail
    go_ret
    exact ⟨rfl, HB.out⟩
end
end Wl
end Go.Proofs.YtioidkbpjkcjeaaGreatDoor
