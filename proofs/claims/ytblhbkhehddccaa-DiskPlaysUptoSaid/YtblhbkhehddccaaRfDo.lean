/- The law's 'do' on both disks, deed by deed. Conditions: those that each theorem names. -/
import Derived.Test.YtblhbkhehddccaaRfArgs
import Derived.Deep.RegionHeld3
namespace Go.Proofs.Ytblhbkhehddccaa
set_option linter.unusedVariables false
open Go.RowKit Dk
theorem cellsSeven {w : World} {g : Nat} {a0 a1 a2 a3 a4 a5 a6 : Value} {T : TypeId} {m : Nat × Nat} (h : w.heap[g]? = some (.cells #[a0, a1, a2, a3, a4, a5, a6] T m)) :
    (w.cell? ⟨g, 0, none⟩ = some a0 ∧ w.cell? ⟨g, 1, none⟩ = some a1 ∧ w.cell? ⟨g, 2, none⟩ = some a2 ∧ w.cell? ⟨g, 3, none⟩ = some a3) ∧ w.cell? ⟨g, 4, none⟩ = some a4 ∧ w.cell? ⟨g, 5, none⟩ = some a5 ∧ w.cell? ⟨g, 6, none⟩ = some a6 := by
  refine ⟨⟨?_, ?_, ?_, ?_⟩, ?_, ?_, ?_⟩ <;> simp [World.cell?, h]
abbrev Deed7 (kd : Int) (s t : ByteArray) (z : Int) (fv : Value) (cn : Int) (cv : Value) : Obj := .cells #[.int .i64 kd, .string s, .string t, .int .i64 z, fv, .int .i64 cn, cv] 37
/-- The deed's own block. -/
abbrev YB (g : Nat) : Nat → Prop := fun b => b = g
abbrev Y0 : Nat → Prop := fun _ => False
section
variable {w0 : World} {A B : Nat} {D : DSt} {M : RSt} {k : Nat} {φ : Nat → Nat}
theorem Two.boxed {w : World} (h : Two w0 A B Y0 D M w) (o : Obj) : Two w0 A B (YB w.heap.size) D M (w.alloc o) :=
  h.add (belowNew w o) (fun b hb => .inr ⟨by rw [hb]; exact Nat.le_refl _, by rw [hb]; show _ < (w.heap.push o).size; simp⟩)
theorem Two.unbox {w : World} {Y : Nat → Prop} (h : Two w0 A B Y D M w) : Two w0 A B Y0 D M w := h.add (Below.refl _ _) (fun b hb => hb.elim)
theorem box_cells {w w1 : World} {Y : Nat → Prop} {g : Nat} {kd : Int} {s t : ByteArray} {z : Int} {fv : Value} {cn : Int} {cv : Value} {m : Nat × Nat} (h : w.heap[g]? = some (.cells #[.int .i64 kd, .string s, .string t, .int .i64 z, fv, .int .i64 cn, cv] 37 m)) (st : Stay Y w w1) (hy : Y g) :
    w1.heap[g]? = some (.cells #[.int .i64 kd, .string s, .string t, .int .i64 z, fv, .int .i64 cn, cv] 37 m) := (st.2 g hy).trans h
variable {w : World}
set_option maxHeartbeats 2000000 in
set_option maxRecDepth 100000 in
theorem do_cut (h0 : Two w0 A B Y0 D M w) (b : DBd k D) (m : MBd k M) (tw : Dk.Twin φ D M) (hk : k ≤ 1048577) (s t : ByteArray) (z : Int) (p : Option Addr) (n c : Nat) (cn : Int) (q : Option Addr) (n2 c2 : Nat) (hs : s.size ≤ 1048576) (ht : t.size ≤ 1048576) :
    Calls Try.prog 5 #[.pointer (some ⟨A, 0, none⟩), .pointer (some ⟨B, 0, none⟩), .agg #[.int .i64 1, .string s, .string t, .int .i64 z, .slice p n c, .int .i64 cn, .slice q n2 c2]] w fun e w' => e = .returned (.bool true) ∧ Two w0 A B Y0 ((cutD D s z).2) ((cutR M s (cutN M s z)).2) w' := by
  have hsm : s.size ≤ maxLen := by unfold maxLen; omega
  have htm : t.size ≤ maxLen := by unfold maxLen; omega
  obtain ⟨W0, hW0⟩ : ∃ W0, W0 = w.alloc (Deed7 1 s t z (.slice p n c) cn (.slice q n2 c2)) := ⟨_, rfl⟩
  have hbox := heapLast w (Deed7 1 s t z (.slice p n c) cn (.slice q n2 c2))
  have hy := h0.boxed (Deed7 1 s t z (.slice p n c) cn (.slice q n2 c2))
  rw [← hW0] at hbox hy
  have HC := Lib.hid (fun (W : World) (st : Stay (YB w.heap.size) W0 W) => cellsSeven (box_cells hbox st rfl))
  have HY := Lib.hid hy
  obtain ⟨E, hE⟩ : ∃ E, E = ((cutD D s z).1) := ⟨_, rfl⟩
  have HP := Lib.hid (fun (W : World) (t' : Two w0 A B (YB w.heap.size) D M W) => t'.pCut b hk s z hsm)
  have HR := Lib.hid (fun (W : World) (D' : DSt) (t' : Two w0 A B (YB w.heap.size) D' M W) => t'.rCut b m tw hk s z)
  rw [← hE] at HP HR
  obtain ⟨D1, hD1⟩ : ∃ D1, D1 = ((cutD D s z).2) := ⟨_, rfl⟩
  obtain ⟨M1, hM1⟩ : ∃ M1, M1 = ((cutR M s (cutN M s z)).2) := ⟨_, rfl⟩
  rw [← hD1] at HP ⊢
  rw [← hM1] at HR ⊢
  have mixed : Try.prog.follows .mixedOrders = true := by kernel_rfl
  clear hE hD1 hM1 hy hbox h0 b m tw hk hs ht hsm htm
  go_enter Try.func5, Try.ntmps5
  subst hW0
  simp only [Deed7] at HC HY HP HR
  obtain ⟨⟨c0, c1, cx2, c3⟩, -, -, -⟩ := HC.out _ (Stay.refl _ _)
  go_wp2_with fail
  clear c0
  generalize w.alloc (.cells #[.int .i64 1, .string s, .string t, .int .i64 z, .slice p n c, .int .i64 cn, .slice q n2 c2] 37) = W0 at *
  go_region_held3 (fun W : World => W.cell? ⟨w.heap.size, 1, none⟩ = some (.string s) ∧ W.cell? ⟨w.heap.size, 3, none⟩ = some (.int .i64 z)) (first | assumption | go_keep) (first
    | (go_at_call 10; refine (HP.out _ HY.out.drew).mono ?_; rintro e w1 ⟨rfl, t1, s1⟩; obtain ⟨⟨-, c1, cx2, c3⟩, -, -, -⟩ := HC.out w1 ((show Stay (YB w.heap.size) W0 W0.drew from ⟨Nat.le_refl _, fun _ _ => rfl⟩).trans s1))
    | (go_at_call 11; refine (HR.out _ _ t1).mono ?_; rintro e w2 ⟨rfl, t2, s2⟩; obtain ⟨⟨-, c1, cx2, c3⟩, -, -, -⟩ := HC.out w2 (((show Stay (YB w.heap.size) W0 W0.drew from ⟨Nat.le_refl _, fun _ _ => rfl⟩).trans s1).trans s2)))
  go_wp2_with fail
  go_ret
  exact ⟨rfl, t2.unbox⟩
set_option maxHeartbeats 2000000 in
set_option maxRecDepth 100000 in
theorem do_sync (h0 : Two w0 A B Y0 D M w) (b : DBd k D) (m : MBd k M) (tw : Dk.Twin φ D M) (hk : k ≤ 1048577) (s t : ByteArray) (z : Int) (p : Option Addr) (n c : Nat) (cn : Int) (q : Option Addr) (n2 c2 : Nat) (hs : s.size ≤ 1048576) (ht : t.size ≤ 1048576) :
    Calls Try.prog 5 #[.pointer (some ⟨A, 0, none⟩), .pointer (some ⟨B, 0, none⟩), .agg #[.int .i64 2, .string s, .string t, .int .i64 z, .slice p n c, .int .i64 cn, .slice q n2 c2]] w fun e w' => e = .returned (.bool true) ∧ Two w0 A B Y0 ((syncD D s).2) ((syncR M s).2) w' := by
  have hsm : s.size ≤ maxLen := by unfold maxLen; omega
  have htm : t.size ≤ maxLen := by unfold maxLen; omega
  obtain ⟨W0, hW0⟩ : ∃ W0, W0 = w.alloc (Deed7 2 s t z (.slice p n c) cn (.slice q n2 c2)) := ⟨_, rfl⟩
  have hbox := heapLast w (Deed7 2 s t z (.slice p n c) cn (.slice q n2 c2))
  have hy := h0.boxed (Deed7 2 s t z (.slice p n c) cn (.slice q n2 c2))
  rw [← hW0] at hbox hy
  have HC := Lib.hid (fun (W : World) (st : Stay (YB w.heap.size) W0 W) => cellsSeven (box_cells hbox st rfl))
  have HY := Lib.hid hy
  obtain ⟨E, hE⟩ : ∃ E, E = ((syncD D s).1) := ⟨_, rfl⟩
  have HP := Lib.hid (fun (W : World) (t' : Two w0 A B (YB w.heap.size) D M W) => t'.pSync b hk s hsm)
  have HR := Lib.hid (fun (W : World) (D' : DSt) (t' : Two w0 A B (YB w.heap.size) D' M W) => t'.rSync b m tw hk s)
  rw [← hE] at HP HR
  obtain ⟨D1, hD1⟩ : ∃ D1, D1 = ((syncD D s).2) := ⟨_, rfl⟩
  obtain ⟨M1, hM1⟩ : ∃ M1, M1 = ((syncR M s).2) := ⟨_, rfl⟩
  rw [← hD1] at HP ⊢
  rw [← hM1] at HR ⊢
  have mixed : Try.prog.follows .mixedOrders = true := by kernel_rfl
  clear hE hD1 hM1 hy hbox h0 b m tw hk hs ht hsm htm
  go_enter Try.func5, Try.ntmps5
  subst hW0
  simp only [Deed7] at HC HY HP HR
  obtain ⟨⟨c0, c1, cx2, c3⟩, -, -, -⟩ := HC.out _ (Stay.refl _ _)
  go_wp2_with fail
  clear c0
  generalize w.alloc (.cells #[.int .i64 2, .string s, .string t, .int .i64 z, .slice p n c, .int .i64 cn, .slice q n2 c2] 37) = W0 at *
  go_region_held3 (fun W : World => W.cell? ⟨w.heap.size, 1, none⟩ = some (.string s)) (first | assumption | go_keep) (first
    | (go_at_call 12; refine (HP.out _ HY.out.drew).mono ?_; rintro e w1 ⟨rfl, t1, s1⟩; obtain ⟨⟨-, c1, cx2, c3⟩, -, -, -⟩ := HC.out w1 ((show Stay (YB w.heap.size) W0 W0.drew from ⟨Nat.le_refl _, fun _ _ => rfl⟩).trans s1))
    | (go_at_call 13; refine (HR.out _ _ t1).mono ?_; rintro e w2 ⟨rfl, t2, s2⟩; obtain ⟨⟨-, c1, cx2, c3⟩, -, -, -⟩ := HC.out w2 (((show Stay (YB w.heap.size) W0 W0.drew from ⟨Nat.le_refl _, fun _ _ => rfl⟩).trans s1).trans s2)))
  go_wp2_with fail
  go_ret
  exact ⟨rfl, t2.unbox⟩
set_option maxHeartbeats 2000000 in
set_option maxRecDepth 100000 in
theorem do_rename (h0 : Two w0 A B Y0 D M w) (b : DBd k D) (m : MBd k M) (tw : Dk.Twin φ D M) (hk : k ≤ 1048577) (s t : ByteArray) (z : Int) (p : Option Addr) (n c : Nat) (cn : Int) (q : Option Addr) (n2 c2 : Nat) (hs : s.size ≤ 1048576) (ht : t.size ≤ 1048576) :
    Calls Try.prog 5 #[.pointer (some ⟨A, 0, none⟩), .pointer (some ⟨B, 0, none⟩), .agg #[.int .i64 3, .string s, .string t, .int .i64 z, .slice p n c, .int .i64 cn, .slice q n2 c2]] w fun e w' => e = .returned (.bool true) ∧ Two w0 A B Y0 ((renameD D s t).2) ((renameR M s t).2) w' := by
  have hsm : s.size ≤ maxLen := by unfold maxLen; omega
  have htm : t.size ≤ maxLen := by unfold maxLen; omega
  obtain ⟨W0, hW0⟩ : ∃ W0, W0 = w.alloc (Deed7 3 s t z (.slice p n c) cn (.slice q n2 c2)) := ⟨_, rfl⟩
  have hbox := heapLast w (Deed7 3 s t z (.slice p n c) cn (.slice q n2 c2))
  have hy := h0.boxed (Deed7 3 s t z (.slice p n c) cn (.slice q n2 c2))
  rw [← hW0] at hbox hy
  have HC := Lib.hid (fun (W : World) (st : Stay (YB w.heap.size) W0 W) => cellsSeven (box_cells hbox st rfl))
  have HY := Lib.hid hy
  obtain ⟨E, hE⟩ : ∃ E, E = ((renameD D s t).1) := ⟨_, rfl⟩
  have HP := Lib.hid (fun (W : World) (t' : Two w0 A B (YB w.heap.size) D M W) => t'.pRename b hk s t hsm htm)
  have HR := Lib.hid (fun (W : World) (D' : DSt) (t' : Two w0 A B (YB w.heap.size) D' M W) => t'.rRename b m tw hk s t)
  rw [← hE] at HP HR
  obtain ⟨D1, hD1⟩ : ∃ D1, D1 = ((renameD D s t).2) := ⟨_, rfl⟩
  obtain ⟨M1, hM1⟩ : ∃ M1, M1 = ((renameR M s t).2) := ⟨_, rfl⟩
  rw [← hD1] at HP ⊢
  rw [← hM1] at HR ⊢
  have mixed : Try.prog.follows .mixedOrders = true := by kernel_rfl
  clear hE hD1 hM1 hy hbox h0 b m tw hk hs ht hsm htm
  go_enter Try.func5, Try.ntmps5
  subst hW0
  simp only [Deed7] at HC HY HP HR
  obtain ⟨⟨c0, c1, cx2, c3⟩, -, -, -⟩ := HC.out _ (Stay.refl _ _)
  go_wp2_with fail
  clear c0
  generalize w.alloc (.cells #[.int .i64 3, .string s, .string t, .int .i64 z, .slice p n c, .int .i64 cn, .slice q n2 c2] 37) = W0 at *
  go_region_held3 (fun W : World => W.cell? ⟨w.heap.size, 1, none⟩ = some (.string s) ∧ W.cell? ⟨w.heap.size, 2, none⟩ = some (.string t)) (first | assumption | go_keep) (first
    | (go_at_call 14; refine (HP.out _ HY.out.drew).mono ?_; rintro e w1 ⟨rfl, t1, s1⟩; obtain ⟨⟨-, c1, cx2, c3⟩, -, -, -⟩ := HC.out w1 ((show Stay (YB w.heap.size) W0 W0.drew from ⟨Nat.le_refl _, fun _ _ => rfl⟩).trans s1))
    | (go_at_call 15; refine (HR.out _ _ t1).mono ?_; rintro e w2 ⟨rfl, t2, s2⟩; obtain ⟨⟨-, c1, cx2, c3⟩, -, -, -⟩ := HC.out w2 (((show Stay (YB w.heap.size) W0 W0.drew from ⟨Nat.le_refl _, fun _ _ => rfl⟩).trans s1).trans s2)))
  go_wp2_with fail
  go_ret
  exact ⟨rfl, t2.unbox⟩
set_option maxHeartbeats 2000000 in
set_option maxRecDepth 100000 in
theorem do_remove (h0 : Two w0 A B Y0 D M w) (b : DBd k D) (m : MBd k M) (tw : Dk.Twin φ D M) (hk : k ≤ 1048577) (s t : ByteArray) (z : Int) (p : Option Addr) (n c : Nat) (cn : Int) (q : Option Addr) (n2 c2 : Nat) (hs : s.size ≤ 1048576) (ht : t.size ≤ 1048576) :
    Calls Try.prog 5 #[.pointer (some ⟨A, 0, none⟩), .pointer (some ⟨B, 0, none⟩), .agg #[.int .i64 4, .string s, .string t, .int .i64 z, .slice p n c, .int .i64 cn, .slice q n2 c2]] w fun e w' => e = .returned (.bool true) ∧ Two w0 A B Y0 ((removeD D s).2) ((removeR M s).2) w' := by
  have hsm : s.size ≤ maxLen := by unfold maxLen; omega
  have htm : t.size ≤ maxLen := by unfold maxLen; omega
  obtain ⟨W0, hW0⟩ : ∃ W0, W0 = w.alloc (Deed7 4 s t z (.slice p n c) cn (.slice q n2 c2)) := ⟨_, rfl⟩
  have hbox := heapLast w (Deed7 4 s t z (.slice p n c) cn (.slice q n2 c2))
  have hy := h0.boxed (Deed7 4 s t z (.slice p n c) cn (.slice q n2 c2))
  rw [← hW0] at hbox hy
  have HC := Lib.hid (fun (W : World) (st : Stay (YB w.heap.size) W0 W) => cellsSeven (box_cells hbox st rfl))
  have HY := Lib.hid hy
  obtain ⟨E, hE⟩ : ∃ E, E = ((removeD D s).1) := ⟨_, rfl⟩
  have HP := Lib.hid (fun (W : World) (t' : Two w0 A B (YB w.heap.size) D M W) => t'.pRemove b hk s hsm)
  have HR := Lib.hid (fun (W : World) (D' : DSt) (t' : Two w0 A B (YB w.heap.size) D' M W) => t'.rRemove b m tw hk s)
  rw [← hE] at HP HR
  obtain ⟨D1, hD1⟩ : ∃ D1, D1 = ((removeD D s).2) := ⟨_, rfl⟩
  obtain ⟨M1, hM1⟩ : ∃ M1, M1 = ((removeR M s).2) := ⟨_, rfl⟩
  rw [← hD1] at HP ⊢
  rw [← hM1] at HR ⊢
  have mixed : Try.prog.follows .mixedOrders = true := by kernel_rfl
  clear hE hD1 hM1 hy hbox h0 b m tw hk hs ht hsm htm
  go_enter Try.func5, Try.ntmps5
  subst hW0
  simp only [Deed7] at HC HY HP HR
  obtain ⟨⟨c0, c1, cx2, c3⟩, -, -, -⟩ := HC.out _ (Stay.refl _ _)
  go_wp2_with fail
  clear c0
  generalize w.alloc (.cells #[.int .i64 4, .string s, .string t, .int .i64 z, .slice p n c, .int .i64 cn, .slice q n2 c2] 37) = W0 at *
  go_region_held3 (fun W : World => W.cell? ⟨w.heap.size, 1, none⟩ = some (.string s)) (first | assumption | go_keep) (first
    | (go_at_call 16; refine (HP.out _ HY.out.drew).mono ?_; rintro e w1 ⟨rfl, t1, s1⟩; obtain ⟨⟨-, c1, cx2, c3⟩, -, -, -⟩ := HC.out w1 ((show Stay (YB w.heap.size) W0 W0.drew from ⟨Nat.le_refl _, fun _ _ => rfl⟩).trans s1))
    | (go_at_call 17; refine (HR.out _ _ t1).mono ?_; rintro e w2 ⟨rfl, t2, s2⟩; obtain ⟨⟨-, c1, cx2, c3⟩, -, -, -⟩ := HC.out w2 (((show Stay (YB w.heap.size) W0 W0.drew from ⟨Nat.le_refl _, fun _ _ => rfl⟩).trans s1).trans s2)))
  go_wp2_with fail
  go_ret
  exact ⟨rfl, t2.unbox⟩
set_option maxHeartbeats 2000000 in
set_option maxRecDepth 100000 in
theorem do_syncNames (h0 : Two w0 A B Y0 D M w) (b : DBd k D) (m : MBd k M) (tw : Dk.Twin φ D M) (hk : k ≤ 1048577) (s t : ByteArray) (z : Int) (p : Option Addr) (n c : Nat) (cn : Int) (q : Option Addr) (n2 c2 : Nat) (hs : s.size ≤ 1048576) (ht : t.size ≤ 1048576) :
    Calls Try.prog 5 #[.pointer (some ⟨A, 0, none⟩), .pointer (some ⟨B, 0, none⟩), .agg #[.int .i64 5, .string s, .string t, .int .i64 z, .slice p n c, .int .i64 cn, .slice q n2 c2]] w fun e w' => e = .returned (.bool true) ∧ Two w0 A B Y0 ((syncNamesD D).2) ((syncNamesR M).2) w' := by
  have hsm : s.size ≤ maxLen := by unfold maxLen; omega
  have htm : t.size ≤ maxLen := by unfold maxLen; omega
  obtain ⟨W0, hW0⟩ : ∃ W0, W0 = w.alloc (Deed7 5 s t z (.slice p n c) cn (.slice q n2 c2)) := ⟨_, rfl⟩
  have hbox := heapLast w (Deed7 5 s t z (.slice p n c) cn (.slice q n2 c2))
  have hy := h0.boxed (Deed7 5 s t z (.slice p n c) cn (.slice q n2 c2))
  rw [← hW0] at hbox hy
  have HC := Lib.hid (fun (W : World) (st : Stay (YB w.heap.size) W0 W) => cellsSeven (box_cells hbox st rfl))
  have HY := Lib.hid hy
  obtain ⟨E, hE⟩ : ∃ E, E = ((syncNamesD D).1) := ⟨_, rfl⟩
  have HP := Lib.hid (fun (W : World) (t' : Two w0 A B (YB w.heap.size) D M W) => t'.pSyncNames b hk)
  have HR := Lib.hid (fun (W : World) (D' : DSt) (t' : Two w0 A B (YB w.heap.size) D' M W) => t'.rSyncNames b m tw hk)
  rw [← hE] at HP HR
  obtain ⟨D1, hD1⟩ : ∃ D1, D1 = ((syncNamesD D).2) := ⟨_, rfl⟩
  obtain ⟨M1, hM1⟩ : ∃ M1, M1 = ((syncNamesR M).2) := ⟨_, rfl⟩
  rw [← hD1] at HP ⊢
  rw [← hM1] at HR ⊢
  have mixed : Try.prog.follows .mixedOrders = true := by kernel_rfl
  clear hE hD1 hM1 hy hbox h0 b m tw hk hs ht hsm htm
  go_enter Try.func5, Try.ntmps5
  subst hW0
  simp only [Deed7] at HC HY HP HR
  obtain ⟨⟨c0, c1, cx2, c3⟩, -, -, -⟩ := HC.out _ (Stay.refl _ _)
  go_wp2_with fail
  clear c0
  generalize w.alloc (.cells #[.int .i64 5, .string s, .string t, .int .i64 z, .slice p n c, .int .i64 cn, .slice q n2 c2] 37) = W0 at *
  refine (HP.out _ HY.out).mono ?_
  rintro e w1 ⟨rfl, t1, s1⟩
  obtain ⟨⟨c0, c1, cx2, c3⟩, -, -, -⟩ := HC.out w1 s1
  clear c0
  go_wp2_with fail
  refine (HR.out _ _ t1).mono ?_
  rintro e w2 ⟨rfl, t2, s2⟩
  go_wp2_with fail
  go_ret
  exact ⟨rfl, t2.unbox⟩
set_option maxHeartbeats 2000000 in
set_option maxRecDepth 100000 in
theorem do_write (h0 : Two w0 A B Y0 D M w) (b : DBd k D) (m : MBd k M) (tw : Dk.Twin φ D M) (hk : k ≤ 1048577) (s t : ByteArray) (z : Int) (p : Option Addr) (n c : Nat) (cn : Int) (q : Option Addr) (n2 c2 : Nat) (hs : s.size ≤ 1048576) (ht : t.size ≤ 1048576) :
    Calls Try.prog 5 #[.pointer (some ⟨A, 0, none⟩), .pointer (some ⟨B, 0, none⟩), .agg #[.int .i64 0, .string s, .string t, .int .i64 z, .slice p n c, .int .i64 cn, .slice q n2 c2]] w fun e w' => e = .returned (.bool true) ∧ Two w0 A B Y0 ((writeD D s t).2.2) ((writeR M s t).2.2) w' := by
  have hsm : s.size ≤ maxLen := by unfold maxLen; omega
  have htm : t.size ≤ maxLen := by unfold maxLen; omega
  obtain ⟨W0, hW0⟩ : ∃ W0, W0 = w.alloc (Deed7 0 s t z (.slice p n c) cn (.slice q n2 c2)) := ⟨_, rfl⟩
  have hbox := heapLast w (Deed7 0 s t z (.slice p n c) cn (.slice q n2 c2))
  have hy := h0.boxed (Deed7 0 s t z (.slice p n c) cn (.slice q n2 c2))
  rw [← hW0] at hbox hy
  have HC := Lib.hid (fun (W : World) (st : Stay (YB w.heap.size) W0 W) => cellsSeven (box_cells hbox st rfl))
  have HY := Lib.hid hy
  obtain ⟨E, hE⟩ : ∃ E, E = ((writeD D s t).1) := ⟨_, rfl⟩
  have HP := Lib.hid (fun (W : World) (t' : Two w0 A B (YB w.heap.size) D M W) => t'.pWrite b hk s t hsm ht)
  have HR := Lib.hid (fun (W : World) (D' : DSt) (t' : Two w0 A B (YB w.heap.size) D' M W) => t'.rWrite b m tw hk s t ht)
  obtain ⟨E2, hE2⟩ : ∃ E, E = ((writeD D s t).2.1) := ⟨_, rfl⟩
  rw [← hE, ← hE2] at HP HR
  obtain ⟨D1, hD1⟩ : ∃ D1, D1 = ((writeD D s t).2.2) := ⟨_, rfl⟩
  obtain ⟨M1, hM1⟩ : ∃ M1, M1 = ((writeR M s t).2.2) := ⟨_, rfl⟩
  rw [← hD1] at HP ⊢
  rw [← hM1] at HR ⊢
  have mixed : Try.prog.follows .mixedOrders = true := by kernel_rfl
  clear hE hE2 hD1 hM1 hy hbox h0 b m tw hk hs ht hsm htm
  go_enter Try.func5, Try.ntmps5
  subst hW0
  simp only [Deed7] at HC HY HP HR
  obtain ⟨⟨c0, c1, cx2, c3⟩, -, -, -⟩ := HC.out _ (Stay.refl _ _)
  go_wp2_with fail
  clear c0
  generalize w.alloc (.cells #[.int .i64 0, .string s, .string t, .int .i64 z, .slice p n c, .int .i64 cn, .slice q n2 c2] 37) = W0 at *
  refine (HP.out _ HY.out).mono ?_
  rintro e w1 ⟨rfl, t1, s1⟩
  obtain ⟨⟨c0, c1, cx2, c3⟩, -, -, -⟩ := HC.out w1 s1
  clear c0
  go_wp2_with fail
  refine (HR.out _ _ t1).mono ?_
  rintro e w2 ⟨rfl, t2, s2⟩
  go_wp2_with fail
  go_ret
  exact ⟨rfl, t2.unbox⟩
end
end Go.Proofs.Ytblhbkhehddccaa
