/- The log on a disk without faults: its file begun, read, settled. Conditions: those that each theorem names. -/
import Derived.Test.YtifghohaelmjjabDoorWlFile
namespace Go.Proofs.YtifghohaelmjjabDoor
set_option linter.unusedVariables false
open Go Go.RowKit Dk
def st1 : DSt := ⟨[(nL, 0)], [[(nL, none)]], [⟨[], 0⟩], 1, []⟩
section
variable {w0 w : World} {A : Nat} {X : Nat → Prop}
set_option maxHeartbeats 1000000 in
theorem fwrite_new (h : AtB w0 A Dk.new X w) :
    Calls Tryd.prog 19 #[fV A, .string ⟨#[]⟩] w fun e w' => e = .returned .nilIface ∧ AtB w0 A st1 X w' ∧ Stay X w w' := by
  obtain ⟨c0, c1⟩ := fO_cells w A
  have HA := Lib.hid (h.alloc (fO A))
  have HS := Lib.hid (stay_below h (below_new w (fO A)))
  have C := Lib.hid (HA.out.write_new (by decide) (by decide) (by decide) (by decide) nL ⟨#[]⟩ nL_ok (by decide) nL_full rfl rfl (by decide))
  have HE : Hid (({ more Dk.new.tick nL with files := (more Dk.new.tick nL).files.set Dk.new.files.length (FileC.mk (⟨#[]⟩ : ByteArray).data.toList 0) } : DSt) = st1) := Lib.hid (by kernel_rfl)
  rw [HE.out] at C
  clear h
  unfold fV
  go_enter Tryd.func19, Tryd.ntmps19
  go_wp2_with fail
  refine C.out.mono ?_
  rintro e w1 ⟨rfl, h1, h2⟩
  have H1 := Lib.hid h1
  have H2 := Lib.hid (HS.out.trans h2)
  clear h1 h2 c0 c1
  go_wp2_with fail
  refine (answered_ok _).mono ?_
  rintro e w2 ⟨rfl, rfl⟩
  go_wp2_with fail
  go_ret
  exact ⟨rfl, H1.out, H2.out⟩
set_option maxHeartbeats 1000000 in
theorem fbegin_any (h : AtB w0 A Dk.new X w) :
    Calls Tryd.prog 28 #[fV A] w fun e w' => e = .returned .nilIface ∧ AtB w0 A (st [] 0 2) X w' ∧ Stay X w w' := by
  obtain ⟨c0, c1⟩ := fO_cells w A
  have hb : Below w.heap.size w (w.alloc (fO A)) := below_new w (fO A)
  have HA := Lib.hid (h.add hb (Y := fun b => X b ∨ b = w.heap.size) (fun b hb => hb.imp id (fun e => by subst e; exact ⟨Nat.le_refl _, by simp⟩)))
  have HS := Lib.hid (stay_below h hb)
  have C := Lib.hid (fwrite_new HA.out)
  clear h hb
  have HF : Hid (fV A = .agg #[.pointer (some ⟨A, 0, none⟩), .string nL]) := Lib.hid rfl
  rw [HF.out] at C
  unfold fV
  go_enter Tryd.func28, Tryd.ntmps28
  go_wp2_with fail
  refine C.out.mono ?_
  rintro e w1 ⟨rfl, h1, h2⟩
  have d0 := (World.cell?_of_block (a := ⟨w.heap.size, 0, none⟩) (h2.2 w.heap.size (.inr rfl))).trans c0
  have H1 := Lib.hid h1
  have H2 : Hid (Stay X w w1) := Lib.hid (HS.out.trans ⟨h2.1, fun b hb => h2.2 b (.inl hb)⟩)
  have C2 := Lib.hid (h1.syncNames (by decide) (by decide) rfl)
  clear h1 h2 c0 c1 C
  go_wp2_with fail
  refine C2.out.mono ?_
  rintro e w2 ⟨rfl, h3, h4⟩
  have H3 : Hid (AtB w0 A (st [] 0 2) (fun b => X b ∨ b = w.heap.size) w2) := Lib.hid h3
  have H4 : Hid (Stay X w w2) := Lib.hid (H2.out.trans ⟨h4.1, fun b hb => h4.2 b (.inl hb)⟩)
  clear h3 h4 d0 C2
  go_wp2_with fail
  refine (answered_ok _).mono ?_
  rintro e w3 ⟨rfl, rfl⟩
  go_wp2_with fail
  go_ret
  exact ⟨rfl, H3.out.add (Below.refl _ _) (fun b hb => .inl (.inl hb)), H4.out⟩
set_option maxHeartbeats 1000000 in
theorem fread_new (h : AtB w0 A Dk.new X w) :
    Calls Tryd.prog 14 #[fV A] w fun e w' => e = .returned (.tuple #[.string ⟨#[]⟩, .nilIface]) ∧ AtB w0 A (st [] 0 2) X w' ∧ Stay X w w' := by
  obtain ⟨c0, c1⟩ := fO_cells w A
  have hb : Below w.heap.size w (w.alloc (fO A)) := below_new w (fO A)
  have HA := Lib.hid (h.add hb (Y := fun b => X b ∨ b = w.heap.size) (fun b hb => hb.imp id (fun e => by subst e; exact ⟨Nat.le_refl _, by simp⟩)))
  have HS := Lib.hid (stay_below h hb)
  have C1 := Lib.hid (HA.out.read_none nL nL_ok nL_full rfl)
  have C2 := Lib.hid (fbegin_any HA.out)
  have HF : Hid (fV A = .agg #[.pointer (some ⟨A, 0, none⟩), .string nL]) := Lib.hid rfl
  have HR : Hid (rfV 20 = .iface 74 (.int .i64 20)) := Lib.hid rfl
  have CA := Lib.hid (fun W => answered_no 20 W rfl)
  have CI := Lib.hid (fun W => is_same W)
  rw [HR.out] at CA CI
  rw [HF.out] at C2
  clear h hb
  unfold fV
  go_enter Tryd.func14, Tryd.ntmps14
  go_wp2_with fail
  refine C1.out.mono ?_
  rintro e w1 ⟨rfl, rfl⟩
  go_wp2_with fail
  refine (CA.out _).mono ?_
  rintro e w1 ⟨rfl, rfl⟩
  go_wp2_with fail
  refine (CI.out _).mono ?_
  rintro e w1 ⟨rfl, rfl⟩
  go_wp2_with fail
  refine C2.out.mono ?_
  rintro e w1 ⟨rfl, h1, h2⟩
  have d0 := (World.cell?_of_block (a := ⟨w.heap.size, 0, none⟩) (h2.2 w.heap.size (.inr rfl))).trans c0
  have d1 := (World.cell?_of_block (a := ⟨w.heap.size, 1, none⟩) (h2.2 w.heap.size (.inr rfl))).trans c1
  have H1 := Lib.hid h1
  have H2 : Hid (Stay X w w1) := Lib.hid (HS.out.trans ⟨h2.1, fun b hb => h2.2 b (.inl hb)⟩)
  have C3 : Hid (Calls Tryd.prog 25 #[.pointer (some ⟨A, 0, none⟩), .string nL] w1 fun e w' => e = .returned (.tuple #[.string ⟨#[]⟩, .int .i64 0]) ∧ w1 = w') := Lib.hid (h1.read_some nL nL_ok nL_full 0 ⟨[], 0⟩ (st_get _ _ _) rfl)
  clear h1 h2 c0 c1 C1 C2 CA CI
  go_wp2_with fail
  refine C3.out.mono ?_
  rintro e w2 ⟨rfl, rfl⟩
  go_wp2_with fail
  refine (answered_ok _).mono ?_
  rintro e w3 ⟨rfl, rfl⟩
  go_wp2_with fail
  go_ret2
  exact ⟨rfl, H1.out.add (Below.refl _ _) (fun b hb => .inl (.inl hb)), H2.out⟩
set_option maxHeartbeats 1000000 in
theorem fsettle_whole {l : List UInt8} {s : Nat} {k n : Int} (h : AtB w0 A (st l s k) X w) (hk : 0 ≤ k ∧ k ≤ 4611686018427387904) :
    Calls Tryd.prog 17 #[fV A, .int .i64 n, .bool false] w fun e w' => e = .returned .nilIface ∧ AtB w0 A (st l l.length (k + 1)) X w' ∧ Stay X w w' := by
  obtain ⟨c0, c1⟩ := fO_cells w A
  have hb : Below w.heap.size w (w.alloc (fO A)) := below_new w (fO A)
  have HA := Lib.hid (h.alloc (fO A))
  have HS := Lib.hid (stay_below h hb)
  have C := Lib.hid (fsync_any HA.out hk)
  have HF : Hid (fV A = .agg #[.pointer (some ⟨A, 0, none⟩), .string nL]) := Lib.hid rfl
  rw [HF.out] at C
  clear h hb hk
  unfold fV
  go_enter Tryd.func17, Tryd.ntmps17
  go_wp2_with fail
  refine C.out.mono ?_
  rintro e w1 ⟨rfl, h1, h2⟩
  have H1 := Lib.hid h1
  have H2 := Lib.hid (HS.out.trans h2)
  clear h1 h2 c0 c1
  go_wp2_with fail
  go_ret
  exact ⟨rfl, H1.out, H2.out⟩
set_option maxHeartbeats 1000000 in
theorem fsettle_torn {l : List UInt8} {s n : Nat} {k : Int} (h : AtB w0 A (st l s k) X w) (hk : 0 ≤ k ∧ k ≤ 4611686018427387900) (hn : n ≤ l.length) :
    Calls Tryd.prog 17 #[fV A, .int .i64 (n : Int), .bool true] w fun e w' => e = .returned .nilIface ∧ AtB w0 A (st (l.take n) n (k + 2)) X w' ∧ Stay X w w' := by
  obtain ⟨c0, c1⟩ := fO_cells w A
  have hb : Below w.heap.size w (w.alloc (fO A)) := below_new w (fO A)
  have HA := Lib.hid (h.add hb (Y := fun b => X b ∨ b = w.heap.size) (fun b hb => hb.imp id (fun e => by subst e; exact ⟨Nat.le_refl _, by simp⟩)))
  have HS := Lib.hid (stay_below h hb)
  have C := Lib.hid (fcut_any HA.out (by omega) n hn)
  have HF : Hid (fV A = .agg #[.pointer (some ⟨A, 0, none⟩), .string nL]) := Lib.hid rfl
  have HK := Lib.hid hk
  have HL : Hid ((l.take n).length = n) := Lib.hid (by rw [List.length_take]; omega)
  rw [HF.out] at C
  clear h hb hk hn
  unfold fV
  go_enter Tryd.func17, Tryd.ntmps17
  go_wp2_with fail
  refine C.out.mono ?_
  rintro e w1 ⟨rfl, h1, h2⟩
  have d0 := (World.cell?_of_block (a := ⟨w.heap.size, 0, none⟩) (h2.2 w.heap.size (.inr rfl))).trans c0
  have d1 := (World.cell?_of_block (a := ⟨w.heap.size, 1, none⟩) (h2.2 w.heap.size (.inr rfl))).trans c1
  have C2 := Lib.hid (fsync_any h1 (by have := HK.out; omega))
  rw [HL.out, HF.out] at C2
  have H2 : Hid (Stay X w w1) := Lib.hid (HS.out.trans ⟨h2.1, fun b hb => h2.2 b (.inl hb)⟩)
  clear h1 h2 c0 c1 C
  go_wp2_with fail
  refine C2.out.mono ?_
  rintro e w2 ⟨rfl, h3, h4⟩
  have H3 : Hid (AtB w0 A (st (l.take n) n (k + 2)) (fun b => X b ∨ b = w.heap.size) w2) := Lib.hid (by rw [show k + 2 = k + 1 + 1 by omega]; exact h3)
  have H4 : Hid (Stay X w w2) := Lib.hid (H2.out.trans ⟨h4.1, fun b hb => h4.2 b (.inl hb)⟩)
  clear h3 h4 d0 d1 C2
  go_wp2_with fail
  go_ret
  exact ⟨rfl, H3.out.add (Below.refl _ _) (fun b hb => .inl (.inl hb)), H4.out⟩
end
end Go.Proofs.YtifghohaelmjjabDoor
