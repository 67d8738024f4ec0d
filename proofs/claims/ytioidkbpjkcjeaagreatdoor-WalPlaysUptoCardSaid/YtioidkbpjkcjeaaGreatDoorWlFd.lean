/- The log's file on whatever disk, whatever faults it plans: what each of its methods does. Conditions: those that each theorem names. -/
import Derived.Test.YtioidkbpjkcjeaaGreatDoorWlPd
namespace Go.Proofs.YtioidkbpjkcjeaaGreatDoor
set_option linter.unusedVariables false
open Go Go.RowKit Dk
theorem answered_any (n : Int) (w : World) : Calls Tryz.prog 53 #[.int .i64 n] w fun e w' => e = .returned (ansV n) ∧ w = w' := by
  by_cases h : n = 0
  · subst h; exact answered_ok w
  · rw [show ansV n = rfV n by unfold ansV; rw [if_neg h]]
    exact answered_no n w (by simpa using h)
theorem ansV_ok : ansV 0 = .nilIface := rfl
theorem ansV_no {n : Int} (h : n ≠ 0) : ansV n = .iface 128 (.int .i64 n) := by unfold ansV; rw [if_neg h]; rfl
theorem is_file (n : Int) (h : n = 0 ∨ n = 20) (w : World) : Calls Tryz.prog 54 #[ansV n, rfV 20] w fun e w' => e = .returned (.bool (decide (n = 20))) ∧ w = w' := by
  rcases h with rfl | rfl
  · exact is_nil w
  · exact is_same w
namespace Wl
section
variable {w0 w : World} {A : Nat} {X : Nat → Prop} {D : DSt} {M : RSt} {φ : Nat → Nat} {c k : Nat}
set_option maxHeartbeats 1000000 in
theorem fwrite_d (h : AtB w0 A D X w) (b : DBd c k D) (hk : k ≤ 1048577) (hc : c ≤ 4194304) (t : ByteArray) (ht : t.size ≤ c) :
    Calls Tryz.prog 40 #[fV A, .string t] w fun e w' => e = .returned (ansV (writeD D nL t).2.1) ∧ AtB w0 A (writeD D nL t).2.2 X w' ∧ Stay X w w' := by
  obtain ⟨c0, c1⟩ := fO_cells w A
  have HS := Lib.hid (stay_below h (below_new w (fO A)))
  have C := Lib.hid ((h.alloc (fO A)).writeD b hk hc nL t nL_ok ht)
  clear h b hk hc ht
  generalize writeD D nL t = O at *
  unfold fV
  go_enter Tryz.func40, Tryz.ntmps40
  go_wp2_with fail
  refine C.out.mono ?_
  rintro e w1 ⟨rfl, h1, h2⟩
  have H1 := Lib.hid h1
  have H2 := Lib.hid (HS.out.trans h2)
  clear h1 h2 c0 c1
  go_wp2_with fail
  refine (answered_any _ _).mono ?_
  rintro e w2 ⟨rfl, rfl⟩
  go_wp2_with fail
  go_ret
  exact ⟨rfl, H1.out, H2.out⟩
set_option maxHeartbeats 1000000 in
theorem fsync_d (h : AtB w0 A D X w) (b : DBd c k D) (hk : k ≤ 1048577) :
    Calls Tryz.prog 42 #[fV A] w fun e w' => e = .returned (ansV (syncD D nL).1) ∧ AtB w0 A (syncD D nL).2 X w' ∧ Stay X w w' := by
  obtain ⟨c0, c1⟩ := fO_cells w A
  have HS := Lib.hid (stay_below h (below_new w (fO A)))
  have C := Lib.hid ((h.alloc (fO A)).syncD b hk nL nL_ok)
  clear h b hk
  generalize syncD D nL = O at *
  unfold fV
  go_enter Tryz.func42, Tryz.ntmps42
  go_wp2_with fail
  refine C.out.mono ?_
  rintro e w1 ⟨rfl, h1, h2⟩
  have H1 := Lib.hid h1
  have H2 := Lib.hid (HS.out.trans h2)
  clear h1 h2 c0 c1
  go_wp2_with fail
  refine (answered_any _ _).mono ?_
  rintro e w2 ⟨rfl, rfl⟩
  go_wp2_with fail
  go_ret
  exact ⟨rfl, H1.out, H2.out⟩
set_option maxHeartbeats 1000000 in
theorem fcut_d (h : AtB w0 A D X w) (b : DBd c k D) (hk : k ≤ 1048577) (z : Int) :
    Calls Tryz.prog 57 #[fV A, .int .i64 z] w fun e w' => e = .returned (ansV (cutD D nL z).1) ∧ AtB w0 A (cutD D nL z).2 X w' ∧ Stay X w w' := by
  obtain ⟨c0, c1⟩ := fO_cells w A
  have HS := Lib.hid (stay_below h (below_new w (fO A)))
  have C := Lib.hid ((h.alloc (fO A)).cutD b hk nL z nL_ok)
  clear h b hk
  generalize cutD D nL z = O at *
  unfold fV
  go_enter Tryz.func57, Tryz.ntmps57
  go_wp2_with fail
  refine C.out.mono ?_
  rintro e w1 ⟨rfl, h1, h2⟩
  have H1 := Lib.hid h1
  have H2 := Lib.hid (HS.out.trans h2)
  clear h1 h2 c0 c1
  go_wp2_with fail
  refine (answered_any _ _).mono ?_
  rintro e w2 ⟨rfl, rfl⟩
  go_wp2_with fail
  go_ret
  exact ⟨rfl, H1.out, H2.out⟩
set_option maxHeartbeats 1000000 in
theorem fbegin_d (h : AtB w0 A D X w) (tw : Dk.Twin φ D M) (b : DBd c k D) (m : MBd c k M) (hk : k + 1 ≤ 1048577) (hc : c ≤ 4194304) :
    Calls Tryz.prog 55 #[fV A] w fun e w' => e = .returned (ansV (beginD D).1) ∧ AtB w0 A (beginD D).2 X w' ∧ Stay X w w' := by
  unfold beginD
  have hz : (⟨#[]⟩ : ByteArray).size ≤ c := Nat.zero_le _
  obtain ⟨b1, m1⟩ := bd_write b m tw nL ⟨#[]⟩ hz
  obtain ⟨c0, c1⟩ := fO_cells w A
  have hb : Below w.heap.size w (w.alloc (fO A)) := below_new w (fO A)
  have HA := Lib.hid (h.add hb (Y := fun b => X b ∨ b = w.heap.size) (fun b hb => hb.imp id (fun e => by subst e; exact ⟨Nat.le_refl _, by simp⟩)))
  have HS := Lib.hid (stay_below h hb)
  have C := Lib.hid (fwrite_d HA.out b (by omega) hc ⟨#[]⟩ hz)
  have CN := Lib.hid (fun (W : World) (hW : AtB w0 A (writeD D nL ⟨#[]⟩).2.2 (fun b => X b ∨ b = w.heap.size) W) => hW.syncNamesD b1 hk)
  have HF : Hid (fV A = .agg #[.pointer (some ⟨A, 0, none⟩), .string nL]) := Lib.hid rfl
  rw [HF.out] at C
  clear h hb hk hc hz b m tw b1 m1
  generalize writeD D nL ⟨#[]⟩ = O at *
  generalize syncNamesD O.2.2 = O2 at *
  unfold fV
  by_cases h0 : O.2.1 = 0
  · rw [h0, ansV_ok] at C
    rw [if_neg (by simpa using h0)]
    clear h0
    go_enter Tryz.func55, Tryz.ntmps55
    go_wp2_with fail
    refine C.out.mono ?_
    rintro e w1 ⟨rfl, h1, h2⟩
    have d0 := (World.cell?_of_block (a := ⟨w.heap.size, 0, none⟩) (h2.2 w.heap.size (.inr rfl))).trans c0
    have H2 : Hid (Stay X w w1) := Lib.hid (HS.out.trans ⟨h2.1, fun b hb => h2.2 b (.inl hb)⟩)
    have C2 := Lib.hid (CN.out _ h1)
    clear h1 h2 c0 c1 C
    go_wp2_with fail
    refine C2.out.mono ?_
    rintro e w2 ⟨rfl, h3, h4⟩
    have H3 := Lib.hid h3
    have H4 : Hid (Stay X w w2) := Lib.hid (H2.out.trans ⟨h4.1, fun b hb => h4.2 b (.inl hb)⟩)
    clear h3 h4 d0 C2
    go_wp2_with fail
    refine (answered_any _ _).mono ?_
    rintro e w3 ⟨rfl, rfl⟩
    go_wp2_with fail
    go_ret
    exact ⟨rfl, H3.out.add (Below.refl _ _) (fun b hb => .inl (.inl hb)), H4.out⟩
  · rw [ansV_no h0] at C
    rw [if_pos h0]
    have HR : Hid (ansV O.2.1 = .iface 128 (.int .i64 O.2.1)) := Lib.hid (ansV_no h0)
    clear h0
    go_enter Tryz.func55, Tryz.ntmps55
    go_wp2_with fail
    refine C.out.mono ?_
    rintro e w1 ⟨rfl, h1, h2⟩
    have H2 : Hid (Stay X w w1) := Lib.hid (HS.out.trans ⟨h2.1, fun b hb => h2.2 b (.inl hb)⟩)
    have H3 := Lib.hid h1
    clear h1 h2 c0 c1 C
    go_wp2_with fail
    go_ret
    exact ⟨by rw [HR.out]; rfl, H3.out.add (Below.refl _ _) (fun b hb => .inl (.inl hb)), H2.out⟩
set_option maxHeartbeats 1000000 in
theorem fread_d (h : AtB w0 A D X w) (tw : Dk.Twin φ D M) (b : DBd c k D) (m : MBd c k M) (hk : k + 2 ≤ 1048577) (hc : c ≤ 4194304) :
    Calls Tryz.prog 31 #[fV A] w fun e w' => e = .returned (.tuple #[.string (freadD D).1, ansV (freadD D).2.1]) ∧ AtB w0 A (freadD D).2.2 X w' ∧ Stay X w w' := by
  unfold freadD
  obtain ⟨c0, c1⟩ := fO_cells w A
  have hb : Below w.heap.size w (w.alloc (fO A)) := below_new w (fO A)
  have HA := Lib.hid (h.add hb (Y := fun b => X b ∨ b = w.heap.size) (fun b hb => hb.imp id (fun e => by subst e; exact ⟨Nat.le_refl _, by simp⟩)))
  have HS := Lib.hid (stay_below h hb)
  have C1 := Lib.hid (HA.out.readD nL nL_ok)
  have C2 := Lib.hid (fbegin_d HA.out tw b m (by omega) hc)
  have C3 := Lib.hid (fun (W : World) (hW : AtB w0 A (beginD D).2 (fun b => X b ∨ b = w.heap.size) W) => hW.readD nL nL_ok)
  have HF : Hid (fV A = .agg #[.pointer (some ⟨A, 0, none⟩), .string nL]) := Lib.hid rfl
  have HR : Hid (rfV 20 = .iface 128 (.int .i64 20)) := Lib.hid rfl
  have ha := ask_nL D
  rw [HF.out] at C2
  clear h hb hk hc b m tw
  generalize readD D nL = R at *
  generalize askD D nL = a at *
  generalize beginD D = O at *
  unfold fV
  rcases ha with rfl | rfl
  · rw [if_pos rfl]
    have CI := Lib.hid (fun W => is_nil W)
    rw [HR.out] at CI
    clear C2 C3
    go_enter Tryz.func31, Tryz.ntmps31
    go_wp2_with fail
    refine C1.out.mono ?_
    rintro e w1 ⟨rfl, rfl⟩
    go_wp2_with fail
    refine (answered_ok _).mono ?_
    rintro e w1 ⟨rfl, rfl⟩
    go_wp2_with fail
    refine (CI.out _).mono ?_
    rintro e w1 ⟨rfl, rfl⟩
    go_wp2_with fail
    go_ret2
    exact ⟨rfl, HA.out.add (Below.refl _ _) (fun b hb => .inl (.inl hb)), HS.out⟩
  · rw [if_neg (by decide)]
    have CA := Lib.hid (fun W => answered_no 20 W rfl)
    have CI := Lib.hid (fun W => is_same W)
    rw [HR.out] at CA CI
    by_cases h0 : O.1 = 0
    · rw [h0, ansV_ok] at C2
      rw [if_neg (by simpa using h0)]
      clear h0
      go_enter Tryz.func31, Tryz.ntmps31
      go_wp2_with fail
      refine C1.out.mono ?_
      rintro e w1 ⟨rfl, rfl⟩
      go_wp2_with fail
      refine (CA.out _).mono ?_
      rintro e w1 ⟨rfl, rfl⟩
      go_wp2_with fail
      refine (CI.out _).mono ?_
      rintro e w1 ⟨rfl, rfl⟩
      go_wp2_with fail
      refine C2.out.mono ?_
      rintro e w1 ⟨rfl, h1, h2⟩
      have d0 := (World.cell?_of_block (a := ⟨w.heap.size, 0, none⟩) (h2.2 w.heap.size (.inr rfl))).trans c0
      have d1 := (World.cell?_of_block (a := ⟨w.heap.size, 1, none⟩) (h2.2 w.heap.size (.inr rfl))).trans c1
      have H1 := Lib.hid h1
      have H2 : Hid (Stay X w w1) := Lib.hid (HS.out.trans ⟨h2.1, fun b hb => h2.2 b (.inl hb)⟩)
      have C4 := Lib.hid (C3.out _ h1)
      clear h1 h2 c0 c1 C1 C2 C3 CA CI
      go_wp2_with fail
      refine C4.out.mono ?_
      rintro e w2 ⟨rfl, rfl⟩
      go_wp2_with fail
      refine (answered_any _ _).mono ?_
      rintro e w3 ⟨rfl, rfl⟩
      go_wp2_with fail
      go_ret2
      exact ⟨rfl, H1.out.add (Below.refl _ _) (fun b hb => .inl (.inl hb)), H2.out⟩
    · have HO : Hid (ansV O.1 = .iface 128 (.int .i64 O.1)) := Lib.hid (ansV_no h0)
      rw [HO.out] at C2
      rw [if_pos h0]
      clear h0
      go_enter Tryz.func31, Tryz.ntmps31
      go_wp2_with fail
      refine C1.out.mono ?_
      rintro e w1 ⟨rfl, rfl⟩
      go_wp2_with fail
      refine (CA.out _).mono ?_
      rintro e w1 ⟨rfl, rfl⟩
      go_wp2_with fail
      refine (CI.out _).mono ?_
      rintro e w1 ⟨rfl, rfl⟩
      go_wp2_with fail
      refine C2.out.mono ?_
      rintro e w1 ⟨rfl, h1, h2⟩
      have H1 := Lib.hid h1
      have H2 : Hid (Stay X w w1) := Lib.hid (HS.out.trans ⟨h2.1, fun b hb => h2.2 b (.inl hb)⟩)
      clear h1 h2 c0 c1 C1 C2 C3 CA CI
      go_wp2_with fail
      go_ret2
      exact ⟨by rw [HO.out]; rfl, H1.out.add (Below.refl _ _) (fun b hb => .inl (.inl hb)), H2.out⟩
set_option maxHeartbeats 1000000 in
theorem fsettle_d (h : AtB w0 A D X w) (tw : Dk.Twin φ D M) (b : DBd c k D) (m : MBd c k M) (hk : k + 1 ≤ 1048577) (z : Int) (t : Bool) :
    Calls Tryz.prog 33 #[fV A, .int .i64 z, .bool t] w fun e w' => e = .returned (ansV (settleD D z t).1) ∧ AtB w0 A (settleD D z t).2 X w' ∧ Stay X w w' := by
  unfold settleD
  obtain ⟨c0, c1⟩ := fO_cells w A
  have hb : Below w.heap.size w (w.alloc (fO A)) := below_new w (fO A)
  have HA := Lib.hid (h.add hb (Y := fun b => X b ∨ b = w.heap.size) (fun b hb => hb.imp id (fun e => by subst e; exact ⟨Nat.le_refl _, by simp⟩)))
  have HS := Lib.hid (stay_below h hb)
  have C1 := Lib.hid (fcut_d HA.out b (by omega) z)
  have b1 := (bd_cut b m tw nL z 0).1
  have C2 := Lib.hid (fun (W : World) (hW : AtB w0 A (cutD D nL z).2 (fun b => X b ∨ b = w.heap.size) W) => fsync_d hW b1 hk)
  have C0 := Lib.hid (fsync_d HA.out b (by omega))
  have HF : Hid (fV A = .agg #[.pointer (some ⟨A, 0, none⟩), .string nL]) := Lib.hid rfl
  rw [HF.out] at C0 C1 C2
  clear h hb hk b m tw b1
  generalize syncD D nL = S0 at *
  generalize cutD D nL z = O at *
  generalize syncD O.2 nL = S at *
  unfold fV
  cases t
  · clear C1 C2
    rw [if_neg (by decide)]
    go_enter Tryz.func33, Tryz.ntmps33
    go_wp2_with fail
    refine C0.out.mono ?_
    rintro e w1 ⟨rfl, h1, h2⟩
    have H1 := Lib.hid h1
    have H2 : Hid (Stay X w w1) := Lib.hid (HS.out.trans ⟨h2.1, fun b hb => h2.2 b (.inl hb)⟩)
    clear h1 h2 c0 c1 C0
    go_wp2_with fail
    go_ret
    exact ⟨rfl, H1.out.add (Below.refl _ _) (fun b hb => .inl (.inl hb)), H2.out⟩
  · rw [if_pos rfl]
    clear C0
    by_cases h0 : O.1 = 0
    · rw [h0, ansV_ok] at C1
      rw [if_neg (by simpa using h0)]
      clear h0
      go_enter Tryz.func33, Tryz.ntmps33
      go_wp2_with fail
      refine C1.out.mono ?_
      rintro e w1 ⟨rfl, h1, h2⟩
      have d0 := (World.cell?_of_block (a := ⟨w.heap.size, 0, none⟩) (h2.2 w.heap.size (.inr rfl))).trans c0
      have d1 := (World.cell?_of_block (a := ⟨w.heap.size, 1, none⟩) (h2.2 w.heap.size (.inr rfl))).trans c1
      have C3 := Lib.hid (C2.out _ h1)
      have H2 : Hid (Stay X w w1) := Lib.hid (HS.out.trans ⟨h2.1, fun b hb => h2.2 b (.inl hb)⟩)
      clear h1 h2 c0 c1 C1 C2
      go_wp2_with fail
      refine C3.out.mono ?_
      rintro e w2 ⟨rfl, h3, h4⟩
      have H3 := Lib.hid h3
      have H4 : Hid (Stay X w w2) := Lib.hid (H2.out.trans ⟨h4.1, fun b hb => h4.2 b (.inl hb)⟩)
      clear h3 h4 d0 d1 C3
      go_wp2_with fail
      go_ret
      exact ⟨rfl, H3.out.add (Below.refl _ _) (fun b hb => .inl (.inl hb)), H4.out⟩
    · have HO : Hid (ansV O.1 = .iface 128 (.int .i64 O.1)) := Lib.hid (ansV_no h0)
      rw [HO.out] at C1
      rw [if_pos h0]
      clear h0 C2
      go_enter Tryz.func33, Tryz.ntmps33
      go_wp2_with fail
      refine C1.out.mono ?_
      rintro e w1 ⟨rfl, h1, h2⟩
      have H1 := Lib.hid h1
      have H2 : Hid (Stay X w w1) := Lib.hid (HS.out.trans ⟨h2.1, fun b hb => h2.2 b (.inl hb)⟩)
      clear h1 h2 c0 c1 C1
      go_wp2_with fail
      go_ret
      exact ⟨by rw [HO.out]; rfl, H1.out.add (Below.refl _ _) (fun b hb => .inl (.inl hb)), H2.out⟩
end
end Wl
end Go.Proofs.YtioidkbpjkcjeaaGreatDoor
