/- strings.IndexRune at runes beyond ASCII, and strings.ContainsAny at whatever text, for the nrz3 bytes that a value may not have. Conditions: those that each theorem names. -/
import Derived.Test.YtihcihpndckfjabGreatDoorHtWr
import Derived.Laws.RangeString
import Derived.Laws.RangeAny
import Derived.Laws.Runes
import Derived.Lib.TrimUEq
import Derived.WalkMore
namespace Go.Proofs.YtihcihpndckfjabGreatDoor
set_option linter.unusedVariables false
open Go Go.RowKit Go.Shelf Ht

def nrz3 : ByteArray := ⟨#[10, 13, 0]⟩
set_option maxHeartbeats 2000000 in
set_option maxRecDepth 100000 in
theorem irune_error (w : World) :
    Calls Tryz.prog 75 #[.string ⟨#[10, 13, 0]⟩, .int .i32 65533] w fun e w' => e = .returned (.int .i64 (-1)) ∧ Below w.heap.size w w' := by
  have n0 := fun ty => run_next_ascii (P := Tryz.prog) w ⟨#[10, 13, 0]⟩ 0 ty (by decide) (by decide)
  have n1 := fun ty => run_next_ascii (P := Tryz.prog) w ⟨#[10, 13, 0]⟩ 1 ty (by decide) (by decide)
  have n2 := fun ty => run_next_ascii (P := Tryz.prog) w ⟨#[10, 13, 0]⟩ 2 ty (by decide) (by decide)
  have n3 := fun ty => run_next_end (P := Tryz.prog) w ⟨#[10, 13, 0]⟩ 3 ty (by decide)
  go_enter Tryz.func75, Tryz.ntmps75
  go_wp2_with fail
  go_loopg [5, 6] 3 (fun g _ _ wx => ∃ i : Nat, i + g = 3 ∧ wx = w.iter ⟨#[10, 13, 0]⟩ i)
  case atStart => exact ⟨0, rfl, rfl⟩
  case round =>
    obtain ⟨i, hi, rfl⟩ := hrel
    have hi4 : i = 0 ∨ i = 1 ∨ i = 2 ∨ i = 3 := by omega
    rcases hi4 with rfl | rfl | rfl | rfl
    · obtain rfl : gk = 3 := by omega
      go_wp2_with fail
      go_roundg 2
      case rel => exact ⟨1, rfl, rfl⟩
      case measure => omega
    · obtain rfl : gk = 2 := by omega
      go_wp2_with fail
      go_roundg 1
      case rel => exact ⟨2, rfl, rfl⟩
      case measure => omega
    · obtain rfl : gk = 1 := by omega
      go_wp2_with fail
      go_roundg 0
      case rel => exact ⟨3, rfl, rfl⟩
      case measure => omega
    · go_wp2_with fail
      go_ret
      exact ⟨rfl, (Below.refl _ _).alloc (Nat.le_refl _) _⟩
set_option maxHeartbeats 2000000 in
set_option maxRecDepth 100000 in
theorem irune_bad (c : Nat) (h0 : 128 ≤ c) (h1 : c ≤ 1114111) (hv : Lib.validRune (c : Int) = false) (hne : c ≠ 65533) (w : World) :
    Calls Tryz.prog 75 #[.string ⟨#[10, 13, 0]⟩, .int .i32 c] w fun e w' => e = .returned (.int .i64 (-1)) ∧ Below w.heap.size w w' := by
  have HV := Lib.hid (Tryz.utf8_ValidRune c)
  rw [hv] at HV
  have hn : ((c : Int) == 65533) = false := by rw [beq_eq_false_iff_ne]; omega
  have h2 : ¬ (c : Int) < 128 := by omega
  clear hv hne
  go_enter Tryz.func75, Tryz.ntmps75
  go_wp2_with fail
  refine (HV.out _).mono ?_
  rintro e w1 ⟨rfl, rfl⟩
  go_wp2_with fail
  go_ret
  exact ⟨rfl, Below.refl _ _⟩
theorem ibyte_high (t : ByteArray) (x : UInt8) (hx : 128 ≤ x.toNat) (ht : t.data.toList.all (fun b => decide (b.toNat < 128)) = true) (w : World) :
    Calls Tryz.prog 97 #[.string t, .int .u8 x.toNat] w fun e w' => e = .returned (.int .i64 (-1)) ∧ w' = w := by
  have h := Tryz.strings_IndexByte t x.toNat w
  have e : ∀ l : List UInt8, l.all (fun b => decide (b.toNat < 128)) = true → Lib.indexByte l ((x.toNat : Int)).toNat.toUInt8 = -1 := by
    intro l
    induction l with
    | nil => intro _; rfl
    | cons b l ih =>
      intro h
      simp only [List.all_cons, Bool.and_eq_true, decide_eq_true_eq] at h
      have hb : (b == ((x.toNat : Int)).toNat.toUInt8) = false := by
        rw [beq_eq_false_iff_ne]
        intro e
        have := congrArg UInt8.toNat e
        simp at this
        omega
      unfold Lib.indexByte
      rw [hb, ih h.2]
      rfl
  rw [e _ ht] at h
  exact h
theorem last_byte {R : ByteArray} {k : Nat} (hk : R.size = k + 1) (f : ∀ h : R.size - 1 < R.size, 128 ≤ (R[R.size - 1]'h).toNat) (h : k < R.size) : 128 ≤ (R[k]'h).toNat := by
  have := f (by omega)
  have e : R.size - 1 = k := by omega
  simpa only [e] using this
set_option maxHeartbeats 2000000 in
set_option maxRecDepth 1000000 in
theorem irune_good0 (T : ByteArray) (hT3 : T.size = 3) (hTa : ∀ j (h : j < T.size), (T[j]'h).toNat < 128) (hTl : T.data.toList.all (fun b => decide (b.toNat < 128)) = true) (c : Nat) (h0 : 128 ≤ c) (h1 : c ≤ 1114111) (hv : Lib.validRune (c : Int) = true) (hne : c ≠ 65533) (w : World) :
    Calls Tryz.prog 75 #[.string T, .int .i32 c] w fun e w' => e = .returned (.int .i64 (-1)) ∧ Below w.heap.size w w' := by
  have HV := Lib.hid (Tryz.utf8_ValidRune c)
  rw [hv] at HV
  have hn : ((c : Int) == 65533) = false := by rw [beq_eq_false_iff_ne]; omega
  have h2 : ¬ (c : Int) < 128 := by omega
  have hv2 : Utf8.valid (c : Int) = true := by
    have := of_decide_eq_true hv
    unfold Utf8.valid
    simp
    omega
  obtain ⟨f1, f2, f3⟩ := encode_facts (c : Int) hv2 (by omega)
  obtain ⟨R, hR⟩ : ∃ R, Utf8.encode (c : Int) = R := ⟨_, rfl⟩
  rw [hR] at f1 f2 f3
  clear hv hne hv2
  have h3 : R.size = 2 ∨ R.size = 3 ∨ R.size = 4 := by omega
  go_enter Tryz.func75, Tryz.ntmps75
  go_wp2_with fail
  refine (HV.out _).mono ?_
  rintro e w1 ⟨rfl, rfl⟩
  rcases h3 with hz | hz | hz
  · have hk : 1 < R.size := by omega
    have hx := last_byte hz f3 hk
    generalize hxx : R[1]'hk = x at hx
    have hkT : 1 < T.size := by omega
    have hy := hTa 1 hkT
    generalize hyy : T[1]'hkT = y at hy
    have hne : ((y.toNat : Int) != (x.toNat : Int)) = true := by
      rw [bne_iff_ne]; intro e; omega
    have i1 : ((1 : Nat) : Int) < (T.size : Int) := by omega
    have i2 : ((2 : Nat) : Int) ≤ (T.size : Int) := by omega
    have i3 : (2 : Int) ≤ (T.size : Int) := by omega
    have iw : IntKind.i64.wrap 2 = 2 := by rw [IntKind.wrap_i64]; decide
    have i4 : (1 : Int) < (T.size : Int) := by omega
    have HTE : Hid ((T.extract 2 T.size).data.toList.all (fun b => decide (b.toNat < 128)) = true) := Lib.hid (by
      rw [← Go.ByteArray.toList_eq, Lib.extract_toList]
      rw [List.all_eq_true] at hTl ⊢
      exact fun b hb => hTl b (List.mem_of_mem_drop (List.mem_of_mem_take hb)))
    clear hTa hTl hy hT3
    have HI := Lib.hid (ibyte_high)
    have hxz : ¬ (x.toNat : Int) < 128 := by omega
    have HX := Lib.hid hx
    clear f3 hx h0 h1 h2
    go_wp2_with fail
    go_step3
    go_wp2_with fail
    go_loopg [9] 1 (fun g i wx => g = 1 ∧ i = .int .i64 1 ∧ wx = w1)
    case atStart => exact ⟨rfl, rfl, rfl⟩
    case round =>
      obtain ⟨rfl, rfl, rfl⟩ := hrel
      go_wp2_with fail
      go_step3
      go_wp2_with fail
      go_quiet (fail)
      go_wp2_with fail
      have HQ := Lib.hid (below_drewN wr nq)
      generalize wr.drewN nq = wq at HQ ⊢
      go_quiet (first | (go_at_call 97; refine Calls.quiet_of_same (HI.out _ _ HX.out HTE.out _)))
      all_goals go_wp2_with fail
      all_goals dsimp only [Exit.noGoto, Exit.inBlock, Exit.then]
      all_goals go_ret
      all_goals exact ⟨rfl, below_then HQ.out (below_drewN _ _)⟩
  · have hk : 2 < R.size := by omega
    have hx := last_byte hz f3 hk
    generalize hxx : R[2]'hk = x at hx
    have hkT : 2 < T.size := by omega
    have hy := hTa 2 hkT
    generalize hyy : T[2]'hkT = y at hy
    have hne : ((y.toNat : Int) != (x.toNat : Int)) = true := by
      rw [bne_iff_ne]; intro e; omega
    have i1 : ((2 : Nat) : Int) < (T.size : Int) := by omega
    have i2 : ((3 : Nat) : Int) ≤ (T.size : Int) := by omega
    have i3 : (3 : Int) ≤ (T.size : Int) := by omega
    have iw : IntKind.i64.wrap 3 = 3 := by rw [IntKind.wrap_i64]; decide
    have i4 : (2 : Int) < (T.size : Int) := by omega
    have HTE : Hid ((T.extract 3 T.size).data.toList.all (fun b => decide (b.toNat < 128)) = true) := Lib.hid (by
      rw [← Go.ByteArray.toList_eq, Lib.extract_toList]
      rw [List.all_eq_true] at hTl ⊢
      exact fun b hb => hTl b (List.mem_of_mem_drop (List.mem_of_mem_take hb)))
    clear hTa hTl hy hT3
    have HI := Lib.hid (ibyte_high)
    have hxz : ¬ (x.toNat : Int) < 128 := by omega
    have HX := Lib.hid hx
    clear f3 hx h0 h1 h2
    go_wp2_with fail
    go_step3
    go_wp2_with fail
    go_loopg [9] 1 (fun g i wx => g = 1 ∧ i = .int .i64 2 ∧ wx = w1)
    case atStart => exact ⟨rfl, rfl, rfl⟩
    case round =>
      obtain ⟨rfl, rfl, rfl⟩ := hrel
      go_wp2_with fail
      go_step3
      go_wp2_with fail
      go_quiet (fail)
      go_wp2_with fail
      have HQ := Lib.hid (below_drewN wr nq)
      generalize wr.drewN nq = wq at HQ ⊢
      go_quiet (first | (go_at_call 97; refine Calls.quiet_of_same (HI.out _ _ HX.out HTE.out _)))
      all_goals go_wp2_with fail
      all_goals dsimp only [Exit.noGoto, Exit.inBlock, Exit.then]
      all_goals go_ret
      all_goals exact ⟨rfl, below_then HQ.out (below_drewN _ _)⟩
  · have i3 : ¬ (3 : Int) < (T.size : Int) := by omega
    clear hTa hTl hT3
    go_wp2_with fail
    go_step3
    go_wp2_with fail
    go_loopg [9] 1 (fun g i wx => g = 1 ∧ i = .int .i64 3 ∧ wx = w1)
    case atStart => exact ⟨rfl, rfl, rfl⟩
    case round =>
      obtain ⟨rfl, rfl, rfl⟩ := hrel
      go_wp2_with fail
      rw [Exit.noGoto_ret]
      go_ret
      exact ⟨rfl, Below.refl _ _⟩
theorem irune_good (c : Nat) (h0 : 128 ≤ c) (h1 : c ≤ 1114111) (hv : Lib.validRune (c : Int) = true) (hne : c ≠ 65533) (w : World) :
    Calls Tryz.prog 75 #[.string ⟨#[10, 13, 0]⟩, .int .i32 c] w fun e w' => e = .returned (.int .i64 (-1)) ∧ Below w.heap.size w w' :=
  irune_good0 ⟨#[10, 13, 0]⟩ rfl (by decide) (by decide) c h0 h1 hv hne w
end Go.Proofs.YtihcihpndckfjabGreatDoor
