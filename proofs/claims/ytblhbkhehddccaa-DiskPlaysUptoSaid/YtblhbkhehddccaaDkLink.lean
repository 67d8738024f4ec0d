/- How names of a disk are looked up and led elsewhere. Conditions: those that each theorem names. -/
import Derived.Test.YtblhbkhehddccaaDkStep
namespace Go.Proofs.Ytblhbkhehddccaa
open Go.RowKit Dk

theorem Fr.alloc {ρ ρ' : Nat → Nat × Nat} {w w' : World} (h : Fr own ρ ρ' w w') (_ : ∀ b, w'.heap.size ≤ b → ρ' b = (0, 0)) (o : Obj) : Fr own ρ ρ' w (w'.alloc o) :=
  ⟨h.os, h.tape, h.output, by have := h.size; simp; omega, fun b hb hn => (Below.heap_alloc _ _ _ (Nat.lt_of_lt_of_le hb h.size)).trans (h.block b hb hn), h.keep, h.stay, fun b hb => h.out b (by simp at hb; omega)⟩

/-! ### find -/
set_option maxHeartbeats 400000 in
theorem find_nil (s : ByteArray) (w : World) :
    Calls Try.prog 42 #[.pointer none, .string s] w fun e w' => e = .returned (.tuple #[.pointer none, .int .i64 1]) ∧ w = w' := by
  go_enter Try.func42, Try.ntmps42
  go_wp2
  go_ret2
  exact ⟨rfl, rfl⟩
set_option maxHeartbeats 400000 in
theorem find_empty (A : Nat) (s : ByteArray) (hs : s.toList = []) (w : World) :
    Calls Try.prog 42 #[.pointer (some ⟨A, 0, none⟩), .string s] w fun e w' => e = .returned (.tuple #[.pointer none, .int .i64 1]) ∧ w = w' := by
  go_enter Try.func42, Try.ntmps42
  go_wp2
  go_ret2
  exact ⟨rfl, rfl⟩
/-- What a lookup among the names says, in every world that holds the same map. -/
theorem names_look {w : World} {ρ : Nat → Nat × Nat} {fb : List Nat} {m : Option Nat} {L : List (Nm × Nat)} (h : NamesAt w ρ fb m L) (hs : Sorted L) {s : ByteArray} (hl : s.size ≤ maxLen) (hf : ∀ p ∈ L, p.2 < fb.length) :
    ∀ W : World, (∀ b, b < w.heap.size → ρ b = (2, 0) → W.heap[b]? = w.heap[b]?) → (Instr.lookup 41 (.map m) (.string s) false).run Try.prog W = .ok (ptrV fb (nmGet L s)) W := by
  intro W hW
  rcases h with ⟨rfl, rfl⟩ | ⟨b, rfl, hr, hM⟩
  · exact look_none strK Try.underlying41 zeroFile (strKey hl) false W
  · cases hg : nmGet L s with
    | none => exact hM.miss strK Try.underlying41 zeroFile (strKey hl) (namesS_none hg) false W (hW b hM.lt hr)
    | some i =>
      have hi := hf _ ((nmGet_some hs).1 hg)
      have hB : fb[i]? = some (fb[i]'hi) := List.getElem?_eq_getElem hi
      have := hM.look strK Try.underlying41 zeroFile (namesS_get hs hg hB) false W (hW b hM.lt hr)
      simpa [ptrV, hB, fileV] using this
set_option maxHeartbeats 400000 in
theorem find_none (A : Nat) (D : DSt) (ρ : Nat → Nat × Nat) (fb : List Nat) (w : World) (h : DiskAt w A D ρ fb) (s : ByteArray) (hl : s.size ≤ maxLen) (hs : s.toList.isEmpty = false) (hg : nmGet D.names s = none) :
    Calls Try.prog 42 #[.pointer (some ⟨A, 0, none⟩), .string s] w fun e w' => e = .returned (.tuple #[.pointer none, .int .i64 20]) ∧ w = w' := by
  obtain ⟨ok, out, role, ⟨m, op, pl, hA, hN, hO, hP⟩, hF⟩ := h
  have c0 : w.cell? ⟨A, 0, none⟩ = some (.map m) := by simp [World.cell?, hA, topCells]
  have hl := names_look hN ok.sorted hl (fun p hp => by rw [hF.1]; exact (ok.named p hp).2) w (fun _ _ _ => rfl)
  rw [hg] at hl
  simp only [ptrV, Option.bind_none] at hl
  clear ok out role hA hN hO hP hF
  go_enter Try.func42, Try.ntmps42
  go_wp2
  go_ret2
  exact ⟨rfl, rfl⟩
set_option maxHeartbeats 400000 in
theorem find_some (A : Nat) (D : DSt) (ρ : Nat → Nat × Nat) (fb : List Nat) (w : World) (h : DiskAt w A D ρ fb) (s : ByteArray) (hl : s.size ≤ maxLen) (hs : s.toList.isEmpty = false) (i B : Nat) (hg : nmGet D.names s = some i) (hB : fb[i]? = some B) :
    Calls Try.prog 42 #[.pointer (some ⟨A, 0, none⟩), .string s] w fun e w' => e = .returned (.tuple #[.pointer (some ⟨B, 0, none⟩), .int .i64 0]) ∧ w = w' := by
  obtain ⟨ok, out, role, ⟨m, op, pl, hA, hN, hO, hP⟩, hF⟩ := h
  have c0 : w.cell? ⟨A, 0, none⟩ = some (.map m) := by simp [World.cell?, hA, topCells]
  have hl := names_look hN ok.sorted hl (fun p hp => by rw [hF.1]; exact (ok.named p hp).2) w (fun _ _ _ => rfl)
  rw [hg] at hl
  simp only [ptrV, Option.bind_some, hB, Option.map_some] at hl
  clear ok out role hA hN hO hP hF hB hg
  go_enter Try.func42, Try.ntmps42
  go_wp2
  go_ret2
  exact ⟨rfl, rfl⟩

/-! ### stepAt -/
set_option maxHeartbeats 400000 in
theorem stepAt_nil (s : ByteArray) (w : World) :
    Calls Try.prog 35 #[.pointer none, .string s] w fun e w' => e = .returned (.tuple #[.pointer none, .int .i64 1]) ∧ w = w' := by
  go_enter Try.func35, Try.ntmps35
  go_wp2_with (go_at_call 42; refine (find_nil _ _).mono ?_; rintro e w' ⟨rfl, rfl⟩)
  go_ret2
  exact ⟨rfl, rfl⟩
set_option maxHeartbeats 400000 in
theorem stepAt_empty (A : Nat) (s : ByteArray) (hs : s.toList = []) (w : World) :
    Calls Try.prog 35 #[.pointer (some ⟨A, 0, none⟩), .string s] w fun e w' => e = .returned (.tuple #[.pointer none, .int .i64 1]) ∧ w = w' := by
  have HS := Lib.hid hs
  clear hs
  go_enter Try.func35, Try.ntmps35
  go_wp2_with (go_at_call 42; refine (find_empty _ _ HS.out _).mono ?_; rintro e w' ⟨rfl, rfl⟩)
  go_ret2
  exact ⟨rfl, rfl⟩
set_option maxHeartbeats 400000 in
theorem stepAt_none (A : Nat) (D : DSt) (ρ : Nat → Nat × Nat) (fb : List Nat) (w : World) (h : DiskAt w A D ρ fb) (s : ByteArray) (hl : s.size ≤ maxLen) (hs : s.toList.isEmpty = false) (hg : nmGet D.names s = none) :
    Calls Try.prog 35 #[.pointer (some ⟨A, 0, none⟩), .string s] w fun e w' => e = .returned (.tuple #[.pointer none, .int .i64 20]) ∧ w = w' := by
  have hc := find_none A D ρ fb w h s hl hs hg
  clear h hl hs hg
  have HC := Lib.hid hc
  clear hc
  go_enter Try.func35, Try.ntmps35
  go_wp2_with (go_at_call 42; refine (HC.out).mono ?_; rintro e w' ⟨rfl, rfl⟩)
  go_ret2
  exact ⟨rfl, rfl⟩
def missV (D : DSt) : Prop := D.hit = none
set_option maxHeartbeats 400000 in
theorem stepAt_miss (A : Nat) (D : DSt) (ρ : Nat → Nat × Nat) (fb : List Nat) (w : World) (h : DiskAt w A D ρ fb) (h0 : 0 ≤ D.steps) (h1 : D.steps ≤ 4611686018427387904) (s : ByteArray) (hl : s.size ≤ maxLen) (hs : s.toList.isEmpty = false) (i B : Nat) (hg : nmGet D.names s = some i) (hB : fb[i]? = some B) (hm : D.hit = none) :
    Calls Try.prog 35 #[.pointer (some ⟨A, 0, none⟩), .string s] w fun e w' => e = .returned (.tuple #[.pointer (some ⟨B, 0, none⟩), .int .i64 0]) ∧ DiskAt w' A D.tick ρ fb ∧ Fr own ρ ρ w w' := by
  have HC := Lib.hid (find_some A D ρ fb w h s hl hs i B hg hB)
  have HT := Lib.hid (step_miss A D ρ fb w h h0 h1 hm)
  clear h h0 h1 hl hs hg hB hm
  go_enter Try.func35, Try.ntmps35
  go_wp2_with (first
    | (go_at_call 42; refine (HC.out).mono ?_; rintro e w' ⟨rfl, rfl⟩)
    | (go_at_call 30; refine (HT.out).mono ?_; rintro e w1 ⟨rfl, hD, hf⟩))
  go_ret2
  exact ⟨rfl, hD.alloc _, hf.alloc hD.out _⟩
set_option maxHeartbeats 400000 in
theorem stepAt_hit (A : Nat) (D : DSt) (ρ : Nat → Nat × Nat) (fb : List Nat) (w : World) (h : DiskAt w A D ρ fb) (h0 : 0 ≤ D.steps) (h1 : D.steps ≤ 4611686018427387904) (s : ByteArray) (hl : s.size ≤ maxLen) (hs : s.toList.isEmpty = false) (i B : Nat) (hg : nmGet D.names s = some i) (hB : fb[i]? = some B) (fa fk fn : Int) (hm : D.hit = some (fa, fk, fn)) :
    Calls Try.prog 35 #[.pointer (some ⟨A, 0, none⟩), .string s] w fun e w' => e = .returned (.tuple #[.pointer none, .int .i64 (hitErr (fa, fk, fn))]) ∧ DiskAt w' A D.tick ρ fb ∧ Fr own ρ ρ w w' := by
  have HC := Lib.hid (find_some A D ρ fb w h s hl hs i B hg hB)
  have HT := Lib.hid (step_hit A D ρ fb w h h0 h1 fa fk fn hm)
  have he : (hitErr (fa, fk, fn) != 0) = true := by unfold hitErr; split <;> decide
  clear h h0 h1 hl hs hg hB hm
  go_enter Try.func35, Try.ntmps35
  go_wp2_with (first
    | (go_at_call 42; refine (HC.out).mono ?_; rintro e w' ⟨rfl, rfl⟩)
    | (go_at_call 30; refine (HT.out).mono ?_; rintro e w1 ⟨rfl, hD, hf⟩))
  go_ret2
  exact ⟨rfl, hD.alloc _, hf.alloc hD.out _⟩
end Go.Proofs.Ytblhbkhehddccaa
