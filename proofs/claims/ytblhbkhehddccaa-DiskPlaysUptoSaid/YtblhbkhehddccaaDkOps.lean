/- What calls of package disk do to a disk in memory: New, Steps, Read, Sync, SyncNames. Conditions: those that each theorem names. -/
import Derived.Test.YtblhbkhehddccaaDkRelinkW
namespace Go.Proofs.Ytblhbkhehddccaa
open Go.RowKit Dk

/-! ### New -/
set_option maxHeartbeats 400000 in
theorem new_any (w : World) :
    Calls Try.prog 4 #[] w fun e w' => e = .returned (.pointer (some ⟨w.heap.size, 0, none⟩)) ∧ w' = w.alloc (.cells #[.map none, .slice none 0 0, .int .i64 0, .map none] 45) := by
  go_enter Try.func4, Try.ntmps4
  go_wp2
  go_ret
  exact ⟨rfl, rfl⟩
def noMarks : Nat → Nat × Nat := fun _ => (0, 0)
theorem DiskAt.made (w : World) : DiskAt (w.alloc (.cells #[.map none, .slice none 0 0, .int .i64 0, .map none] 45)) w.heap.size Dk.new (setR noMarks (some w.heap.size) (1, 0)) [] :=
  ⟨new_ok, fun b hb => by simp at hb; have : w.heap.size ≠ b := by omega
                          simp [setR, noMarks, this],
    by simp [setR], ⟨none, .slice none 0 0, none, heap_alloc_new _ _, .inl ⟨rfl, rfl⟩, ⟨[], World.ownsRow_nil _ _ _ _, fun g hg => by simp [Value.ownBlock] at hg, fun i l hl => by simp [Dk.new] at hl⟩, .inl ⟨rfl, rfl⟩⟩, rfl, fun i f hf => by simp [Dk.new] at hf⟩

/-! ### Steps -/
set_option maxHeartbeats 400000 in
theorem steps_nil (w : World) :
    Calls Try.prog 29 #[.pointer none] w fun e w' => e = .returned (.int .i64 0) ∧ w = w' := by
  go_enter Try.func29, Try.ntmps29
  go_wp2
  go_ret
  exact ⟨rfl, rfl⟩
set_option maxHeartbeats 400000 in
theorem steps_any (A : Nat) (D : DSt) (ρ : Nat → Nat × Nat) (fb : List Nat) (w : World) (h : DiskAt w A D ρ fb) :
    Calls Try.prog 29 #[.pointer (some ⟨A, 0, none⟩)] w fun e w' => e = .returned (.int .i64 D.steps) ∧ w = w' := by
  obtain ⟨m, op, pl, hA, _⟩ := h.top
  have c2 : w.cell? ⟨A, 2, none⟩ = some (.int .i64 D.steps) := by simp [World.cell?, hA, topCells]
  clear hA h
  go_enter Try.func29, Try.ntmps29
  go_wp2
  go_ret
  exact ⟨rfl, rfl⟩

/-! ### Read -/
set_option maxHeartbeats 400000 in
theorem read_nil (s : ByteArray) (w : World) :
    Calls Try.prog 25 #[.pointer none, .string s] w fun e w' => e = .returned (.tuple #[.string ⟨#[]⟩, .int .i64 1]) ∧ w = w' := by
  go_enter Try.func25, Try.ntmps25
  go_wp2_with (go_at_call 42; refine (find_nil _ _).mono ?_; rintro e w' ⟨rfl, rfl⟩)
  go_ret2
  exact ⟨rfl, rfl⟩
set_option maxHeartbeats 400000 in
theorem read_empty (A : Nat) (s : ByteArray) (hs : s.toList = []) (w : World) :
    Calls Try.prog 25 #[.pointer (some ⟨A, 0, none⟩), .string s] w fun e w' => e = .returned (.tuple #[.string ⟨#[]⟩, .int .i64 1]) ∧ w = w' := by
  have HS := Lib.hid hs
  clear hs
  go_enter Try.func25, Try.ntmps25
  go_wp2_with (go_at_call 42; refine (find_empty _ _ HS.out _).mono ?_; rintro e w' ⟨rfl, rfl⟩)
  go_ret2
  exact ⟨rfl, rfl⟩
set_option maxHeartbeats 400000 in
theorem read_none (A : Nat) (D : DSt) (ρ : Nat → Nat × Nat) (fb : List Nat) (w : World) (h : DiskAt w A D ρ fb) (s : ByteArray) (hl : s.size ≤ maxLen) (hs : s.toList.isEmpty = false) (hg : nmGet D.names s = none) :
    Calls Try.prog 25 #[.pointer (some ⟨A, 0, none⟩), .string s] w fun e w' => e = .returned (.tuple #[.string ⟨#[]⟩, .int .i64 20]) ∧ w = w' := by
  have HC := Lib.hid (find_none A D ρ fb w h s hl hs hg)
  clear h hl hs hg
  go_enter Try.func25, Try.ntmps25
  go_wp2_with (go_at_call 42; refine (HC.out).mono ?_; rintro e w' ⟨rfl, rfl⟩)
  go_ret2
  exact ⟨rfl, rfl⟩
theorem u8s_length (l : List UInt8) : (u8s l).length = l.length := by simp [u8s]
/-- The string that a file's bytes are. -/
theorem bytes_string {w : World} {v : Value} {l : List UInt8} (h : w.ownsRow 0 5 1 v l.length (u8s l)) : (convert 75 9 v).run Try.prog w = .ok (.string ⟨l.toArray⟩) w := by
  rcases h.2 with ⟨rfl, h0⟩ | ⟨g, cap, cur, rfl, h0, h1, h2, h3, h4, h5⟩
  · have : l = [] := List.eq_nil_of_length_eq_zero h0
    subst this
    rw [run_convert_bytes_string w _ _ _ none 0 0 Try.underlying75 Try.underlying5 Try.underlying9]
    rfl
  · refine run_convert_bytes_back w _ _ _ _ cap l Try.underlying75 Try.underlying5 Try.underlying9 (fun j hj => ?_)
    have := h.cells (g := g) rfl j (.int .u8 (l[j].toNat : Int)) (by simp [u8s, hj])
    exact this
set_option maxHeartbeats 400000 in
theorem read_some (A : Nat) (D : DSt) (ρ : Nat → Nat × Nat) (fb : List Nat) (w : World) (h : DiskAt w A D ρ fb) (s : ByteArray) (hl : s.size ≤ maxLen) (hs : s.toList.isEmpty = false) (i : Nat) (f : FileC) (hg : nmGet D.names s = some i) (hf : D.files[i]? = some f) :
    Calls Try.prog 25 #[.pointer (some ⟨A, 0, none⟩), .string s] w fun e w' => e = .returned (.tuple #[.string ⟨f.data.toArray⟩, .int .i64 0]) ∧ w = w' := by
  obtain ⟨B, hB, hr, v, h1, h2, h3⟩ := h.files.2 i f hf
  have HC := Lib.hid (find_some A D ρ fb w h s hl hs i B hg hB)
  have c0 : w.cell? ⟨B, 0, none⟩ = some v := by simp [World.cell?, h1]
  have hc := bytes_string h2
  clear h hl hs hg hf hB h1 h2 h3 hr
  go_enter Try.func25, Try.ntmps25
  go_wp2_with (go_at_call 42; refine (HC.out).mono ?_; rintro e w' ⟨rfl, rfl⟩)
  go_ret2
  exact ⟨rfl, rfl⟩

/-! ### SyncNames -/
def DSt.close (D : DSt) : DSt := { D with opn := [] }
theorem DiskAt.close {w : World} {A : Nat} {D : DSt} {ρ : Nat → Nat × Nat} {fb : List Nat} (h : DiskAt w A D ρ fb) : DiskAt (w.setCell ⟨A, 1, none⟩ (.slice none 0 0)) A (DSt.close D) ρ fb ∧ Fr own ρ ρ w (w.setCell ⟨A, 1, none⟩ (.slice none 0 0)) := by
  obtain ⟨ok, out, role, ⟨m, op, pl, hA, hN, hO, hP⟩, hF⟩ := h
  have F : Fr (fun r => r = (1, 0)) ρ ρ w (w.setCell ⟨A, 1, none⟩ (.slice none 0 0)) := ⟨rfl, rfl, rfl, by simp [World.setCell], fun b hb hn => heap_setCell_ne (fun e => hn (by have e' : b = A := e; rw [e']; exact role)), fun _ _ => rfl, fun _ _ h => h, fun b hb => out b (by simpa [World.setCell] using hb)⟩
  exact ⟨⟨⟨ok.sorted, ok.named, by simp [DSt.close], ok.synced⟩, F.out, role, ⟨m, .slice none 0 0, pl, heap_setCell_same _ _ _ _ _ _ hA, hN.fr F (by simp), ⟨[], World.ownsRow_nil _ _ _ _, fun g hg => by simp [Value.ownBlock] at hg, fun i l hl => by simp [DSt.close] at hl⟩, hP.fr F (by simp)⟩, hF.fr F (by simp) (by simp)⟩, F.weaken (fun r hr => by rw [hr]; simp [own])⟩
set_option maxHeartbeats 400000 in
theorem syncNames_nil (w : World) :
    Calls Try.prog 18 #[.pointer none] w fun e w' => e = .returned (.int .i64 1) ∧ w = w' := by
  go_enter Try.func18, Try.ntmps18
  go_wp2
  go_ret
  exact ⟨rfl, rfl⟩
set_option maxHeartbeats 400000 in
theorem syncNames_miss (A : Nat) (D : DSt) (ρ : Nat → Nat × Nat) (fb : List Nat) (w : World) (h : DiskAt w A D ρ fb) (h0 : 0 ≤ D.steps) (h1 : D.steps ≤ 4611686018427387904) (hm : D.hit = none) :
    Calls Try.prog 18 #[.pointer (some ⟨A, 0, none⟩)] w fun e w' => e = .returned (.int .i64 0) ∧ Led w A (DSt.close D.tick) ρ fb w' := by
  have HT := Lib.hid (step_miss A D ρ fb w h h0 h1 hm)
  clear h h0 h1 hm
  go_enter Try.func18, Try.ntmps18
  go_wp2_with fail
  refine (HT.out).mono ?_
  rintro e w1 ⟨rfl, hD, hf⟩
  obtain ⟨m, op, pl, hA, _⟩ := hD.top
  have c1 : w1.cell? ⟨A, 1, none⟩ = some op := by simp [World.cell?, hA, topCells]
  have f1 : w1.frozen? ⟨A, 1, none⟩ = false := by simp [World.frozen?, hA]
  have a1 := cell_alloc c1
  have z1 := frozen_alloc hD.lt f1
  have hc := fun o => (hD.alloc o).close
  have HC := Lib.hid hc
  have HF := Lib.hid (fun o => hf.alloc hD.out o)
  clear hD hf hA hc
  go_wp2
  go_ret
  exact ⟨rfl, ρ, (HC.out _).1, (HF.out _).trans (HC.out _).2⟩
set_option maxHeartbeats 400000 in
theorem syncNames_hit (A : Nat) (D : DSt) (ρ : Nat → Nat × Nat) (fb : List Nat) (w : World) (h : DiskAt w A D ρ fb) (h0 : 0 ≤ D.steps) (h1 : D.steps ≤ 4611686018427387904) (fa fk fn : Int) (hm : D.hit = some (fa, fk, fn)) :
    Calls Try.prog 18 #[.pointer (some ⟨A, 0, none⟩)] w fun e w' => e = .returned (.int .i64 (hitErr (fa, fk, fn))) ∧ Led w A D.tick ρ fb w' := by
  have HT := Lib.hid (step_hit A D ρ fb w h h0 h1 fa fk fn hm)
  have he : (hitErr (fa, fk, fn) != 0) = true := by unfold hitErr; split <;> decide
  clear h h0 h1 hm
  go_enter Try.func18, Try.ntmps18
  go_wp2_with (go_at_call 30; refine (HT.out).mono ?_; rintro e w1 ⟨rfl, hD, hf⟩)
  go_ret
  exact ⟨rfl, ρ, hD.alloc _, hf.alloc hD.out _⟩
end Go.Proofs.Ytblhbkhehddccaa
