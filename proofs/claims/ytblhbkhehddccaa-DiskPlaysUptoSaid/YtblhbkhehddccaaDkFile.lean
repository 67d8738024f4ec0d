/- What calls of package disk do to a file of a disk in memory: Sync, Cut. Conditions: those that each theorem names. -/
import Derived.Test.YtblhbkhehddccaaDkOps
namespace Go.Proofs.Ytblhbkhehddccaa
open Go.RowKit Dk

theorem ok_file {D : DSt} (ok : D.Ok) (i : Nat) {f' : FileC} (hok : f'.synced ≤ f'.data.length ∧ f'.data.length ≤ maxLen) : ({ D with files := D.files.set i f' } : DSt).Ok := by
  refine ⟨ok.sorted, by simpa using ok.named, by simpa using ok.opened, fun g hg => ?_⟩
  rcases List.mem_or_eq_of_mem_set hg with hg | rfl
  · exact ok.synced g hg
  · exact hok
theorem DiskAt.file_turn {w : World} {A : Nat} {D : DSt} {ρ : Nat → Nat × Nat} {fb : List Nat} (h : DiskAt w A D ρ fb) {i B : Nat} (hB : fb[i]? = some B) {w' : World} {ρ' : Nat → Nat × Nat}
    (F : Fr (fun r => r = (5, i) ∨ r = (6, i)) ρ ρ' w w') {f' : FileC} (hf' : FileAt w' ρ' i B f') (hok : f'.synced ≤ f'.data.length ∧ f'.data.length ≤ maxLen) :
    DiskAt w' A { D with files := D.files.set i f' } ρ' fb ∧ Fr own ρ ρ' w w' := by
  obtain ⟨ok, out, role, ⟨m, op, pl, hA, hN, hO, hP⟩, hF⟩ := h
  refine ⟨⟨ok_file ok i hok, F.out, F.mark role (by simp), ⟨m, op, pl, (F.at (Array.getElem?_eq_some_iff.1 hA).1 role (by simp)).trans hA, hN.fr F (by simp), hO.fr F (by simp) (by simp), hP.fr F (by simp)⟩, ?_, ?_⟩, F.weaken (fun r hr => by rcases hr with hr | hr <;> rw [hr] <;> simp [own])⟩
  · simpa using hF.1
  · intro j f hj
    show ∃ B', fb[j]? = some B' ∧ FileAt w' ρ' j B' f
    rw [List.getElem?_set] at hj
    split at hj
    · rename_i e
      subst e
      split at hj
      · cases hj; exact ⟨B, hB, hf'⟩
      · cases hj
    · rename_i e
      obtain ⟨B', h1, h2⟩ := hF.2 j f hj
      exact ⟨B', h1, h2.fr F (by simp; omega) (by simp; omega)⟩
theorem FileAt.form {w : World} {ρ : Nat → Nat × Nat} {i B : Nat} {f : FileC} (h : FileAt w ρ i B f) : ∃ p c, w.heap[B]? = some (.cells #[.slice p f.data.length c, .int .i64 f.synced] 77 (0, 0)) ∧ w.ownsRow 0 5 1 (.slice p f.data.length c) f.data.length (u8s f.data) ∧ ∀ g, (Value.slice p f.data.length c).ownBlock = some g → ρ g = (6, i) := by
  obtain ⟨h1, v, h2, h3, h4⟩ := h
  rcases h3.2 with ⟨rfl, h0⟩ | ⟨g, cap, cur, rfl, _⟩
  · have h2' := h2
    have h3' := h3
    rw [h0] at h3'
    exact ⟨none, 0, by rw [h0]; exact h2, by rw [h0]; exact h3', by rw [h0]; exact h4⟩
  · exact ⟨_, cap, h2, h3, h4⟩

/-! ### Sync -/
def syncF (f : FileC) : FileC := { f with synced := f.data.length }
theorem DiskAt.file_synced {w : World} {A : Nat} {D : DSt} {ρ : Nat → Nat × Nat} {fb : List Nat} (h : DiskAt w A D ρ fb) {i B : Nat} {f : FileC} (hf : D.files[i]? = some f) (hB : fb[i]? = some B) :
    DiskAt (w.setCell ⟨B, 1, none⟩ (.int .i64 f.data.length)) A { D with files := D.files.set i (syncF f) } ρ fb ∧ Fr own ρ ρ w (w.setCell ⟨B, 1, none⟩ (.int .i64 f.data.length)) := by
  obtain ⟨B', hB', hfa⟩ := h.files.2 i f hf
  rw [hB] at hB'; cases hB'
  obtain ⟨p, c, h1, h2, h3⟩ := hfa.form
  have hm := h.ok.synced f (List.mem_of_getElem? hf)
  have hne : ∀ b, b ≠ B → (w.setCell ⟨B, 1, none⟩ (.int .i64 f.data.length)).heap[b]? = w.heap[b]? := fun b hb => heap_setCell_ne hb
  refine h.file_turn (w' := w.setCell ⟨B, 1, none⟩ (.int .i64 f.data.length)) (f' := syncF f) hB ⟨rfl, rfl, rfl, by simp [World.setCell], fun b hb hn => hne b (fun e => hn (by rw [e]; exact .inl hfa.1)), fun _ _ => rfl, fun _ _ h => h, fun b hb => h.out b (by simpa [World.setCell] using hb)⟩ ⟨hfa.1, _, heap_setCell_same _ _ _ _ _ _ h1, ownsRow_same h2 (fun g hg => hne g (fun e => ?_)), h3⟩ ⟨Nat.le_refl _, hm.2⟩
  have h5 := h3 g hg
  have h6 := hfa.1
  rw [e, h6] at h5; cases h5
set_option maxHeartbeats 400000 in
theorem sync_nil (s : ByteArray) (w : World) :
    Calls Try.prog 12 #[.pointer none, .string s] w fun e w' => e = .returned (.int .i64 1) ∧ w = w' := by
  go_enter Try.func12, Try.ntmps12
  go_wp2_with (go_at_call 35; refine (stepAt_nil _ _).mono ?_; rintro e w' ⟨rfl, rfl⟩)
  go_ret
  exact ⟨rfl, rfl⟩
set_option maxHeartbeats 400000 in
theorem sync_empty (A : Nat) (s : ByteArray) (hs : s.toList = []) (w : World) :
    Calls Try.prog 12 #[.pointer (some ⟨A, 0, none⟩), .string s] w fun e w' => e = .returned (.int .i64 1) ∧ w = w' := by
  have HS := Lib.hid hs
  clear hs
  go_enter Try.func12, Try.ntmps12
  go_wp2_with (go_at_call 35; refine (stepAt_empty _ _ HS.out _).mono ?_; rintro e w' ⟨rfl, rfl⟩)
  go_ret
  exact ⟨rfl, rfl⟩
set_option maxHeartbeats 400000 in
theorem sync_none (A : Nat) (D : DSt) (ρ : Nat → Nat × Nat) (fb : List Nat) (w : World) (h : DiskAt w A D ρ fb) (s : ByteArray) (hl : s.size ≤ maxLen) (hs : s.toList.isEmpty = false) (hg : nmGet D.names s = none) :
    Calls Try.prog 12 #[.pointer (some ⟨A, 0, none⟩), .string s] w fun e w' => e = .returned (.int .i64 20) ∧ w = w' := by
  have HC := Lib.hid (stepAt_none A D ρ fb w h s hl hs hg)
  clear h hl hs hg
  go_enter Try.func12, Try.ntmps12
  go_wp2_with (go_at_call 35; refine (HC.out).mono ?_; rintro e w' ⟨rfl, rfl⟩)
  go_ret
  exact ⟨rfl, rfl⟩
set_option maxHeartbeats 400000 in
theorem sync_hit (A : Nat) (D : DSt) (ρ : Nat → Nat × Nat) (fb : List Nat) (w : World) (h : DiskAt w A D ρ fb) (h0 : 0 ≤ D.steps) (h1 : D.steps ≤ 4611686018427387904) (s : ByteArray) (hl : s.size ≤ maxLen) (hs : s.toList.isEmpty = false) (i : Nat) (f : FileC) (hg : nmGet D.names s = some i) (hf : D.files[i]? = some f) (fa fk fn : Int) (hm : D.hit = some (fa, fk, fn)) :
    Calls Try.prog 12 #[.pointer (some ⟨A, 0, none⟩), .string s] w fun e w' => e = .returned (.int .i64 (hitErr (fa, fk, fn))) ∧ Led w A D.tick ρ fb w' := by
  obtain ⟨B, hB, _⟩ := h.files.2 i f hf
  have HT := Lib.hid (stepAt_hit A D ρ fb w h h0 h1 s hl hs i B hg hB fa fk fn hm)
  have he : (hitErr (fa, fk, fn) != 0) = true := by unfold hitErr; split <;> decide
  clear h h0 h1 hl hs hg hB hm hf
  go_enter Try.func12, Try.ntmps12
  go_wp2_with (go_at_call 35; refine (HT.out).mono ?_; rintro e w1 ⟨rfl, hD, hf⟩)
  go_ret
  exact ⟨rfl, ρ, hD, hf⟩
set_option maxHeartbeats 400000 in
theorem sync_miss (A : Nat) (D : DSt) (ρ : Nat → Nat × Nat) (fb : List Nat) (w : World) (h : DiskAt w A D ρ fb) (h0 : 0 ≤ D.steps) (h1 : D.steps ≤ 4611686018427387904) (s : ByteArray) (hl : s.size ≤ maxLen) (hs : s.toList.isEmpty = false) (i : Nat) (f : FileC) (hg : nmGet D.names s = some i) (hf : D.files[i]? = some f) (hm : D.hit = none) :
    Calls Try.prog 12 #[.pointer (some ⟨A, 0, none⟩), .string s] w fun e w' => e = .returned (.int .i64 0) ∧ Led w A { D.tick with files := D.files.set i (syncF f) } ρ fb w' := by
  obtain ⟨B, hB, _⟩ := h.files.2 i f hf
  have HT := Lib.hid (stepAt_miss A D ρ fb w h h0 h1 s hl hs i B hg hB hm)
  have HFI := Lib.hid hf
  have HB := Lib.hid hB
  clear h h0 h1 hl hs hg hB hm hf
  go_enter Try.func12, Try.ntmps12
  go_wp2_with fail
  refine (HT.out).mono ?_
  rintro e w1 ⟨rfl, hD, hf⟩
  obtain ⟨B', hB', hfa⟩ := hD.files.2 i f HFI.out
  have eB : B = B' := by have := HB.out; rw [this] at hB'; exact Option.some.inj hB'
  subst eB
  obtain ⟨p, c, h1, h2, h3⟩ := hfa.form
  have c0 : w1.cell? ⟨B, 0, none⟩ = some (.slice p f.data.length c) := by simp [World.cell?, h1]
  have c1 : w1.cell? ⟨B, 1, none⟩ = some (.int .i64 f.synced) := by simp [World.cell?, h1]
  have f1 : w1.frozen? ⟨B, 1, none⟩ = false := by simp [World.frozen?, h1]
  have HS := Lib.hid (hD.file_synced (f := f) HFI.out HB.out)
  have HF := Lib.hid hf
  clear hD hf hfa h1 h2 h3 hB'
  go_wp2
  go_ret
  exact ⟨rfl, ρ, HS.out.1, HF.out.trans HS.out.2⟩
end Go.Proofs.Ytblhbkhehddccaa
