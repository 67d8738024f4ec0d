/- What Rename and Remove of package disk do to a disk in memory. Conditions: those that each theorem names. -/
import Derived.Test.YtblhbkhehddccaaDkFile
namespace Go.Proofs.Ytblhbkhehddccaa
open Go.RowKit Dk

/-! ### Rename -/
set_option maxHeartbeats 400000 in
theorem rename_nil (s t : ByteArray) (w : World) :
    Calls Try.prog 14 #[.pointer none, .string s, .string t] w fun e w' => e = .returned (.int .i64 1) ∧ w = w' := by
  have ht : t.toList.isEmpty = true ∨ t.toList.isEmpty = false := by cases h : t.toList.isEmpty <;> simp
  rcases ht with ht | ht
  all_goals
    go_enter Try.func14, Try.ntmps14
    go_wp2_with (go_at_call 35; refine (stepAt_nil _ _).mono ?_; rintro e w' ⟨rfl, rfl⟩)
    go_ret
    exact ⟨rfl, rfl⟩
set_option maxHeartbeats 400000 in
theorem rename_empty (A : Nat) (s t : ByteArray) (h : s.toList = [] ∨ t.toList = []) (w : World) :
    Calls Try.prog 14 #[.pointer (some ⟨A, 0, none⟩), .string s, .string t] w fun e w' => e = .returned (.int .i64 1) ∧ w = w' := by
  by_cases ht : t.toList.isEmpty = true
  · clear h
    go_enter Try.func14, Try.ntmps14
    go_wp2
    go_ret
    exact ⟨rfl, rfl⟩
  · have ht : t.toList.isEmpty = false := by simpa using ht
    have hs : s.toList = [] := by
      rcases h with h | h
      · exact h
      · rw [h] at ht; cases ht
    have HS := Lib.hid hs
    clear hs h
    go_enter Try.func14, Try.ntmps14
    go_wp2_with (go_at_call 35; refine (stepAt_empty _ _ HS.out _).mono ?_; rintro e w' ⟨rfl, rfl⟩)
    go_ret
    exact ⟨rfl, rfl⟩
set_option maxHeartbeats 400000 in
theorem rename_none (A : Nat) (D : DSt) (ρ : Nat → Nat × Nat) (fb : List Nat) (w : World) (h : DiskAt w A D ρ fb) (s t : ByteArray) (hl : s.size ≤ maxLen) (hs : s.toList.isEmpty = false) (ht : t.toList.isEmpty = false) (hg : nmGet D.names s = none) :
    Calls Try.prog 14 #[.pointer (some ⟨A, 0, none⟩), .string s, .string t] w fun e w' => e = .returned (.int .i64 20) ∧ w = w' := by
  have HC := Lib.hid (stepAt_none A D ρ fb w h s hl hs hg)
  clear h hl hs hg
  go_enter Try.func14, Try.ntmps14
  go_wp2_with (go_at_call 35; refine (HC.out).mono ?_; rintro e w' ⟨rfl, rfl⟩)
  go_ret
  exact ⟨rfl, rfl⟩
set_option maxHeartbeats 400000 in
theorem rename_hit (A : Nat) (D : DSt) (ρ : Nat → Nat × Nat) (fb : List Nat) (w : World) (h : DiskAt w A D ρ fb) (h0 : 0 ≤ D.steps) (h1 : D.steps ≤ 4611686018427387904) (s t : ByteArray) (hl : s.size ≤ maxLen) (hs : s.toList.isEmpty = false) (ht : t.toList.isEmpty = false) (i : Nat) (hg : nmGet D.names s = some i) (fa fk fn : Int) (hm : D.hit = some (fa, fk, fn)) :
    Calls Try.prog 14 #[.pointer (some ⟨A, 0, none⟩), .string s, .string t] w fun e w' => e = .returned (.int .i64 (hitErr (fa, fk, fn))) ∧ Led w A D.tick ρ fb w' := by
  have hi : i < fb.length := by rw [h.files.1]; exact (h.ok.named _ ((nmGet_some h.ok.sorted).1 hg)).2
  have HT := Lib.hid (stepAt_hit A D ρ fb w h h0 h1 s hl hs i _ hg (List.getElem?_eq_getElem hi) fa fk fn hm)
  have he : (hitErr (fa, fk, fn) != 0) = true := by unfold hitErr; split <;> decide
  clear h h0 h1 hl hs hg hm hi
  go_enter Try.func14, Try.ntmps14
  go_wp2_with (go_at_call 35; refine (HT.out).mono ?_; rintro e w1 ⟨rfl, hD, hf⟩)
  go_ret
  exact ⟨rfl, ρ, hD, hf⟩
set_option maxHeartbeats 400000 in
theorem rename_same (A : Nat) (D : DSt) (ρ : Nat → Nat × Nat) (fb : List Nat) (w : World) (h : DiskAt w A D ρ fb) (h0 : 0 ≤ D.steps) (h1 : D.steps ≤ 4611686018427387904) (s : ByteArray) (hl : s.size ≤ maxLen) (hs : s.toList.isEmpty = false) (i : Nat) (hg : nmGet D.names s = some i) (hm : D.hit = none) :
    Calls Try.prog 14 #[.pointer (some ⟨A, 0, none⟩), .string s, .string s] w fun e w' => e = .returned (.int .i64 0) ∧ Led w A D.tick ρ fb w' := by
  have hi : i < fb.length := by rw [h.files.1]; exact (h.ok.named _ ((nmGet_some h.ok.sorted).1 hg)).2
  have HT := Lib.hid (stepAt_miss A D ρ fb w h h0 h1 s hl hs i _ hg (List.getElem?_eq_getElem hi) hm)
  clear h h0 h1 hl hg hm
  go_enter Try.func14, Try.ntmps14
  go_wp2_with (go_at_call 35; refine (HT.out).mono ?_; rintro e w1 ⟨rfl, hD, hf⟩)
  go_ret
  exact ⟨rfl, ρ, hD, hf⟩
set_option maxHeartbeats 1000000 in
theorem rename_miss (A : Nat) (D : DSt) (ρ : Nat → Nat × Nat) (fb : List Nat) (w : World) (h : DiskAt w A D ρ fb) (h0 : 0 ≤ D.steps) (h1 : D.steps ≤ 4611686018427387904) (hnm : D.names.length ≤ 1099511627776) (hop : D.opn.length ≤ 1099511627776)
    (s t : ByteArray) (hl : s.size ≤ maxLen) (hl' : t.size ≤ maxLen) (hs : s.toList.isEmpty = false) (ht : t.toList.isEmpty = false) (hst : (s.toList == t.toList) = false) (i : Nat) (hg : nmGet D.names s = some i) (hm : D.hit = none) :
    Calls Try.prog 14 #[.pointer (some ⟨A, 0, none⟩), .string s, .string t] w fun e w' => e = .returned (.int .i64 0) ∧ Led w A (D.tick.relink [(s, none), (t, some i)]) ρ fb w' := by
  have hi : i < fb.length := by rw [h.files.1]; exact (h.ok.named _ ((nmGet_some h.ok.sorted).1 hg)).2
  have hif : i < D.files.length := by rw [← h.files.1]; exact hi
  obtain ⟨B, hB⟩ : ∃ B, fb[i]? = some B := ⟨_, List.getElem?_eq_getElem hi⟩
  have HT := Lib.hid (stepAt_miss A D ρ fb w h h0 h1 s hl hs i B hg hB hm)
  have HB := Lib.hid hB
  clear h h0 h1 hg hm hi hB
  go_enter Try.func14, Try.ntmps14
  go_wp2_with fail
  refine (HT.out).mono ?_
  rintro e w1 ⟨rfl, hD, hf⟩
  have hR := fun o => relink_any A D.tick ρ fb (w1.alloc o) (hD.alloc o) [(s, none), (t, some i)] (by
    intro x hx
    simp only [List.mem_cons, List.not_mem_nil, or_false] at hx
    rcases hx with rfl | rfl
    · exact ⟨hl, fun i h => by cases h⟩
    · exact ⟨hl', fun j h => by cases h; exact hif⟩) (by simp) hnm hop w1.heap.size
  have hc : ([(s, none), (t, some i)] : List (Nm × Option Nat)).flatMap (linkCells fb) = [.string s, .pointer none, .string t, .pointer (some ⟨B, 0, none⟩)] := by
    simp [linkCells, ptrV, HB.out]
  rw [hc] at hR
  have hR' := hR (.cells #[.string s, .pointer none, .string t, .pointer (some ⟨B, 0, none⟩)] 79) (heap_alloc_new _ _) (hD.out _ (Nat.le_refl _))
  have HR := Lib.hid hR'
  have HF := Lib.hid (hf.alloc hD.out (.cells #[.string s, .pointer none, .string t, .pointer (some ⟨B, 0, none⟩)] 79))
  clear hR hR' hc hD hf
  go_wp2_with fail
  refine (HR.out).mono ?_
  rintro e w2 ⟨rfl, ρ2, hD2, hf2⟩
  have HD2 := Lib.hid hD2
  have HF2 := Lib.hid hf2
  clear hD2 hf2
  go_wp2
  go_ret
  exact ⟨rfl, ρ2, HD2.out, HF.out.trans HF2.out⟩

/-! ### Remove -/
set_option maxHeartbeats 400000 in
theorem remove_nil (s : ByteArray) (w : World) :
    Calls Try.prog 16 #[.pointer none, .string s] w fun e w' => e = .returned (.int .i64 1) ∧ w = w' := by
  go_enter Try.func16, Try.ntmps16
  go_wp2_with (go_at_call 35; refine (stepAt_nil _ _).mono ?_; rintro e w' ⟨rfl, rfl⟩)
  go_ret
  exact ⟨rfl, rfl⟩
set_option maxHeartbeats 400000 in
theorem remove_empty (A : Nat) (s : ByteArray) (hs : s.toList = []) (w : World) :
    Calls Try.prog 16 #[.pointer (some ⟨A, 0, none⟩), .string s] w fun e w' => e = .returned (.int .i64 1) ∧ w = w' := by
  have HS := Lib.hid hs
  clear hs
  go_enter Try.func16, Try.ntmps16
  go_wp2_with (go_at_call 35; refine (stepAt_empty _ _ HS.out _).mono ?_; rintro e w' ⟨rfl, rfl⟩)
  go_ret
  exact ⟨rfl, rfl⟩
set_option maxHeartbeats 400000 in
theorem remove_none (A : Nat) (D : DSt) (ρ : Nat → Nat × Nat) (fb : List Nat) (w : World) (h : DiskAt w A D ρ fb) (s : ByteArray) (hl : s.size ≤ maxLen) (hs : s.toList.isEmpty = false) (hg : nmGet D.names s = none) :
    Calls Try.prog 16 #[.pointer (some ⟨A, 0, none⟩), .string s] w fun e w' => e = .returned (.int .i64 20) ∧ w = w' := by
  have HC := Lib.hid (stepAt_none A D ρ fb w h s hl hs hg)
  clear h hl hs hg
  go_enter Try.func16, Try.ntmps16
  go_wp2_with (go_at_call 35; refine (HC.out).mono ?_; rintro e w' ⟨rfl, rfl⟩)
  go_ret
  exact ⟨rfl, rfl⟩
set_option maxHeartbeats 400000 in
theorem remove_hit (A : Nat) (D : DSt) (ρ : Nat → Nat × Nat) (fb : List Nat) (w : World) (h : DiskAt w A D ρ fb) (h0 : 0 ≤ D.steps) (h1 : D.steps ≤ 4611686018427387904) (s : ByteArray) (hl : s.size ≤ maxLen) (hs : s.toList.isEmpty = false) (i : Nat) (hg : nmGet D.names s = some i) (fa fk fn : Int) (hm : D.hit = some (fa, fk, fn)) :
    Calls Try.prog 16 #[.pointer (some ⟨A, 0, none⟩), .string s] w fun e w' => e = .returned (.int .i64 (hitErr (fa, fk, fn))) ∧ Led w A D.tick ρ fb w' := by
  have hi : i < fb.length := by rw [h.files.1]; exact (h.ok.named _ ((nmGet_some h.ok.sorted).1 hg)).2
  have HT := Lib.hid (stepAt_hit A D ρ fb w h h0 h1 s hl hs i _ hg (List.getElem?_eq_getElem hi) fa fk fn hm)
  have he : (hitErr (fa, fk, fn) != 0) = true := by unfold hitErr; split <;> decide
  clear h h0 h1 hl hs hg hm hi
  go_enter Try.func16, Try.ntmps16
  go_wp2_with (go_at_call 35; refine (HT.out).mono ?_; rintro e w1 ⟨rfl, hD, hf⟩)
  go_ret
  exact ⟨rfl, ρ, hD, hf⟩
set_option maxHeartbeats 1000000 in
theorem remove_miss (A : Nat) (D : DSt) (ρ : Nat → Nat × Nat) (fb : List Nat) (w : World) (h : DiskAt w A D ρ fb) (h0 : 0 ≤ D.steps) (h1 : D.steps ≤ 4611686018427387904) (hnm : D.names.length ≤ 1099511627776) (hop : D.opn.length ≤ 1099511627776)
    (s : ByteArray) (hl : s.size ≤ maxLen) (hs : s.toList.isEmpty = false) (i : Nat) (hg : nmGet D.names s = some i) (hm : D.hit = none) :
    Calls Try.prog 16 #[.pointer (some ⟨A, 0, none⟩), .string s] w fun e w' => e = .returned (.int .i64 0) ∧ Led w A (D.tick.relink [(s, none)]) ρ fb w' := by
  have hi : i < fb.length := by rw [h.files.1]; exact (h.ok.named _ ((nmGet_some h.ok.sorted).1 hg)).2
  have HT := Lib.hid (stepAt_miss A D ρ fb w h h0 h1 s hl hs i _ hg (List.getElem?_eq_getElem hi) hm)
  clear h h0 h1 hg hm
  go_enter Try.func16, Try.ntmps16
  go_wp2_with fail
  refine (HT.out).mono ?_
  rintro e w1 ⟨rfl, hD, hf⟩
  have hR := fun o => relink_any A D.tick ρ fb (w1.alloc o) (hD.alloc o) [(s, none)] (by
    intro x hx
    simp only [List.mem_cons, List.not_mem_nil, or_false] at hx
    subst hx
    exact ⟨hl, fun i h => by cases h⟩) (by simp) hnm hop w1.heap.size
  have hc : ([(s, none)] : List (Nm × Option Nat)).flatMap (linkCells fb) = [.string s, .pointer none] := by simp [linkCells, ptrV]
  rw [hc] at hR
  have hR' := hR (.cells #[.string s, .pointer none] 79) (heap_alloc_new _ _) (hD.out _ (Nat.le_refl _))
  have HR := Lib.hid hR'
  have HF := Lib.hid (hf.alloc hD.out (.cells #[.string s, .pointer none] 79))
  clear hR hR' hc hD hf
  go_wp2_with fail
  refine (HR.out).mono ?_
  rintro e w2 ⟨rfl, ρ2, hD2, hf2⟩
  have HD2 := Lib.hid hD2
  have HF2 := Lib.hid hf2
  clear hD2 hf2
  go_wp2
  go_ret
  exact ⟨rfl, ρ2, HD2.out, HF.out.trans HF2.out⟩
end Go.Proofs.Ytblhbkhehddccaa
