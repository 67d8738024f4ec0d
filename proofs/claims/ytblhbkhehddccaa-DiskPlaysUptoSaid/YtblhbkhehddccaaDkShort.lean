/- What a short Write of package disk does to a disk in memory. Conditions: those that each theorem names. -/
import Derived.Test.YtblhbkhehddccaaDkWriteW
namespace Go.Proofs.Ytblhbkhehddccaa
set_option linter.unusedVariables false
open Go.RowKit Dk

theorem cut_size (t : ByteArray) (k : Nat) (hk : k ≤ t.size) : (t.extract 0 k).size = k := by simp; omega
theorem cut_data (t : ByteArray) (k : Nat) : (t.extract 0 k).data.toList = t.data.toList.take k := by simp

set_option maxHeartbeats 4000000 in
set_option maxRecDepth 100000 in
theorem short_new (A : Nat) (D : DSt) (ρ : Nat → Nat × Nat) (fb : List Nat) (w : World) (h : DiskAt w A D ρ fb) (h0 : 0 ≤ D.steps) (h1 : D.steps ≤ 4611686018427387904) (hnm : D.names.length ≤ 1099511627776) (hop : D.opn.length ≤ 1099511627776)
    (s t : ByteArray) (hl : s.size ≤ maxLen) (ht : t.size ≤ maxLen) (hs : s.toList.isEmpty = false) (fa : Int) (k : Nat) (hk : k ≤ t.size) (hm : D.hit = some (fa, 2, (k : Int))) (hg : nmGet D.names s = none) (hb : t.size ≤ 200000000000000) :
    Calls Try.prog 8 #[.pointer (some ⟨A, 0, none⟩), .string s, .string t] w fun e w' => e = .returned (.tuple #[.int .i64 k, .int .i64 22]) ∧ Kept w A { more D.tick s with files := (more D.tick s).files.set D.files.length (FileC.mk (t.data.toList.take k) 0) } ρ w' := by
  have HT := Lib.hid (step_hit A D ρ fb w h h0 h1 fa 2 (k : Int) hm)
  have he : hitErr (fa, 2, (k : Int)) = 22 := by simp [hitErr]
  rw [he] at HT
  have HG := Lib.hid hg
  clear h h0 h1 hm hg he
  unfold maxLen at ht
  have hk0 : (0 : Int) ≤ k := by omega
  have hk1 : (k : Int) ≤ t.size := by omega
  have hpn := ptr_is_nil
  go_enter Try.func8, Try.ntmps8
  go_wp2_with fail
  refine (HT.out).mono ?_
  rintro e w1 ⟨rfl, hD, hf⟩
  obtain ⟨W, hW⟩ : ∃ W, W = w1.alloc (.cells #[.int .i64 fa, .int .i64 2, .int .i64 k] 63) := ⟨_, rfl⟩
  have hDW : DiskAt W A D.tick ρ fb := by rw [hW]; exact hD.alloc _
  have hfW : Fr own ρ ρ w W := by rw [hW]; exact hf.alloc hD.out _
  have hsW : W.heap.size = w1.heap.size + 1 := by rw [hW]; simp
  obtain ⟨m, op, pl, hA, hN, _⟩ := hDW.top
  have c0 : W.cell? ⟨A, 0, none⟩ = some (.map m) := by simp [World.cell?, hA, topCells]
  have hlook := names_look hN hDW.ok.sorted hl (fun p hp => by rw [hDW.files.1]; exact (hDW.ok.named p hp).2) W (fun _ _ _ => rfl)
  have hp : ptrV fb (nmGet D.tick.names s) = .pointer none := by
    rw [show nmGet D.tick.names s = none from HG.out]; rfl
  rw [hp] at hlook
  have hbeg := hDW.begin (.cells #[.string s, .pointer (some ⟨W.heap.size, 0, none⟩)] 79)
  have hR := relink_any A _ _ _ _ hbeg.1 [(s, some D.files.length)] (by
    intro x hx
    simp only [List.mem_singleton] at hx
    subst hx
    exact ⟨hl, fun i h => by cases h; show D.files.length < (D.files ++ _).length; simp⟩) (by simp) hnm hop (W.heap.size + 1)
  have hc : ([(s, some D.files.length)] : List (Nm × Option Nat)).flatMap (linkCells (fb ++ [W.heap.size])) = [.string s, .pointer (some ⟨W.heap.size, 0, none⟩)] := by
    have hfl : fb.length = D.files.length := hDW.files.1
    simp [linkCells, ptrV, ← hfl]
  rw [hc] at hR
  have hR' := hR (by have := heap_alloc_new (W.alloc (.cells #[.slice none 0 0, .int .i64 0] 77)) (.cells #[.string s, .pointer (some ⟨W.heap.size, 0, none⟩)] 79); simpa using this) (by simp [setR]; exact hDW.out _ (by omega))
  rw [hW] at c0 hlook
  have HR := Lib.hid hR'
  have HF := Lib.hid (hfW.trans hbeg.2)
  have HW := Lib.hid hW
  have HSW := Lib.hid hsW
  have hfl : fb.length = D.files.length := hDW.files.1
  have HFL := Lib.hid hfl
  clear hR hR' hc hD hf hDW hfW hA hN hp hbeg hW hsW hfl
  go_wp2_with fail
  rw [← HW.out, show w1.heap.size + 1 = W.heap.size from HSW.out.symm]
  refine (HR.out).mono ?_
  rintro e w2 ⟨rfl, ρ2, hD2', hf2⟩
  have hD2 : DiskAt w2 A (more D.tick s) ρ2 (fb ++ [W.heap.size]) := hD2'
  clear hD2'
  obtain ⟨m2, op2, pl2, hA2, hN2, _⟩ := hD2.top
  have d0 : w2.cell? ⟨A, 0, none⟩ = some (.map m2) := by simp [World.cell?, hA2, topCells]
  have hE : nmGet (more D.tick s).names s = some D.files.length := (nmGet_some hD2.ok.sorted).2 (more_get s)
  have hEf : (more D.tick s).files[D.files.length]? = some (FileC.mk [] 0) := by
    show (D.files ++ [FileC.mk [] 0])[D.files.length]? = _; simp
  have hEb : (fb ++ [W.heap.size])[D.files.length]? = some W.heap.size := by rw [← HFL.out]; simp
  have hlook2 := names_look hN2 hD2.ok.sorted hl (fun p hp => by rw [hD2.files.1]; exact (hD2.ok.named p hp).2) w2 (fun _ _ _ => rfl)
  have hp2 : ptrV (fb ++ [W.heap.size]) (nmGet (more D.tick s).names s) = .pointer (some ⟨W.heap.size, 0, none⟩) := by rw [hE]; simp [ptrV, hEb]
  rw [hp2] at hlook2
  have HTS := Lib.hid (cut_size t k hk)
  have HTD := Lib.hid (cut_data t k)
  generalize t.extract 0 k = t' at *
  have hts' : t'.size ≤ 200000000000000 := by have := HTS.out; omega
  obtain ⟨p0, cc, p, c, W', b0, happ, b1, b2, hled⟩ := hD2.appended hEf hEb t' (by show 0 + _ ≤ _; omega)
  simp only [List.length_nil, Nat.zero_add, List.nil_append] at b0 happ b1 hled
  rw [HTS.out] at happ hled
  rw [HTD.out] at hled
  have HLED := Lib.hid hled
  have HF2 := Lib.hid (HF.out.trans hf2)
  clear hD2 hf2 hA2 hN2 hE hEf hEb hp2 hled
  go_wp2_with (at_builtin; refine wpList_append_run (by rfl) _ _ _ _ (by rfl) _ _ (.slice p k c) W' (by rfl) (by rfl) happ ?_)
  go_ret2
  exact ⟨by rw [HTS.out]; rfl, let ⟨ρ', h1, h2⟩ := HLED.out; ⟨ρ', _, h1, HF2.out.trans h2⟩⟩

set_option maxHeartbeats 4000000 in
set_option maxRecDepth 100000 in
theorem short_new_all (A : Nat) (D : DSt) (ρ : Nat → Nat × Nat) (fb : List Nat) (w : World) (h : DiskAt w A D ρ fb) (h0 : 0 ≤ D.steps) (h1 : D.steps ≤ 4611686018427387904) (hnm : D.names.length ≤ 1099511627776) (hop : D.opn.length ≤ 1099511627776)
    (s t : ByteArray) (hl : s.size ≤ maxLen) (ht : t.size ≤ maxLen) (hs : s.toList.isEmpty = false) (fa fn : Int) (hk : (t.size : Int) < fn) (hm : D.hit = some (fa, 2, fn)) (hg : nmGet D.names s = none) (hb : t.size ≤ 200000000000000) :
    Calls Try.prog 8 #[.pointer (some ⟨A, 0, none⟩), .string s, .string t] w fun e w' => e = .returned (.tuple #[.int .i64 t.size, .int .i64 22]) ∧ Kept w A { more D.tick s with files := (more D.tick s).files.set D.files.length (FileC.mk t.data.toList 0) } ρ w' := by
  have HT := Lib.hid (step_hit A D ρ fb w h h0 h1 fa 2 fn hm)
  have he : hitErr (fa, 2, fn) = 22 := by simp [hitErr]
  rw [he] at HT
  have HG := Lib.hid hg
  clear h h0 h1 hm hg he
  unfold maxLen at ht
  have hpn := ptr_is_nil
  go_enter Try.func8, Try.ntmps8
  go_wp2_with fail
  refine (HT.out).mono ?_
  rintro e w1 ⟨rfl, hD, hf⟩
  obtain ⟨W, hW⟩ : ∃ W, W = w1.alloc (.cells #[.int .i64 fa, .int .i64 2, .int .i64 fn] 63) := ⟨_, rfl⟩
  have hDW : DiskAt W A D.tick ρ fb := by rw [hW]; exact hD.alloc _
  have hfW : Fr own ρ ρ w W := by rw [hW]; exact hf.alloc hD.out _
  have hsW : W.heap.size = w1.heap.size + 1 := by rw [hW]; simp
  obtain ⟨m, op, pl, hA, hN, _⟩ := hDW.top
  have c0 : W.cell? ⟨A, 0, none⟩ = some (.map m) := by simp [World.cell?, hA, topCells]
  have hlook := names_look hN hDW.ok.sorted hl (fun p hp => by rw [hDW.files.1]; exact (hDW.ok.named p hp).2) W (fun _ _ _ => rfl)
  have hp : ptrV fb (nmGet D.tick.names s) = .pointer none := by
    rw [show nmGet D.tick.names s = none from HG.out]; rfl
  rw [hp] at hlook
  have hbeg := hDW.begin (.cells #[.string s, .pointer (some ⟨W.heap.size, 0, none⟩)] 79)
  have hR := relink_any A _ _ _ _ hbeg.1 [(s, some D.files.length)] (by
    intro x hx
    simp only [List.mem_singleton] at hx
    subst hx
    exact ⟨hl, fun i h => by cases h; show D.files.length < (D.files ++ _).length; simp⟩) (by simp) hnm hop (W.heap.size + 1)
  have hc : ([(s, some D.files.length)] : List (Nm × Option Nat)).flatMap (linkCells (fb ++ [W.heap.size])) = [.string s, .pointer (some ⟨W.heap.size, 0, none⟩)] := by
    have hfl : fb.length = D.files.length := hDW.files.1
    simp [linkCells, ptrV, ← hfl]
  rw [hc] at hR
  have hR' := hR (by have := heap_alloc_new (W.alloc (.cells #[.slice none 0 0, .int .i64 0] 77)) (.cells #[.string s, .pointer (some ⟨W.heap.size, 0, none⟩)] 79); simpa using this) (by simp [setR]; exact hDW.out _ (by omega))
  rw [hW] at c0 hlook
  have HR := Lib.hid hR'
  have HF := Lib.hid (hfW.trans hbeg.2)
  have HW := Lib.hid hW
  have HSW := Lib.hid hsW
  have hfl : fb.length = D.files.length := hDW.files.1
  have HFL := Lib.hid hfl
  clear hR hR' hc hD hf hDW hfW hA hN hp hbeg hW hsW hfl
  go_wp2_with fail
  rw [← HW.out, show w1.heap.size + 1 = W.heap.size from HSW.out.symm]
  refine (HR.out).mono ?_
  rintro e w2 ⟨rfl, ρ2, hD2', hf2⟩
  have hD2 : DiskAt w2 A (more D.tick s) ρ2 (fb ++ [W.heap.size]) := hD2'
  clear hD2'
  obtain ⟨m2, op2, pl2, hA2, hN2, _⟩ := hD2.top
  have d0 : w2.cell? ⟨A, 0, none⟩ = some (.map m2) := by simp [World.cell?, hA2, topCells]
  have hE : nmGet (more D.tick s).names s = some D.files.length := (nmGet_some hD2.ok.sorted).2 (more_get s)
  have hEf : (more D.tick s).files[D.files.length]? = some (FileC.mk [] 0) := by
    show (D.files ++ [FileC.mk [] 0])[D.files.length]? = _; simp
  have hEb : (fb ++ [W.heap.size])[D.files.length]? = some W.heap.size := by rw [← HFL.out]; simp
  have hlook2 := names_look hN2 hD2.ok.sorted hl (fun p hp => by rw [hD2.files.1]; exact (hD2.ok.named p hp).2) w2 (fun _ _ _ => rfl)
  have hp2 : ptrV (fb ++ [W.heap.size]) (nmGet (more D.tick s).names s) = .pointer (some ⟨W.heap.size, 0, none⟩) := by rw [hE]; simp [ptrV, hEb]
  rw [hp2] at hlook2
  obtain ⟨p0, cc, p, c, W', b0, happ, b1, b2, hled⟩ := hD2.appended hEf hEb t (by show 0 + _ ≤ _; omega)
  simp only [List.length_nil, Nat.zero_add, List.nil_append] at b0 happ b1 hled
  have HLED := Lib.hid hled
  have HF2 := Lib.hid (HF.out.trans hf2)
  clear hD2 hf2 hA2 hN2 hE hEf hEb hp2 hled
  go_wp2_with (at_builtin; refine wpList_append_run (by rfl) _ _ _ _ (by rfl) _ _ (.slice p t.size c) W' (by rfl) (by rfl) happ ?_)
  go_ret2
  exact ⟨rfl, let ⟨ρ', h1, h2⟩ := HLED.out; ⟨ρ', _, h1, HF2.out.trans h2⟩⟩

set_option maxHeartbeats 4000000 in
set_option maxRecDepth 100000 in
theorem short_old (A : Nat) (D : DSt) (ρ : Nat → Nat × Nat) (fb : List Nat) (w : World) (h : DiskAt w A D ρ fb) (h0 : 0 ≤ D.steps) (h1 : D.steps ≤ 4611686018427387904) 
    (s t : ByteArray) (hl : s.size ≤ maxLen) (ht : t.size ≤ maxLen) (hs : s.toList.isEmpty = false) (fa : Int) (k : Nat) (hk : k ≤ t.size) (hm : D.hit = some (fa, 2, (k : Int))) (i : Nat) (f : FileC) (hg : nmGet D.names s = some i) (hf : D.files[i]? = some f) (hb : f.data.length + t.size ≤ 200000000000000) :
    Calls Try.prog 8 #[.pointer (some ⟨A, 0, none⟩), .string s, .string t] w fun e w' => e = .returned (.tuple #[.int .i64 k, .int .i64 22]) ∧ Kept w A { D.tick with files := D.files.set i { f with data := f.data ++ (t.data.toList.take k) } } ρ w' := by
  have HT := Lib.hid (step_hit A D ρ fb w h h0 h1 fa 2 (k : Int) hm)
  have he : hitErr (fa, 2, (k : Int)) = 22 := by simp [hitErr]
  rw [he] at HT
  obtain ⟨B, hB, _⟩ := h.files.2 i f hf
  have HB := Lib.hid hB
  have HFI := Lib.hid hf
  have HG := Lib.hid hg
  clear h h0 h1 hm hg he hB hf
  unfold maxLen at ht
  have hk0 : (0 : Int) ≤ k := by omega
  have hk1 : (k : Int) ≤ t.size := by omega
  have hpn := ptr_is_nil
  go_enter Try.func8, Try.ntmps8
  go_wp2_with fail
  refine (HT.out).mono ?_
  rintro e w1 ⟨rfl, hD, hf⟩
  obtain ⟨W, hW⟩ : ∃ W, W = w1.alloc (.cells #[.int .i64 fa, .int .i64 2, .int .i64 k] 63) := ⟨_, rfl⟩
  have hDW : DiskAt W A D.tick ρ fb := by rw [hW]; exact hD.alloc _
  have hfW : Fr own ρ ρ w W := by rw [hW]; exact hf.alloc hD.out _
  have hsW : W.heap.size = w1.heap.size + 1 := by rw [hW]; simp
  obtain ⟨m, op, pl, hA, hN, _⟩ := hDW.top
  have c0 : W.cell? ⟨A, 0, none⟩ = some (.map m) := by simp [World.cell?, hA, topCells]
  have hlook := names_look hN hDW.ok.sorted hl (fun p hp => by rw [hDW.files.1]; exact (hDW.ok.named p hp).2) W (fun _ _ _ => rfl)
  have hp : ptrV fb (nmGet D.tick.names s) = .pointer (some ⟨B, 0, none⟩) := by
    rw [show nmGet D.tick.names s = some i from HG.out]; simp [ptrV, HB.out]
  rw [hp] at hlook
  have HTS := Lib.hid (cut_size t k hk)
  have HTD := Lib.hid (cut_data t k)
  obtain ⟨p0, cc, p, c, W', b0, happ, b1, b2, hled⟩ := hDW.appended HFI.out HB.out (t.extract 0 k) (by have := HTS.out; omega)
  rw [HTS.out] at happ hled
  rw [HTD.out] at hled
  rw [hW] at c0 hlook b0
  have HLED := Lib.hid hled
  have HFW := Lib.hid hfW
  have HAPP := Lib.hid happ
  have HW := Lib.hid hW
  clear hD hf hDW hA hN hp happ hled hfW hW hsW
  go_wp2_with (at_builtin; refine wpList_append_run (by rfl) _ _ _ _ (by rfl) _ _ (.slice p (f.data.length + k) c) W' (by rfl) (by rfl) (HW.out ▸ HAPP.out) ?_)
  go_ret2
  exact ⟨rfl, let ⟨ρ', h1, h2⟩ := HLED.out; ⟨ρ', fb, h1, HFW.out.trans h2⟩⟩

set_option maxHeartbeats 4000000 in
set_option maxRecDepth 100000 in
theorem short_old_all (A : Nat) (D : DSt) (ρ : Nat → Nat × Nat) (fb : List Nat) (w : World) (h : DiskAt w A D ρ fb) (h0 : 0 ≤ D.steps) (h1 : D.steps ≤ 4611686018427387904) 
    (s t : ByteArray) (hl : s.size ≤ maxLen) (ht : t.size ≤ maxLen) (hs : s.toList.isEmpty = false) (fa fn : Int) (hk : (t.size : Int) < fn) (hm : D.hit = some (fa, 2, fn)) (i : Nat) (f : FileC) (hg : nmGet D.names s = some i) (hf : D.files[i]? = some f) (hb : f.data.length + t.size ≤ 200000000000000) :
    Calls Try.prog 8 #[.pointer (some ⟨A, 0, none⟩), .string s, .string t] w fun e w' => e = .returned (.tuple #[.int .i64 t.size, .int .i64 22]) ∧ Kept w A { D.tick with files := D.files.set i { f with data := f.data ++ t.data.toList } } ρ w' := by
  have HT := Lib.hid (step_hit A D ρ fb w h h0 h1 fa 2 fn hm)
  have he : hitErr (fa, 2, fn) = 22 := by simp [hitErr]
  rw [he] at HT
  obtain ⟨B, hB, _⟩ := h.files.2 i f hf
  have HB := Lib.hid hB
  have HFI := Lib.hid hf
  have HG := Lib.hid hg
  clear h h0 h1 hm hg he hB hf
  unfold maxLen at ht
  have hpn := ptr_is_nil
  go_enter Try.func8, Try.ntmps8
  go_wp2_with fail
  refine (HT.out).mono ?_
  rintro e w1 ⟨rfl, hD, hf⟩
  obtain ⟨W, hW⟩ : ∃ W, W = w1.alloc (.cells #[.int .i64 fa, .int .i64 2, .int .i64 fn] 63) := ⟨_, rfl⟩
  have hDW : DiskAt W A D.tick ρ fb := by rw [hW]; exact hD.alloc _
  have hfW : Fr own ρ ρ w W := by rw [hW]; exact hf.alloc hD.out _
  have hsW : W.heap.size = w1.heap.size + 1 := by rw [hW]; simp
  obtain ⟨m, op, pl, hA, hN, _⟩ := hDW.top
  have c0 : W.cell? ⟨A, 0, none⟩ = some (.map m) := by simp [World.cell?, hA, topCells]
  have hlook := names_look hN hDW.ok.sorted hl (fun p hp => by rw [hDW.files.1]; exact (hDW.ok.named p hp).2) W (fun _ _ _ => rfl)
  have hp : ptrV fb (nmGet D.tick.names s) = .pointer (some ⟨B, 0, none⟩) := by
    rw [show nmGet D.tick.names s = some i from HG.out]; simp [ptrV, HB.out]
  rw [hp] at hlook
  obtain ⟨p0, cc, p, c, W', b0, happ, b1, b2, hled⟩ := hDW.appended HFI.out HB.out t hb
  rw [hW] at c0 hlook b0
  have HLED := Lib.hid hled
  have HFW := Lib.hid hfW
  have HAPP := Lib.hid happ
  have HW := Lib.hid hW
  clear hD hf hDW hA hN hp happ hled hfW hW hsW
  go_wp2_with (at_builtin; refine wpList_append_run (by rfl) _ _ _ _ (by rfl) _ _ (.slice p (f.data.length + t.size) c) W' (by rfl) (by rfl) (HW.out ▸ HAPP.out) ?_)
  go_ret2
  exact ⟨rfl, let ⟨ρ', h1, h2⟩ := HLED.out; ⟨ρ', fb, h1, HFW.out.trans h2⟩⟩
end Go.Proofs.Ytblhbkhehddccaa
