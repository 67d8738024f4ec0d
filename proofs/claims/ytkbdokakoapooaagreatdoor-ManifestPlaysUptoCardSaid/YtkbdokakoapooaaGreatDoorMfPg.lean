/- manifest's call Store over whatever disk, whatever faults it plans. Conditions: those that each theorem names. -/
import Derived.Test.YtkbdokakoapooaaGreatDoorMfPs
import Derived.Test.YtkbdokakoapooaaGreatDoorMfSo
namespace Go.Proofs.YtkbdokakoapooaaGreatDoor
set_option linter.unusedVariables false
open Go Go.RowKit Go.Shelf Go.Sort Dk
set_option maxHeartbeats 1000000 in
theorem removeD_hit (A : Nat) (D : DSt) (ρ : Nat → Nat × Nat) (fb : List Nat) (w : World) (h : DiskAt w A D ρ fb) (h0 : 0 ≤ D.steps) (h1 : D.steps ≤ 4611686018427387904)
    (s : ByteArray) (hl : s.size ≤ maxLen) (hs : s.toList.isEmpty = false) (i : Nat) (hg : nmGet D.names s = some i) (fa fk fn : Int) (hm : D.hit = some (fa, fk, fn)) (u : FrameMode) :
    CallsD Tryz.prog 37 #[.pointer (some ⟨A, 0, none⟩), .string s] u w fun e u' w' => u' = u ∧ (e = .returned (.int .i64 (hitErr (fa, fk, fn))) ∧ Led w A D.tick ρ fb w') := by
  have hi : i < fb.length := by rw [h.files.1]; exact (h.ok.named _ ((nmGet_some h.ok.sorted).1 hg)).2
  have HT := Lib.hid (stepAt_hit A D ρ fb w h h0 h1 s hl hs i _ hg (List.getElem?_eq_getElem hi) fa fk fn hm)
  have he : (hitErr (fa, fk, fn) != 0) = true := by unfold hitErr; split <;> decide
  clear h h0 h1 hg hm
  generalize hitErr (fa, fk, fn) = E at *
  go_enter_d Tryz.func37, Tryz.ntmps37
  go_wp2_with fail
  refine (HT.out).mono ?_
  rintro e w1 ⟨rfl, hD⟩
  have HD := Lib.hid hD
  clear hD
  go_wp2_with fail
  go_ret
  exact ⟨rfl, _, HD.out⟩
section
variable {w0 w : World} {A : Nat} {D : DSt} {X : Nat → Prop} {c k : Nat}
/-- A deferred Remove, whatever it meets. -/
theorem AtB.removeDD (h : AtB w0 A D X w) (b : DBd c k D) (hk : k ≤ 1048577) (s : ByteArray) (hl : s.size ≤ maxLen) (hs : s.toList.isEmpty = false) (u : FrameMode) :
    CallsD Tryz.prog 37 #[.pointer (some ⟨A, 0, none⟩), .string s] u w fun e u' w' => u' = u ∧ (e = .returned (.int .i64 (Dk.removeD D s).1) ∧ AtB w0 A (Dk.removeD D s).2 X w' ∧ Stay X w w') := by
  have h' := h
  obtain ⟨ρ, fb, hd, hlo, hx, hb⟩ := h
  obtain ⟨q1, q2, q3, q4⟩ := bd_big b hk
  unfold Dk.removeD
  rcases askD_ways D s with ⟨h1, h2⟩ | ⟨h1, hg, h2⟩ | ⟨i, h1, hg, h2⟩
  · rw [hs] at h1; cases h1
  · rw [h2, if_pos (by decide)]
    exact (removeD_none A D ρ fb w hd s hl h1 hg u).mono fun _ _ _ ⟨hu, he, hw⟩ => ⟨hu, he, by subst hw; exact ⟨h', Stay.refl _ _⟩⟩
  · rw [h2, if_neg (by decide)]
    rcases hitD_ways D with ⟨hm, h3⟩ | ⟨fa, fk, fn, hm, h3, h4⟩
    · rw [h3, if_neg (by decide)]
      exact (removeD_miss A D ρ fb w hd b.low q1 q2 q3 s hl h1 i hg hm u).mono fun _ _ _ ⟨hu, he, hk⟩ => ⟨hu, he, atB_kept hd hlo hx hb hk.kept⟩
    · rw [if_pos h4, h3]
      exact (removeD_hit A D ρ fb w hd b.low q1 s hl h1 i hg fa fk fn hm u).mono fun _ _ _ ⟨hu, he, hk⟩ => ⟨hu, he, atB_kept hd hlo hx hb hk.kept⟩
end
namespace Mf
set_option maxHeartbeats 1000000 in
set_option maxRecDepth 100000 in
theorem put_fail1 {A : Nat} {s : ByteArray} {w : World} (x : Int) (hx : (x != 0) = true) {P1 Q : World → Prop} (HW : WriteC A s w x P1) (HD : ∀ w3, P1 w3 → RemoveD A ⟨#[116, 109, 112]⟩ w3 Q) : PutC A s w x Q := by
  unfold PutC
  go_enter_defers Tryz.func38, Tryz.ntmps38
  go_wp2_with fail
  refine HW.mono ?_
  rintro e w1 ⟨⟨n, rfl⟩, h1⟩
  go_wp2_with fail
  refine leaves_cons (f := 37) (args := #[pD A, .string ⟨#[116, 109, 112]⟩]) (by simp) (by simp [go_sem]) ?_
  refine (HD w1 h1 .returning).mono ?_
  rintro e u' w4 ⟨rfl, ⟨y, rfl⟩, h4⟩
  simp [Leaves, settle, results, Tryz.results38, go_sem]
  exact h4
set_option maxHeartbeats 1000000 in
set_option maxRecDepth 100000 in
theorem put_fail2 {A : Nat} {s : ByteArray} {w : World} (x : Int) (hx : (x != 0) = true) {P1 P2 Q : World → Prop} (HW : WriteC A s w 0 P1) (HS : ∀ w1, P1 w1 → SyncC A w1 x P2) (HD : ∀ w3, P2 w3 → RemoveD A ⟨#[116, 109, 112]⟩ w3 Q) : PutC A s w x Q := by
  unfold PutC
  go_enter_defers Tryz.func38, Tryz.ntmps38
  go_wp2_with fail
  refine HW.mono ?_
  rintro e w1 ⟨⟨n, rfl⟩, h1⟩
  go_wp2_with fail
  refine (HS w1 h1).mono ?_
  rintro e w2 ⟨rfl, h2⟩
  go_wp2_with fail
  refine leaves_cons (f := 37) (args := #[pD A, .string ⟨#[116, 109, 112]⟩]) (by simp) (by simp [go_sem]) ?_
  refine (HD w2 h2 .returning).mono ?_
  rintro e u' w4 ⟨rfl, ⟨y, rfl⟩, h4⟩
  simp [Leaves, settle, results, Tryz.results38, go_sem]
  exact h4
theorem nz {x : Int} (h : x ≠ 0) : (x != 0) = true := by simpa using h
section
variable {w0 w : World} {A : Nat} {D : DSt} {X : Nat → Prop} {c k : Nat} {φ : Nat → Nat} {M : RSt}
/-- The disk at A, and what lay in these blocks ahead of the call lies there. -/
abbrev AtS (w0 : World) (A : Nat) (X : Nat → Prop) (w : World) (D : DSt) (w' : World) : Prop := AtB w0 A D X w' ∧ Stay X w w'
theorem put_any (h : AtB w0 A D X w) (tw : Dk.Twin φ D M) (b : DBd c k D) (m : MBd c k M) (hk : k + 4 ≤ 1048577) (hc : c ≤ 1048576) (s : ByteArray) (hs : s.size ≤ c) : PutC A s w (putD D s).1 (AtS w0 A X w (putD D s).2) := by
  obtain ⟨-, -, ψ, t1⟩ := two_write tw b.plan nTmp s
  obtain ⟨b1, m1⟩ := bd_write b m tw nTmp s hs
  have HW : WriteC A s w (writeD D nTmp s).2.1 (AtS w0 A X w (writeD D nTmp s).2.2) := (h.writeD b (by omega) hc nTmp s nTmp_size hs).mono fun _ _ ⟨he, h⟩ => ⟨⟨_, he⟩, h⟩
  have HD : ∀ (D1 : DSt) (j : Nat) (b1 : DBd c j D1) (hj : j ≤ 1048577) (w3 : World), AtS w0 A X w D1 w3 → RemoveD A ⟨#[116, 109, 112]⟩ w3 (AtS w0 A X w (removeD D1 nTmp).2) := fun D1 j b1 hj w3 h3 u =>
    (h3.1.removeDD b1 hj nTmp nTmp_size nTmp_full u).mono fun _ _ _ ⟨hu, he, k1, k2⟩ => ⟨hu, ⟨_, he⟩, k1, h3.2.trans k2⟩
  unfold putD
  generalize (writeD D nTmp s).2.1 = x1 at *
  generalize (writeD D nTmp s).2.2 = D1 at *
  generalize (writeR M nTmp s).2.2 = M1 at *
  split
  · rename_i hx
    exact put_fail1 x1 (nz hx) HW (HD D1 _ b1 (by omega))
  rename_i hx
  obtain rfl : x1 = 0 := by omega
  obtain ⟨-, t2⟩ := two_sync t1 nTmp
  obtain ⟨b2, m2⟩ := bd_sync b1 m1 t1 nTmp
  have HS : ∀ w1, AtS w0 A X w D1 w1 → SyncC A w1 (syncD D1 nTmp).1 (AtS w0 A X w (syncD D1 nTmp).2) := fun w1 h1 =>
    (h1.1.syncD b1 (by omega) nTmp nTmp_size).mono fun _ _ ⟨he, k1, k2⟩ => ⟨he, k1, h1.2.trans k2⟩
  generalize (syncD D1 nTmp).1 = x2 at *
  generalize (syncD D1 nTmp).2 = D2 at *
  generalize (syncR M1 nTmp).2 = M2 at *
  split
  · rename_i hx
    exact put_fail2 x2 (nz hx) HW HS (HD D2 _ b2 (by omega))
  rename_i hx
  obtain rfl : x2 = 0 := by omega
  obtain ⟨b3, m3⟩ := bd_rename b2 m2 nTmp nMan
  have HR : ∀ w2, AtS w0 A X w D2 w2 → RenameC A w2 (renameD D2 nTmp nMan).1 (AtS w0 A X w (renameD D2 nTmp nMan).2) := fun w2 h2 =>
    (h2.1.renameD b2 (by omega) nTmp nMan nTmp_size nMan_size).mono fun _ _ ⟨he, k1, k2⟩ => ⟨he, k1, h2.2.trans k2⟩
  exact put_whole _ HW HS HR (HD _ _ b3 (by omega))
end
set_option maxHeartbeats 1000000 in
set_option maxRecDepth 100000 in
theorem store_stop {A : Nat} {w : World} {m : Mn} {v : Value} {s : ByteArray} {Q0 : World → Prop} (x : Int) (hx : (x != 0) = true) (hx2 : (x != 20) = true) (hv : MnAt w v m)
    (HE : ∀ W, Below w.heap.size w W → Calls Tryz.prog 33 #[v] W fun e w' => e = .returned (.tuple #[.string s, .int .i64 0]) ∧ Below W.heap.size W w')
    (HR : ∀ W, Below w.heap.size w W → RemoveC A W x Q0) :
    Calls Tryz.prog 16 #[pD A, v] w fun e w' => e = .returned (.int .i64 x) ∧ Q0 w' := by
  obtain ⟨p, c, rfl, _⟩ := hv
  generalize m.segs.length = n at *
  have hb0 := below_new w (.cells #[.slice p n c, .string m.log, .int .i64 m.next, .int .i64 m.seq] 61)
  obtain ⟨d0, d1, d2, d3⟩ := of_cells4 (heap_new w (.cells #[.slice p n c, .string m.log, .int .i64 m.next, .int .i64 m.seq] 61))
  have HB0 := Lib.hid hb0
  clear hb0
  go_enter Tryz.func16, Tryz.ntmps16
  go_wp2_with fail
  generalize w.alloc (.cells #[.slice p n c, .string m.log, .int .i64 m.next, .int .i64 m.seq] 61) = W0 at *
  refine (HE W0 HB0.out).mono ?_
  rintro e w1 ⟨rfl, hb1⟩
  have HB1 := Lib.hid (below_then HB0.out hb1)
  clear hb1 d0 d1 d2 d3
  go_wp2_with fail
  refine (HR w1 HB1.out).mono ?_
  rintro e w2 ⟨rfl, h2⟩
  go_wp2_with fail
  go_ret
  exact ⟨rfl, h2⟩
set_option maxHeartbeats 1000000 in
set_option maxRecDepth 100000 in
theorem store_fail {A : Nat} {w : World} {m : Mn} {v : Value} {s : ByteArray} {Q0 Q1 : World → Prop} (r x : Int) (hr : r = 0 ∨ r = 20) (hx : (x != 0) = true) (hv : MnAt w v m)
    (HE : ∀ W, Below w.heap.size w W → Calls Tryz.prog 33 #[v] W fun e w' => e = .returned (.tuple #[.string s, .int .i64 0]) ∧ Below W.heap.size W w')
    (HR : ∀ W, Below w.heap.size w W → RemoveC A W r Q0) (HP : ∀ W, Q0 W → PutC A s W x Q1) :
    Calls Tryz.prog 16 #[pD A, v] w fun e w' => e = .returned (.int .i64 x) ∧ Q1 w' := by
  obtain ⟨p, c, rfl, _⟩ := hv
  generalize m.segs.length = n at *
  have hb0 := below_new w (.cells #[.slice p n c, .string m.log, .int .i64 m.next, .int .i64 m.seq] 61)
  obtain ⟨d0, d1, d2, d3⟩ := of_cells4 (heap_new w (.cells #[.slice p n c, .string m.log, .int .i64 m.next, .int .i64 m.seq] 61))
  have HB0 := Lib.hid hb0
  clear hb0
  rcases hr with rfl | rfl
  all_goals
    go_enter Tryz.func16, Tryz.ntmps16
    go_wp2_with fail
    generalize w.alloc (.cells #[.slice p n c, .string m.log, .int .i64 m.next, .int .i64 m.seq] 61) = W0 at *
    refine (HE W0 HB0.out).mono ?_
    rintro e w1 ⟨rfl, hb1⟩
    have HB1 := Lib.hid (below_then HB0.out hb1)
    clear hb1 d0 d1 d2 d3
    go_wp2_with fail
    refine (HR w1 HB1.out).mono ?_
    rintro e w2 ⟨rfl, h2⟩
    go_wp2_with fail
    refine (HP w2 h2).mono ?_
    rintro e w3 ⟨rfl, h3⟩
    go_wp2_with fail
    go_ret
    exact ⟨rfl, h3⟩
set_option maxHeartbeats 1000000 in
set_option maxRecDepth 100000 in
theorem store_last {A : Nat} {w : World} {m : Mn} {v : Value} {s : ByteArray} {Q0 Q1 Q2 : World → Prop} (r y : Int) (hr : r = 0 ∨ r = 20) (hv : MnAt w v m)
    (HE : ∀ W, Below w.heap.size w W → Calls Tryz.prog 33 #[v] W fun e w' => e = .returned (.tuple #[.string s, .int .i64 0]) ∧ Below W.heap.size W w')
    (HR : ∀ W, Below w.heap.size w W → RemoveC A W r Q0) (HP : ∀ W, Q0 W → PutC A s W 0 Q1) (HN : ∀ W, Q1 W → SyncNamesC A W y Q2) :
    Calls Tryz.prog 16 #[pD A, v] w fun e w' => e = .returned (.int .i64 y) ∧ Q2 w' := by
  obtain ⟨p, c, rfl, _⟩ := hv
  generalize m.segs.length = n at *
  have hb0 := below_new w (.cells #[.slice p n c, .string m.log, .int .i64 m.next, .int .i64 m.seq] 61)
  obtain ⟨d0, d1, d2, d3⟩ := of_cells4 (heap_new w (.cells #[.slice p n c, .string m.log, .int .i64 m.next, .int .i64 m.seq] 61))
  have HB0 := Lib.hid hb0
  clear hb0
  rcases hr with rfl | rfl
  all_goals
    go_enter Tryz.func16, Tryz.ntmps16
    go_wp2_with fail
    generalize w.alloc (.cells #[.slice p n c, .string m.log, .int .i64 m.next, .int .i64 m.seq] 61) = W0 at *
    refine (HE W0 HB0.out).mono ?_
    rintro e w1 ⟨rfl, hb1⟩
    have HB1 := Lib.hid (below_then HB0.out hb1)
    clear hb1 d0 d1 d2 d3
    go_wp2_with fail
    refine (HR w1 HB1.out).mono ?_
    rintro e w2 ⟨rfl, h2⟩
    go_wp2_with fail
    refine (HP w2 h2).mono ?_
    rintro e w3 ⟨rfl, h3⟩
    go_wp2_with fail
    refine (HN w3 h3).mono ?_
    rintro e w4 ⟨rfl, h4⟩
    go_wp2_with fail
    go_ret
    exact ⟨rfl, h4⟩
section
variable {w0 w : World} {A : Nat} {D : DSt} {X : Nat → Prop} {c k : Nat} {φ : Nat → Nat} {M : RSt}
/-- Store over whatever disk. -/
theorem store_any (h : AtB w0 A D X w) (tw : Dk.Twin φ D M) (b : DBd c k D) (bm : MBd c k M) (hk : k + 6 ≤ 1048577) (hc : c ≤ 1048576) (m : Mn) (v : Value) (hv : MnAt w v m) (hm : Small m) (hmay : may m = true) (hs : (encB m).length ≤ c) (G : Gh w) :
    Calls Tryz.prog 16 #[pD A, v] w fun e w' => e = .returned (.int .i64 (storeD D (tx (encB m))).1) ∧ AtS w0 A X w (storeD D (tx (encB m))).2 w' := by
  have HE : ∀ W, Below w.heap.size w W → Calls Tryz.prog 33 #[v] W fun e w' => e = .returned (.tuple #[.string (tx (encB m)), .int .i64 0]) ∧ Below W.heap.size W w' := fun W hW => by
    have := encode_any m v W (hv.below hW) hm (G.below hW)
    have h1 : encS m = tx (encB m) := by unfold encS; rw [hmay]; rfl
    have h2 : encE m = 0 := by unfold encE; rw [hmay]; rfl
    rw [h1, h2] at this
    exact this
  have hsz : (tx (encB m)).size ≤ c := by rw [tx_size]; exact hs
  generalize tx (encB m) = s at *
  obtain ⟨t1, i1, e1⟩ := two_clear tw
  obtain ⟨b1, m1⟩ := bd_clear b bm
  have HR : ∀ W, Below w.heap.size w W → RemoveC A W (removeD D nTmp).1 (AtS w0 A X w (removeD D nTmp).2) := fun W hW =>
    ((h.others hW).removeD b (by omega) nTmp nTmp_size).mono fun _ _ ⟨he, k1, k2⟩ => ⟨he, k1, (stay_below h hW).trans k2⟩
  unfold storeD
  generalize removeD D nTmp = E at *
  obtain ⟨r, D1⟩ := E
  simp only at HR b1 t1 ⊢
  generalize (clearR M).2 = M1 at *
  split
  · rename_i hr
    exact store_stop r (nz hr.1) (by simpa using hr.2) hv HE HR
  rename_i hr
  have hr' : r = 0 ∨ r = 20 := by omega
  obtain ⟨e2, ⟨ψ, t2⟩, b2, m2⟩ := two_put t1 b1 m1 s hsz
  have HP : ∀ W, AtS w0 A X w D1 W → PutC A s W (putD D1 s).1 (AtS w0 A X w (putD D1 s).2) := fun W hW =>
    (put_any hW.1 t1 b1 m1 (by omega) hc s hsz).mono fun _ _ ⟨he, k1, k2⟩ => ⟨he, k1, hW.2.trans k2⟩
  generalize putD D1 s = E2 at *
  obtain ⟨x, D2⟩ := E2
  simp only at HP t2 b2 ⊢
  split
  · rename_i hx
    exact store_fail r x hr' (nz hx) hv HE HR HP
  · rename_i hx
    obtain rfl : x = 0 := by omega
    have HN : ∀ W, AtS w0 A X w D2 W → SyncNamesC A W (syncNamesD D2).1 (AtS w0 A X w (syncNamesD D2).2) := fun W hW =>
      (hW.1.syncNamesD b2 (by omega)).mono fun _ _ ⟨he, k1, k2⟩ => ⟨he, k1, hW.2.trans k2⟩
    exact store_last r _ hr' hv HE HR HP HN
end
end Mf
end Go.Proofs.YtkbdokakoapooaaGreatDoor
