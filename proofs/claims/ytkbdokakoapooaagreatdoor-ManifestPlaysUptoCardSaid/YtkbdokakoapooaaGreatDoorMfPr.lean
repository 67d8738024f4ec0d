/- The document's Store of a manifest over whatever disk of its own. Conditions: those that each theorem names. -/
import Derived.Test.YtkbdokakoapooaaGreatDoorMfPg
import Derived.Test.YtkbdokakoapooaaGreatDoorRfBoth
namespace Go.Proofs.YtkbdokakoapooaaGreatDoor
set_option linter.unusedVariables false
open Go Go.RowKit Go.Shelf Go.Sort Dk
section
variable {w0 w : World} {A B : Nat} {Y : Nat → Prop} {D D' : DSt} {M M' : RSt} {c k : Nat} {φ : Nat → Nat}
def hasR (M : RSt) (s : Nm) : Bool := decide (0 ≤ fileNo M.now s)
set_option maxHeartbeats 1000000 in
set_option maxRecDepth 100000 in
theorem rhas_any {X : Nat → Prop} (M : RSt) (s : ByteArray) (w : World) (h : RfAt w B X M) (hn : M.now.length ≤ maxLen) :
    Calls Tryz.prog 41 #[.pointer (some ⟨B, 0, none⟩), .string s] w fun e w' => e = .returned (.bool (hasR M s)) ∧ w' = w := by
  obtain ⟨fv, nv, lv, ov, pv, cs, ht⟩ := h
  have HF := Lib.hid (rfind_any M.now nv s w ht.now hn)
  obtain ⟨p, c, rfl⟩ := ht.now.form
  obtain ⟨⟨a0, a1, a2⟩, a3, a4, a5⟩ := ht.cells
  unfold hasR
  generalize fileNo M.now s = F at *
  generalize M.now.length = n at *
  clear ht hn a0 a2 a3 a4 a5
  go_enter Tryz.func41, Tryz.ntmps41
  go_wp2_with fail
  refine HF.out.mono ?_
  rintro e w' ⟨rfl, rfl⟩
  go_wp2_with fail
  go_ret
  exact ⟨rfl, rfl⟩
theorem hasR_ask (M : RSt) (s : Nm) (hs : s.toList.isEmpty = false) : hasR M s = decide (askE M s = 0) := by
  unfold hasR
  rcases ask_ways M s with ⟨h, _⟩ | ⟨_, _, h1, _, h2⟩ | ⟨i, _, _, h1, _, h2⟩
  · rw [hs] at h; cases h
  · rw [h1, h2]; rfl
  · rw [h1, h2]; simp
end
namespace Mf
abbrev tmpT : Value := .string ⟨#[116, 109, 112]⟩
def HasC (B : Nat) (w : World) (y : Bool) : Prop := Calls Tryz.prog 41 #[pD B, tmpT] w fun e w' => e = .returned (.bool y) ∧ w' = w
def RRemC (B : Nat) (w : World) (x : Int) (Q : World → Prop) : Prop := Calls Tryz.prog 42 #[pD B, tmpT] w fun e w' => e = .returned (.int .i64 x) ∧ Q w'
def RWrC (B : Nat) (s : ByteArray) (w : World) (x : Int) (Q : World → Prop) : Prop := Calls Tryz.prog 43 #[pD B, tmpT, .string s] w fun e w' => (∃ n : Int, e = .returned (.tuple #[.int .i64 n, .int .i64 x])) ∧ Q w'
def RSyC (B : Nat) (w : World) (x : Int) (Q : World → Prop) : Prop := Calls Tryz.prog 44 #[pD B, tmpT] w fun e w' => e = .returned (.int .i64 x) ∧ Q w'
def RReC (B : Nat) (w : World) (x : Int) (Q : World → Prop) : Prop := Calls Tryz.prog 45 #[pD B, tmpT, .string ⟨#[109, 97, 110, 105, 102, 101, 115, 116]⟩] w fun e w' => e = .returned (.int .i64 x) ∧ Q w'
def RSnC (B : Nat) (w : World) (x : Int) (Q : World → Prop) : Prop := Calls Tryz.prog 46 #[pD B] w fun e w' => e = .returned (.int .i64 x) ∧ Q w'
def REnC (v : Value) (s : ByteArray) (w : World) : Prop := Calls Tryz.prog 40 #[v] w fun e w' => e = .returned (.tuple #[.string s, .int .i64 0]) ∧ Below w.heap.size w w'
def RStC (B : Nat) (v : Value) (w : World) (x : Int) (Q : World → Prop) : Prop := Calls Tryz.prog 17 #[pD B, v] w fun e w' => e = .returned (.int .i64 x) ∧ Q w'
/-- What the document does ahead of its Write. -/
structure Head (B : Nat) (v : Value) (s : ByteArray) (w : World) (y : Bool) (P0 P1 : World → Prop) : Prop where
  enc : ∀ W, Below w.heap.size w W → REnC v s W
  start : ∀ W, Below w.heap.size w W → P0 W
  has : ∀ W, P0 W → HasC B W y
  rem : y = true → ∀ W, P0 W → RRemC B W 0 P1
  skip : y = false → ∀ W, P0 W → P1 W
/-- What it does where a call was refused. -/
structure Tail (B : Nat) (y : Bool) (P Q : World → Prop) : Prop where
  has : ∀ W, P W → HasC B W y
  rem : y = true → ∀ W, P W → ∃ x, RRemC B W x Q
  skip : y = false → ∀ W, P W → Q W
section
variable {B : Nat} {w : World} {m : Mn} {v : Value} {s : ByteArray}
set_option maxHeartbeats 1000000 in
set_option maxRecDepth 100000 in
theorem rs_stop (x : Int) (hx : (x != 0) = true) {P0 Q : World → Prop} (hv : MnAt w v m) (HE : ∀ W, Below w.heap.size w W → REnC v s W) (HS : ∀ W, Below w.heap.size w W → P0 W) (HH : ∀ W, P0 W → HasC B W true) (HR : ∀ W, P0 W → RRemC B W x Q) : RStC B v w x Q := by
  obtain ⟨p, c, rfl, _⟩ := hv
  generalize m.segs.length = n at *
  have hb0 := below_new w (.cells #[.slice p n c, .string m.log, .int .i64 m.next, .int .i64 m.seq] 61)
  obtain ⟨d0, d1, d2, d3⟩ := of_cells4 (heap_new w (.cells #[.slice p n c, .string m.log, .int .i64 m.next, .int .i64 m.seq] 61))
  have HB0 := Lib.hid hb0
  clear hb0
  unfold RStC
  go_enter Tryz.func17, Tryz.ntmps17
  go_wp2_with fail
  generalize w.alloc (.cells #[.slice p n c, .string m.log, .int .i64 m.next, .int .i64 m.seq] 61) = W0 at *
  refine (HE W0 HB0.out).mono ?_
  rintro e w1 ⟨rfl, hb1⟩
  have HB1 := Lib.hid (below_then HB0.out hb1)
  clear hb1 d0 d1 d2 d3
  go_wp2_with fail
  refine (HH w1 (HS w1 HB1.out)).mono ?_
  rintro e w2 ⟨rfl, rfl⟩
  go_wp2_with fail
  refine (HR _ (HS _ HB1.out)).mono ?_
  rintro e w3 ⟨rfl, h3⟩
  go_wp2_with fail
  go_ret
  exact ⟨rfl, h3⟩
set_option maxHeartbeats 2000000 in
set_option maxRecDepth 100000 in
theorem rs_fail (j : Nat) (x : Int) (hx : (x != 0) = true) (hx2 : (x == 0) = false) {y1 y2 : Bool} {P0 P1 P2 P3 P4 Q : World → Prop} (hv : MnAt w v m) (H : Head B v s w y1 P0 P1) (T : Tail B y2 P4 Q)
    (HC : (j = 0 ∧ (∀ W, P1 W → RWrC B s W x P4)) ∨ (j = 1 ∧ (∀ W, P1 W → RWrC B s W 0 P2) ∧ (∀ W, P2 W → RSyC B W x P4)) ∨ (j = 2 ∧ (∀ W, P1 W → RWrC B s W 0 P2) ∧ (∀ W, P2 W → RSyC B W 0 P3) ∧ (∀ W, P3 W → RReC B W x P4))) : RStC B v w x Q := by
  obtain ⟨HE, HS, HH, HR, HK⟩ := H
  obtain ⟨TH, TR, TK⟩ := T
  obtain ⟨p, c, rfl, _⟩ := hv
  generalize m.segs.length = n at *
  have hb0 := below_new w (.cells #[.slice p n c, .string m.log, .int .i64 m.next, .int .i64 m.seq] 61)
  obtain ⟨d0, d1, d2, d3⟩ := of_cells4 (heap_new w (.cells #[.slice p n c, .string m.log, .int .i64 m.next, .int .i64 m.seq] 61))
  have HB0 := Lib.hid hb0
  clear hb0
  have head : ∀ (K : World → Prop), (∀ W, P1 W → K W) → True := fun _ _ => trivial
  unfold RStC
  have HE := Lib.hid HE
  have HS := Lib.hid HS
  have HH := Lib.hid HH
  have HR := Lib.hid HR
  have HK := Lib.hid HK
  have TH := Lib.hid TH
  have TR := Lib.hid TR
  have TK := Lib.hid TK
  clear head
  cases y1 <;> cases y2 <;> rcases HC with ⟨-, HW⟩ | ⟨-, HW, HY⟩ | ⟨-, HW, HY, HN⟩
  all_goals
    go_enter Tryz.func17, Tryz.ntmps17
    go_wp2_with fail
    generalize w.alloc (.cells #[.slice p n c, .string m.log, .int .i64 m.next, .int .i64 m.seq] 61) = W0 at *
    refine (HE.out W0 HB0.out).mono ?_
    rintro e w1 ⟨rfl, hb1⟩
    have HB1 := Lib.hid (below_then HB0.out hb1)
    clear hb1 d0 d1 d2 d3
    go_wp2_with fail
    refine (HH.out w1 (HS.out w1 HB1.out)).mono ?_
    rintro e w2 ⟨rfl, rfl⟩
    have h2 := HS.out _ HB1.out
    go_wp2_with fail
    first
      | (refine (HR.out (by simp) _ h2).mono ?_
         rintro e w3 ⟨rfl, h3⟩
         go_wp2_with fail)
      | have h3 := HK.out (by simp) _ h2
    refine (HW _ h3).mono ?_
    rintro e w4 ⟨⟨n, rfl⟩, h4⟩
    go_wp2_with fail
    try
      refine (HY _ h4).mono ?_
      rintro e w5 ⟨rfl, h5⟩
      clear h4
      have h4 := h5
      clear h5
      go_wp2_with fail
    try
      refine (HN _ h4).mono ?_
      rintro e w6 ⟨rfl, h6⟩
      clear h4
      have h4 := h6
      clear h6
      go_wp2_with fail
    refine (TH.out _ h4).mono ?_
    rintro e w7 ⟨rfl, rfl⟩
    go_wp2_with fail
    first
      | (obtain ⟨z, hz⟩ := TR.out (by simp) _ h4
         refine hz.mono ?_
         rintro e w8 ⟨rfl, h8⟩
         go_wp2_with fail
         go_ret
         exact ⟨rfl, h8⟩)
      | (go_ret
         exact ⟨rfl, TK.out (by simp) _ h4⟩)
set_option maxHeartbeats 2000000 in
set_option maxRecDepth 100000 in
theorem rs_last (x : Int) {y1 : Bool} {P0 P1 P2 P3 P4 Q : World → Prop} (hv : MnAt w v m) (H : Head B v s w y1 P0 P1) (HW : ∀ W, P1 W → RWrC B s W 0 P2) (HY : ∀ W, P2 W → RSyC B W 0 P3) (HN : ∀ W, P3 W → RReC B W 0 P4) (HZ : ∀ W, P4 W → RSnC B W x Q) : RStC B v w x Q := by
  obtain ⟨HE, HS, HH, HR, HK⟩ := H
  obtain ⟨p, c, rfl, _⟩ := hv
  generalize m.segs.length = n at *
  have hb0 := below_new w (.cells #[.slice p n c, .string m.log, .int .i64 m.next, .int .i64 m.seq] 61)
  obtain ⟨d0, d1, d2, d3⟩ := of_cells4 (heap_new w (.cells #[.slice p n c, .string m.log, .int .i64 m.next, .int .i64 m.seq] 61))
  have HB0 := Lib.hid hb0
  clear hb0
  unfold RStC
  have HE := Lib.hid HE
  have HS := Lib.hid HS
  have HH := Lib.hid HH
  have HR := Lib.hid HR
  have HK := Lib.hid HK
  cases y1
  all_goals
    go_enter Tryz.func17, Tryz.ntmps17
    go_wp2_with fail
    generalize w.alloc (.cells #[.slice p n c, .string m.log, .int .i64 m.next, .int .i64 m.seq] 61) = W0 at *
    refine (HE.out W0 HB0.out).mono ?_
    rintro e w1 ⟨rfl, hb1⟩
    have HB1 := Lib.hid (below_then HB0.out hb1)
    clear hb1 d0 d1 d2 d3
    go_wp2_with fail
    refine (HH.out w1 (HS.out w1 HB1.out)).mono ?_
    rintro e w2 ⟨rfl, rfl⟩
    have h2 := HS.out _ HB1.out
    go_wp2_with fail
    first
      | (refine (HR.out (by simp) _ h2).mono ?_
         rintro e w3 ⟨rfl, h3⟩
         go_wp2_with fail)
      | have h3 := HK.out (by simp) _ h2
    refine (HW _ h3).mono ?_
    rintro e w4 ⟨⟨n, rfl⟩, h4⟩
    go_wp2_with fail
    refine (HY _ h4).mono ?_
    rintro e w5 ⟨rfl, h5⟩
    go_wp2_with fail
    refine (HN _ h5).mono ?_
    rintro e w6 ⟨rfl, h6⟩
    go_wp2_with fail
    refine (HZ _ h6).mono ?_
    rintro e w7 ⟨rfl, h7⟩
    go_wp2_with fail
    go_ret
    exact ⟨rfl, h7⟩
end
section
variable {w0 w : World} {A B : Nat} {Y : Nat → Prop} {D D' : DSt} {M : RSt} {c k : Nat} {φ : Nat → Nat}
abbrev TwS (w0 : World) (A B : Nat) (Y : Nat → Prop) (D' : DSt) (w : World) (M : RSt) (w' : World) : Prop := Two w0 A B Y D' M w' ∧ Stay Y w w'
theorem has_at (tw : Dk.Twin φ D M) (b : DBd c k D) (bm : MBd c k M) (hk : k ≤ 1048577) {W : World} (h : TwS w0 A B Y D' w M W) : HasC B W (decide (askE M nTmp = 0)) := by
  obtain ⟨⟨X, _, h2, _⟩, _⟩ := h
  rw [← hasR_ask M nTmp nTmp_full]
  exact rhas_any M nTmp W h2 (by have := (bd_ok b bm tw hk).2.1; unfold maxLen; omega)
theorem remR_at (tw : Dk.Twin φ D M) (b : DBd c k D) (bm : MBd c k M) (hk : k ≤ 1048577) {W : World} (h : TwS w0 A B Y D' w M W) : RRemC B W (removeR M nTmp).1 (TwS w0 A B Y D' w (removeR M nTmp).2) :=
  (h.1.doc fun X a => rremove_any B X M nTmp W a (bd_ok b bm tw hk).1).mono fun _ _ ⟨he, k1, k2⟩ => ⟨he, k1, h.2.trans k2⟩
/-- What follows a refusal, wherever it came. -/
theorem tail_at (tw : Dk.Twin φ D M) (b : DBd c k D) (bm : MBd c k M) (hk : k ≤ 1048577) : Tail B (decide (askE M nTmp = 0)) (TwS w0 A B Y D' w M) (TwS w0 A B Y D' w (clearR M).2) := by
  refine ⟨fun W h => has_at tw b bm hk h, fun hy W h => ?_, fun hy W h => ?_⟩
  · have : askE M nTmp = 0 := of_decide_eq_true hy
    unfold clearR
    rw [if_pos this]
    exact ⟨_, remR_at tw b bm hk h⟩
  · have : ¬ askE M nTmp = 0 := of_decide_eq_false hy
    unfold clearR
    rw [if_neg this]
    exact h
theorem rstore_any (h : Two w0 A B Y D' M w) (tw : Dk.Twin φ D M) (b : DBd c k D) (bm : MBd c k M) (hk : k + 6 ≤ 1048577) (hc : c ≤ 1048576) (m : Mn) (v : Value) (hv : MnAt w v m) (hm : Small m) (hmay : may m = true) (hs : (encB m).length ≤ c) :
    RStC B v w (storeR M (tx (encB m))).1 (TwS w0 A B Y D' w (storeR M (tx (encB m))).2) := by
  have HE : ∀ W, Below w.heap.size w W → REnC v (tx (encB m)) W := fun W hW => by
    have := rencode_any m v W (hv.below hW) hm
    have h1 : encS m = tx (encB m) := by unfold encS; rw [hmay]; rfl
    have h2 : encE m = 0 := by unfold encE; rw [hmay]; rfl
    rw [h1, h2] at this
    exact this
  have hsz : (tx (encB m)).size ≤ c := by rw [tx_size]; exact hs
  generalize tx (encB m) = s at *
  have HS : ∀ W, Below w.heap.size w W → TwS w0 A B Y D' w M W := fun W hW => ⟨h.others hW, hW.size, fun b hb => hW.block b (h.lt hb)⟩
  obtain ⟨t1, i1, e1⟩ := two_clear tw
  obtain ⟨b1, m1⟩ := bd_clear b bm
  have HH := fun W (h : TwS w0 A B Y D' w M W) => has_at tw b bm (by omega) h
  have HR := fun W (h : TwS w0 A B Y D' w M W) => remR_at tw b bm (by omega) h
  unfold storeR
  split
  · rename_i hx
    have hask : askE M nTmp = 0 := by
      by_cases ha : askE M nTmp = 0
      · exact ha
      · unfold clearR at hx; rw [if_neg ha] at hx; exact absurd rfl hx
    have hcl : clearR M = removeR M nTmp := by unfold clearR; rw [if_pos hask]
    rw [hcl] at hx ⊢
    rw [decide_eq_true hask] at HH
    exact rs_stop _ (nz hx) hv HE HS HH HR
  rename_i hx
  have hH : Head B v s w (decide (askE M nTmp = 0)) (TwS w0 A B Y D' w M) (TwS w0 A B Y D' w (clearR M).2) := by
    refine ⟨HE, HS, HH, fun hy W h => ?_, fun hy W h => ?_⟩
    · have ha : askE M nTmp = 0 := of_decide_eq_true hy
      have hcl : clearR M = removeR M nTmp := by unfold clearR; rw [if_pos ha]
      rw [hcl] at hx ⊢
      have h0 : (removeR M nTmp).1 = 0 := by omega
      have := HR W h
      rw [h0] at this
      exact this
    · have ha : ¬ askE M nTmp = 0 := of_decide_eq_false hy
      unfold clearR
      rw [if_neg ha]
      exact h
  generalize (removeD D nTmp).2 = D1 at *
  generalize (clearR M).2 = M1 at *
  obtain ⟨-, f1, ψ, u1⟩ := two_write t1 b1.plan nTmp s
  obtain ⟨b2, m2⟩ := bd_write b1 m1 t1 nTmp s hsz
  have o1 := bd_ok b1 m1 t1 (by omega)
  have HW : ∀ W, TwS w0 A B Y D' w M1 W → RWrC B s W (writeR M1 nTmp s).2.1 (TwS w0 A B Y D' w (writeR M1 nTmp s).2.2) := fun W hW =>
    (hW.1.doc fun X a => rwrite_any B X M1 nTmp s W a o1.1 (t1.filed nTmp) o1.2.2 (fun i f hf => by
      have := (m1.data f (List.mem_of_getElem? hf)).2
      have : (k + 1) * c ≤ 1048577 * 1048576 := Nat.mul_le_mul (by omega) hc
      omega) (by omega)).mono fun _ _ ⟨he, k1, k2⟩ => ⟨⟨_, he⟩, k1, hW.2.trans k2⟩
  unfold putR
  generalize (writeR M1 nTmp s).2.1 = x1 at *
  generalize (writeD D1 nTmp s).2.2 = D2 at *
  generalize (writeR M1 nTmp s).2.2 = M2 at *
  by_cases hx1 : x1 ≠ 0
  · rw [if_pos hx1, if_pos hx1]
    exact rs_fail 0 x1 (nz hx1) (by simpa using hx1) hv hH (tail_at u1 b2 m2 (by omega)) (.inl ⟨rfl, HW⟩) (P2 := fun _ => True) (P3 := fun _ => True)
  rw [if_neg hx1]
  obtain rfl : x1 = 0 := by omega
  obtain ⟨f2, u2⟩ := two_sync u1 nTmp
  obtain ⟨b3, m3⟩ := bd_sync b2 m2 u1 nTmp
  have o2 := bd_ok b2 m2 u1 (by omega)
  have HY : ∀ W, TwS w0 A B Y D' w M2 W → RSyC B W (syncR M2 nTmp).1 (TwS w0 A B Y D' w (syncR M2 nTmp).2) := fun W hW =>
    (hW.1.doc fun X a => rsync_any B X M2 nTmp W a o2.1 (u1.filed nTmp)).mono fun _ _ ⟨he, k1, k2⟩ => ⟨he, k1, hW.2.trans k2⟩
  generalize (syncR M2 nTmp).1 = x2 at *
  generalize (syncD D2 nTmp).2 = D3 at *
  generalize (syncR M2 nTmp).2 = M3 at *
  by_cases hx2 : x2 ≠ 0
  · rw [if_pos hx2, if_pos hx2]
    exact rs_fail 1 x2 (nz hx2) (by simpa using hx2) hv hH (tail_at u2 b3 m3 (by omega)) (.inr (.inl ⟨rfl, HW, HY⟩)) (P3 := fun _ => True)
  rw [if_neg hx2]
  obtain rfl : x2 = 0 := by omega
  obtain ⟨f3, u3⟩ := two_rename u2 nTmp nMan
  obtain ⟨b4, m4⟩ := bd_rename b3 m3 nTmp nMan
  have o3 := bd_ok b3 m3 u2 (by omega)
  have HN : ∀ W, TwS w0 A B Y D' w M3 W → RReC B W (renameR M3 nTmp nMan).1 (TwS w0 A B Y D' w (renameR M3 nTmp nMan).2) := fun W hW =>
    (hW.1.doc fun X a => rrename_any B X M3 nTmp nMan W a o3.1).mono fun _ _ ⟨he, k1, k2⟩ => ⟨he, k1, hW.2.trans k2⟩
  generalize hE3 : renameR M3 nTmp nMan = E3 at *
  obtain ⟨x3, M4⟩ := E3
  simp only at HN u3 m4 ⊢
  generalize (renameD D3 nTmp nMan).2 = D4 at *
  by_cases hx3 : x3 ≠ 0
  · rw [if_pos hx3, if_pos hx3]
    exact rs_fail 2 x3 (nz hx3) (by simpa using hx3) hv hH (tail_at u3 b4 m4 (by omega)) (.inr (.inr ⟨rfl, HW, HY, HN⟩))
  rw [if_neg hx3]
  obtain rfl : x3 = 0 := by omega
  rw [if_neg (by simp)]
  have o4 := bd_ok b4 m4 u3 (by omega)
  have HZ : ∀ W, TwS w0 A B Y D' w M4 W → RSnC B W (syncNamesR M4).1 (TwS w0 A B Y D' w (syncNamesR M4).2) := fun W hW =>
    (hW.1.doc fun X a => rsyncNames_any B X M4 W a o4.1).mono fun _ _ ⟨he, k1, k2⟩ => ⟨he, k1, hW.2.trans k2⟩
  exact rs_last _ hv hH HW HY HN HZ
end
end Mf
end Go.Proofs.YtkbdokakoapooaaGreatDoor
