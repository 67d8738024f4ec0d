/- The reader's call that reads a number. Conditions: none but those that each theorem names. -/
import Derived.Test.YtdooeedemgmpiaaDoorJsGl
import Derived.Test.YtdooeedemgmpiaaDoorJsNumPl
import Derived.Deep.DeepCutAuto
namespace Go.Proofs.YtdooeedemgmpiaaDoor
set_option linter.unusedVariables false
open Go Go.RowKit Js

/-- A value without names and parts. -/
def leaf (k n : Int) (t : ByteArray) : Value := .agg #[.int .i64 k, .int .i64 n, .string t, .slice none 0 0, .slice none 0 0]
theorem take_any (R : Nat) (s t : ByteArray) (l : Bs) (w : World) (h : Rd R s l w) (hs : s.size ≤ maxLen) (h0 : t.data.toList.contains 0 = false) :
    Calls Tryd.prog 28 #[.pointer (some ⟨R, 0, none⟩), .string t] w fun e w' => e = .returned (.bool (takes t l)) ∧ Gr (one' R) w w' ∧ Rd R s (behind t l) w' := by
  unfold behind
  by_cases ht : takes t l = true
  · rw [if_pos ht, ht]
    obtain ⟨c, l', rfl⟩ : ∃ c l', l = c :: l' := by
      cases l with
      | nil => simp [takes] at ht
      | cons c l' => exact ⟨_, _, rfl⟩
    exact take_yes R s t c l' w h hs ht
  · have ht' : takes t l = false := by simpa using ht
    rw [if_neg ht, ht']
    exact (take_no R s t l w h hs h0 ht').mono fun e w' ⟨he, hg⟩ => ⟨he, hg.weak, h.kept (hg.block R h.lt (fun x => x))⟩
theorem take_t (R : Nat) (s t : ByteArray) (l : Bs) (w : World) (h : Rd R s l w) (hs : s.size ≤ maxLen) (h0 : t.data.toList.contains 0 = false) (b : Bool) (hb : takes t l = b) :
    Calls Tryd.prog 28 #[.pointer (some ⟨R, 0, none⟩), .string t] w fun e w' => e = .returned (.bool b) ∧ Gr (one' R) w w' ∧ Rd R s (if b = true then l.tail else l) w' := by
  subst hb
  exact take_any R s t l w h hs h0
theorem skip_t (R : Nat) (s t : ByteArray) (l : Bs) (w : World) (h : Rd R s l w) (hs : s.size ≤ maxLen) (h0 : t.data.toList.contains 0 = false) (b : Bool) (hb : decide ((skips t l).length < l.length) = b) :
    Calls Tryd.prog 20 #[.pointer (some ⟨R, 0, none⟩), .string t] w fun e w' => e = .returned (.bool b) ∧ Gr (one' R) w w' ∧ Rd R s (skips t l) w' := by
  subst hb
  exact skip_any R s t l w h hs h0
theorem skip_none {t : ByteArray} {l : Bs} (h : decide ((skips t l).length < l.length) = false) : skips t l = l := by
  have h' : ¬ (skips t l).length < l.length := by simpa using h
  cases l with
  | nil => rfl
  | cons c r =>
    by_cases hc : takes t (c :: r) = true
    · have := drop_takes hc
      have h2 := skips_le t r
      unfold skips at h' h2
      rw [this] at h'
      simp only [List.length_cons] at h'
      omega
    · exact drop_stays (by simpa using hc)
theorem Gr.ofAlloc {R : Nat} {w w' : World} {o : Obj} (h : Gr (one' R) (w.alloc o) w') (hR : R < w.heap.size) : Gr (one' R) w w' :=
  ((Gr.refl (one' R) w).alloc o).trans h
/-- A struct of five cells is written into a block. -/
def five (w : World) (B : Nat) (a b c d e : Value) : World := ((((w.setCell ⟨B, 0, none⟩ a).setCell ⟨B, 1, none⟩ b).setCell ⟨B, 2, none⟩ c).setCell ⟨B, 3, none⟩ d).setCell ⟨B, 4, none⟩ e
theorem Gr.five {S : Nat → Prop} {w w' : World} (h : Gr S w w') {B : Nat} (hB : w.heap.size ≤ B) (a b c d e : Value) : Gr S w (five w' B a b c d e) := by
  unfold Go.Proofs.YtdooeedemgmpiaaDoor.five
  have hx : ∀ k, (⟨B, k, none⟩ : Addr).block < w.heap.size → S B := fun _ h' => absurd h' (Nat.not_lt.2 hB)
  exact Gr.setCell (a := ⟨B, 4, none⟩) (Gr.setCell (a := ⟨B, 3, none⟩) (Gr.setCell (a := ⟨B, 2, none⟩) (Gr.setCell (a := ⟨B, 1, none⟩) (Gr.setCell (a := ⟨B, 0, none⟩) h (hx 0) a) (hx 1) b) (hx 2) c) (hx 3) d) (hx 4) e
theorem five_block {w : World} {B b : Nat} (hb : b ≠ B) (x0 x1 x2 x3 x4 : Value) : (five w B x0 x1 x2 x3 x4).heap[b]? = w.heap[b]? := by
  unfold Go.Proofs.YtdooeedemgmpiaaDoor.five
  repeat rw [Below.heap_setCell _ _ _ _ hb]
theorem Rd.five {R : Nat} {s : ByteArray} {l : Bs} {w : World} (h : Rd R s l w) {B : Nat} (hB : R ≠ B) (a b c d e : Value) : Rd R s l (five w B a b c d e) := h.kept (five_block hB a b c d e)
theorem Rd.part {R : Nat} {s : ByteArray} {l p l2 : Bs} {w : World} (h : Rd R s l w) (hp : l = p ++ l2) : (s.extract (s.size - l.length) (s.size - l2.length)).data.toList = p := by
  have hle := h.le
  have hd := h.suffix
  rw [ByteArray.data_extract, Array.toList_extract, List.extract_eq_take_drop, hd]
  have h3 : l.length = p.length + l2.length := by rw [hp]; simp
  rw [show s.size - l2.length - (s.size - l.length) = p.length by omega, hp]
  exact List.take_left
def NumA (R : Nat) (s : ByteArray) (x : Js.R Unit) (w : World) (b : Value) (wx : World) : Prop :=
  (b = .bool true ∧ ∃ r, x = .no eJson r ∧ Rd R s r wx ∧ Gr (one' R) w wx) ∨ (b = .bool false ∧ ∃ r, x = .ok () r ∧ Rd R s r wx ∧ Gr (one' R) w wx)
/-- The block of the result keeps its cells. -/
def ResAt (B : Nat) (wx : World) : Prop := wx.heap[B]? = some (.cells #[.int .i64 0, .int .i64 0, .string ⟨#[]⟩, .slice none 0 0, .slice none 0 0] 25 (0, 0))
theorem ResAt.lt {B : Nat} {w : World} (h : ResAt B w) : B < w.heap.size := (Array.getElem?_eq_some_iff.1 h).1
theorem ResAt.gr {B R : Nat} {w w' : World} (h : ResAt B w) (g : Gr (one' R) w w') (hR : R ≠ B) : ResAt B w' :=
  (g.block B (Array.getElem?_eq_some_iff.1 h).1 (fun e => hR e.symm)).trans h
theorem ResAt.new (w : World) : ResAt w.heap.size (w.alloc (.cells #[.int .i64 0, .int .i64 0, .string ⟨#[]⟩, .slice none 0 0, .slice none 0 0] 25)) := heap_alloc_new _ _
theorem ResAt.cells {B : Nat} {w : World} (h : ResAt B w) : w.cell? ⟨B, 0, none⟩ = some (.int .i64 0) ∧ w.cell? ⟨B, 1, none⟩ = some (.int .i64 0) ∧ w.cell? ⟨B, 2, none⟩ = some (.string ⟨#[]⟩) ∧ w.cell? ⟨B, 3, none⟩ = some (.slice none 0 0) ∧ w.cell? ⟨B, 4, none⟩ = some (.slice none 0 0) ∧
    w.frozen? ⟨B, 0, none⟩ = false ∧ w.frozen? ⟨B, 1, none⟩ = false ∧ w.frozen? ⟨B, 2, none⟩ = false ∧ w.frozen? ⟨B, 3, none⟩ = false ∧ w.frozen? ⟨B, 4, none⟩ = false := by
  unfold ResAt at h
  refine ⟨?_, ?_, ?_, ?_, ?_, ?_, ?_, ?_, ?_, ?_⟩ <;> simp [World.cell?, World.frozen?, h]
theorem atoi_ok' (x : ByteArray) (p : Bs) (hp : x.data.toList = p) (hs : x.size ≤ 16777216) (v : Int) (h : Lib.atoiAll p = .ok v) (w : World) :
    Calls Tryd.prog 50 #[.string x] w fun e w' => e = .returned (.tuple #[.int .i64 v, .nilIface]) ∧ Gr none' w w' := by
  subst hp
  refine (Tryd.strconv_Atoi_ok x (by omega) v h w).mono ?_
  rintro e w' ⟨he, hw⟩
  refine ⟨he, ?_⟩
  rcases hw with rfl | ⟨t, rfl⟩
  · exact Gr.refl _ _
  · exact Gr.of_below (Lib.bytesWorld_below w _ t) fun b hb hl => by omega
theorem atoi_range' (x : ByteArray) (p : Bs) (hp : x.data.toList = p) (hs : x.size ≤ 16777216) (h : Lib.atoiAll p = .range) (w : World) (G : Gl w) :
    Calls Tryd.prog 50 #[.string x] w fun e w' => ∃ v N, e = .returned (.tuple #[.int .i64 v, .iface 105 (.pointer (some ⟨N, 0, none⟩))]) ∧ Gr none' w w' := by
  subst hp
  obtain ⟨t, p, hr⟩ := G.rng
  refine (Tryd.strconv_Atoi_range x (by omega) h _ w (hr w (fun _ _ => rfl)) (.inr ⟨_, _, rfl⟩)).mono ?_
  rintro e w' ⟨N, he, _, _, hb⟩
  exact ⟨_, N, he, Gr.of_below hb fun b hb hl => by omega⟩
/-- The reader is put back. -/
theorem Rd.back {R : Nat} {s : ByteArray} {l l' : Bs} {w w' : World} (h : Rd R s l w) (h' : Rd R s l' w') : Rd R s l (w'.setCell ⟨R, 1, none⟩ (.int .i64 ((s.size - l.length : Nat) : Int))) :=
  ⟨h.suffix, h.le, heap_setCell_same _ _ _ _ _ _ h'.block⟩
theorem exp_le {l r : Bs} (h : expB l = .ok () r) : r.length ≤ l.length := by
  rw [exp_eq] at h
  have h1 := skips_le digS (behind ⟨#[43, 45]⟩ l.tail)
  have h2 := behind_le ⟨#[43, 45]⟩ l.tail
  split at h
  · split at h
    · injection h with _ h; subst h; simp at h1 h2 ⊢; omega
    · cases h
  · injection h with _ h; subst h; exact Nat.le_refl _
theorem frac_le {l r : Bs} (h : fracB l = .ok () r) : r.length ≤ l.length := by
  rw [frac_eq] at h
  have h1 := skips_le digS l.tail
  split at h
  · split at h
    · injection h with _ h; subst h; simp at h1 ⊢; omega
    · cases h
  · injection h with _ h; subst h; exact Nat.le_refl _
theorem Rd.same_len {R : Nat} {s : ByteArray} {l p l2 l4 : Bs} {w w0 : World} (h : Rd R s l4 w) (e : l4.length = l2.length) (hp : l = p ++ l2) (h0 : Rd R s l w0) : Rd R s l2 w := by
  have hle := h.le
  refine ⟨?_, by omega, by rw [← e]; exact h.block⟩
  have hd := h0.suffix
  have hl := h0.le
  have h3 : l.length = p.length + l2.length := by rw [hp]; simp
  rw [show s.size - l2.length = (s.size - l.length) + p.length by omega, ← List.drop_drop, hd, hp]
  exact List.drop_left
def ExpR (R : Nat) (s : ByteArray) (l : Bs) (w wx : World) : Prop := ∃ r, expB l = .ok () r ∧ Rd R s r wx ∧ Gr (one' R) w wx ∧ ResAt w.heap.size wx
set_option maxHeartbeats 2000000 in
set_option maxRecDepth 100000 in
theorem number_any (R : Nat) (s : ByteArray) (l : Bs) (w : World) (h : Rd R s l w) (hs : s.size ≤ 16777216) (G : Gl w) (hR : gN ≤ R) :
    Calls Tryd.prog 35 #[.pointer (some ⟨R, 0, none⟩)] w fun e w' => ∃ k n, e = .returned (.tuple #[leaf k n ⟨#[]⟩, .int .i64 (number l).err]) ∧ (∀ j r, number l = .ok j r → j = .mk k n ⟨#[]⟩ [] []) ∧ Gr (one' R) w w' ∧ Rd R s (number l).rest w' := by
  have hs' : s.size ≤ maxLen := by unfold maxLen; omega
  have H := Lib.hid h
  have GG := Lib.hid G
  have HR := Lib.hid hR
  obtain ⟨c0, c1, f1⟩ := h.cells
  have hlt := h.lt
  clear h G hR f1
  go_enter Tryd.func35, Tryd.ntmps35
  go_wp2_with fail
  refine (take_any R s _ l _ (H.out.alloc _) hs' (by decide)).mono ?_
  rintro e w1 ⟨rfl, g1, r1⟩
  have G1 := Lib.hid g1
  have R1 := Lib.hid r1
  clear g1 r1
  have HW := Lib.hid (whole_eq l)
  generalize hl1 : behind ⟨#[45]⟩ l = l1 at *
  go_upto_region 3 with fail
  go_cut [21] (fun b wx => NumA R s (wholeB l) w b wx ∧ ResAt w.heap.size wx)
  case first =>
    have HA : Hid (Gr (one' R) w w1 ∧ ResAt w.heap.size w1 ∧ R ≠ w.heap.size) := Lib.hid ⟨((Gr.refl _ w).alloc _).trans G1.out, (ResAt.new w).gr G1.out (by omega), by omega⟩
    cases hz : takes ⟨#[48]⟩ l1
    · cases hk : decide ((skips digS l1).length < l1.length)
      · have HF : Hid (wholeB l = .no eJson l1 ∧ skips digS l1 = l1) := Lib.hid ⟨by rw [HW.out, hz, hk]; rfl, skip_none hk⟩
        have HZ := Lib.hid hz
        have HK := Lib.hid hk
        clear hz hk
        go_wp2_with fail
        refine (take_t R s _ l1 _ R1.out hs' (by decide) false HZ.out).mono ?_
        rintro e w2 ⟨rfl, g2, r2⟩
        have G2 := Lib.hid g2
        have R2 := Lib.hid r2
        clear g2 r2
        go_wp2_with fail
        refine (skip_t R s _ l1 _ R2.out hs' (by decide) false HK.out).mono ?_
        rintro e w3 ⟨rfl, g3, r3⟩
        have G3 := Lib.hid g3
        have R3 := Lib.hid r3
        clear g3 r3
        go_wp2_with fail
        go_meet
        case rel => exact ⟨.inl ⟨rfl, l1, HF.out.1, by rw [← HF.out.2]; exact R3.out, (HA.out.1.trans G2.out).trans G3.out⟩, (HA.out.2.1.gr G2.out HA.out.2.2).gr G3.out HA.out.2.2⟩
      · have HF : Hid (wholeB l = .ok () (skips digS l1)) := Lib.hid (by rw [HW.out, hz, hk]; rfl)
        have HZ := Lib.hid hz
        have HK := Lib.hid hk
        clear hz hk
        go_wp2_with fail
        refine (take_t R s _ l1 _ R1.out hs' (by decide) false HZ.out).mono ?_
        rintro e w2 ⟨rfl, g2, r2⟩
        have G2 := Lib.hid g2
        have R2 := Lib.hid r2
        clear g2 r2
        go_wp2_with fail
        refine (skip_t R s _ l1 _ R2.out hs' (by decide) true HK.out).mono ?_
        rintro e w3 ⟨rfl, g3, r3⟩
        have G3 := Lib.hid g3
        have R3 := Lib.hid r3
        clear g3 r3
        go_wp2_with fail
        go_meet
        case rel => exact ⟨.inr ⟨rfl, _, HF.out, R3.out, (HA.out.1.trans G2.out).trans G3.out⟩, (HA.out.2.1.gr G2.out HA.out.2.2).gr G3.out HA.out.2.2⟩
    · have HF : Hid (wholeB l = .ok () l1.tail) := Lib.hid (by rw [HW.out, hz]; rfl)
      have HZ := Lib.hid hz
      clear hz
      go_wp2_with fail
      refine (take_t R s _ l1 _ R1.out hs' (by decide) true HZ.out).mono ?_
      rintro e w2 ⟨rfl, g2, r2⟩
      have G2 := Lib.hid g2
      have R2 := Lib.hid r2
      clear g2 r2
      go_wp2_with fail
      go_meet
      case rel => exact ⟨.inr ⟨rfl, _, HF.out, R2.out, HA.out.1.trans G2.out⟩, HA.out.2.1.gr G2.out HA.out.2.2⟩
  case rest =>
    have HD : Hid (R ≠ w.heap.size) := Lib.hid (by omega)
    clear G1 R1 HW hl1 c0 c1
    rcases hcut with ⟨⟨rfl, l2, e2, r2, g2⟩ | ⟨rfl, l2, e2, r2, g2⟩, hres⟩
    · obtain ⟨d0, d1, d2, d3, d4, k0, k1, k2, k3, k4⟩ := hres.cells
      have HN : Hid (number l = .no eJson l2) := Lib.hid (by unfold number; rw [e2])
      have R2 := Lib.hid r2
      have G2 := Lib.hid g2
      clear r2 g2 e2 hres
      go_wp2_with fail
      refine bodyPost_ret (v := .tuple #[leaf 0 0 ⟨#[]⟩, .int .i64 30]) (by simp [results, Tryd.results35, go_sem, leaf, d0, d1, d2, d3, d4]) rfl ⟨0, 0, by rw [HN.out]; rfl, by rw [HN.out]; simp, G2.out.five (Nat.le_refl _) _ _ _ _ _, by rw [HN.out]; exact R2.out.five HD.out _ _ _ _ _⟩
    · have C2 := r2.cells
      obtain ⟨c0, c1, f1⟩ := C2
      have R2 := Lib.hid r2
      have G2 := Lib.hid g2
      have HRES := Lib.hid hres
      have E2 := Lib.hid e2
      have hl2 := r2.le
      have hl1' := H.out.le
      have hpl : l2.length ≤ l.length := by obtain ⟨p, hp, _⟩ := whole_part e2; rw [hp]; simp
      have hab : ((s.size - l.length : Nat) : Int) ≤ ((s.size - l2.length : Nat) : Int) := by omega
      have hbs : ((s.size - l2.length : Nat) : Int) ≤ (s.size : Int) := by omega
      clear r2 g2 hres e2 f1
      generalize ha : s.size - l.length = a at *
      generalize hb : s.size - l2.length = b at *
      have HA := Lib.hid ha
      have HB := Lib.hid hb
      have ha0 : (0 : Int) ≤ (a : Int) := by omega
      clear ha hb
      go_wp2_with fail
      go_quiet (fail)
      go_upto_region 6 with fail
      have R2' := Lib.hid (R2.out.drewN nq)
      have G2' := Lib.hid (G2.out.drewN nq)
      have RES' : Hid (ResAt w.heap.size (wc.drewN nq)) := HRES
      clear R2 G2 HRES c0 c1
      generalize wc.drewN nq = wd at *
      have HW2 := Lib.hid (frac_eq l2)
      go_cut [39] (fun b wx => NumA R s (fracB l2) w b wx ∧ ResAt w.heap.size wx)
      case first =>
        cases hz : takes ⟨#[46]⟩ l2
        · have HF : Hid (fracB l2 = .ok () l2) := Lib.hid (by rw [HW2.out, hz]; rfl)
          have HZ := Lib.hid hz
          clear hz
          go_wp2_with fail
          refine (take_t R s _ l2 _ R2'.out hs' (by decide) false HZ.out).mono ?_
          rintro e w2 ⟨rfl, g2, r2⟩
          have G2 := Lib.hid g2
          have R2 := Lib.hid r2
          clear g2 r2
          go_wp2_with fail
          go_meet
          case rel => exact ⟨.inr ⟨rfl, _, HF.out, R2.out, G2'.out.trans G2.out⟩, RES'.out.gr G2.out HD.out⟩
        · cases hk : decide ((skips digS l2.tail).length < l2.tail.length)
          · have HF : Hid (fracB l2 = .no eJson l2.tail ∧ skips digS l2.tail = l2.tail) := Lib.hid ⟨by rw [HW2.out, hz, hk]; rfl, skip_none hk⟩
            have HZ := Lib.hid hz
            have HK := Lib.hid hk
            clear hz hk
            go_wp2_with fail
            refine (take_t R s _ l2 _ R2'.out hs' (by decide) true HZ.out).mono ?_
            rintro e w2 ⟨rfl, g2, r2⟩
            have G2 := Lib.hid g2
            have R2 := Lib.hid r2
            clear g2 r2
            go_wp2_with fail
            refine (skip_t R s _ l2.tail _ R2.out hs' (by decide) false HK.out).mono ?_
            rintro e w3 ⟨rfl, g3, r3⟩
            have G3 := Lib.hid g3
            have R3 := Lib.hid r3
            clear g3 r3
            go_wp2_with fail
            go_meet
            case rel => exact ⟨.inl ⟨rfl, l2.tail, HF.out.1, by rw [← HF.out.2]; exact R3.out, (G2'.out.trans G2.out).trans G3.out⟩, (RES'.out.gr G2.out HD.out).gr G3.out HD.out⟩
          · have HF : Hid (fracB l2 = .ok () (skips digS l2.tail)) := Lib.hid (by rw [HW2.out, hz, hk]; rfl)
            have HZ := Lib.hid hz
            have HK := Lib.hid hk
            clear hz hk
            go_wp2_with fail
            refine (take_t R s _ l2 _ R2'.out hs' (by decide) true HZ.out).mono ?_
            rintro e w2 ⟨rfl, g2, r2⟩
            have G2 := Lib.hid g2
            have R2 := Lib.hid r2
            clear g2 r2
            go_wp2_with fail
            refine (skip_t R s _ l2.tail _ R2.out hs' (by decide) true HK.out).mono ?_
            rintro e w3 ⟨rfl, g3, r3⟩
            have G3 := Lib.hid g3
            have R3 := Lib.hid r3
            clear g3 r3
            go_wp2_with fail
            go_meet
            case rel => exact ⟨.inr ⟨rfl, _, HF.out, R3.out, (G2'.out.trans G2.out).trans G3.out⟩, (RES'.out.gr G2.out HD.out).gr G3.out HD.out⟩
      case rest =>
        clear R2' G2' RES' HW2
        rcases hcut with ⟨⟨rfl, l3, e3, r3, g3⟩ | ⟨rfl, l3, e3, r3, g3⟩, hres⟩
        · obtain ⟨d0, d1, d2, d3, d4, k0, k1, k2, k3, k4⟩ := hres.cells
          have HN : Hid (number l = .no eJson l3) := Lib.hid (by unfold number; rw [E2.out]; simp only [e3])
          have R3 := Lib.hid r3
          have G3 := Lib.hid g3
          clear r3 g3 e3 hres
          go_wp2_with fail
          refine bodyPost_ret (v := .tuple #[leaf 0 0 ⟨#[]⟩, .int .i64 30]) (by simp [results, Tryd.results35, go_sem, leaf, d0, d1, d2, d3, d4]) rfl ⟨0, 0, by rw [HN.out]; rfl, by rw [HN.out]; simp, G3.out.five (Nat.le_refl _) _ _ _ _ _, by rw [HN.out]; exact R3.out.five HD.out _ _ _ _ _⟩
        · have R3 := Lib.hid r3
          have G3 := Lib.hid g3
          have HRES := Lib.hid hres
          have E3 := Lib.hid e3
          clear r3 g3 hres e3
          have HW3 := Lib.hid (exp_eq l3)
          go_upto_if 42 with (go_at_call 28; (refine (take_any R s _ l3 _ R3.out hs' (by decide)).mono ?_); rintro e w4 ⟨rfl, g4, r4⟩; have G4 := Lib.hid g4; have R4 := Lib.hid r4; clear g4 r4)
          go_cut [] (fun wx => ExpR R s l3 w wx)
          case first =>
            cases hz : takes ⟨#[101, 69]⟩ l3
            · have HF : Hid (expB l3 = .ok () l3 ∧ behind ⟨#[101, 69]⟩ l3 = l3) := Lib.hid ⟨by rw [HW3.out, hz]; rfl, by unfold behind; rw [hz]; rfl⟩
              clear HW3
              go_wp2_with fail
              go_meet
              case rel => exact ⟨l3, HF.out.1, by rw [← HF.out.2]; exact R4.out, G3.out.trans G4.out, HRES.out.gr G4.out HD.out⟩
            · have hbh : behind ⟨#[101, 69]⟩ l3 = l3.tail := by unfold behind; rw [hz]; rfl
              rw [hbh] at R4
              have HW4 := Lib.hid (HW3.out.trans (by rw [hz, if_pos rfl]))
              clear HW3 hbh
              go_wp2_with fail
              refine (take_any R s _ _ _ R4.out hs' (by decide)).mono ?_
              rintro e w5 ⟨rfl, g5, r5⟩
              have G5 := Lib.hid g5
              have R5 := Lib.hid r5
              clear g5 r5
              generalize behind ⟨#[43, 45]⟩ l3.tail = l4 at *
              cases hk : decide ((skips digS l4).length < l4.length)
              · have HN : Hid (number l = .no eJson l4 ∧ skips digS l4 = l4) := Lib.hid ⟨by unfold number; rw [E2.out]; simp only [E3.out]; rw [HW4.out, hk]; rfl, skip_none hk⟩
                have HK := Lib.hid hk
                clear hk HW4
                go_wp2_with fail
                refine (skip_t R s _ l4 _ R5.out hs' (by decide) false HK.out).mono ?_
                rintro e w6 ⟨rfl, g6, r6⟩
                have HRES6 := ((HRES.out.gr G4.out HD.out).gr G5.out HD.out).gr g6 HD.out
                obtain ⟨d0, d1, d2, d3, d4, k0, k1, k2, k3, k4⟩ := HRES6.cells
                have G6 := Lib.hid g6
                have R6 := Lib.hid r6
                clear g6 r6 HRES6
                go_wp2_with fail
                refine bodyPost_ret (v := .tuple #[leaf 0 0 ⟨#[]⟩, .int .i64 30]) (by simp [results, Tryd.results35, go_sem, leaf, d0, d1, d2, d3, d4]) rfl ⟨0, 0, by rw [HN.out.1]; rfl, by rw [HN.out.1]; simp, (((G3.out.trans G4.out).trans G5.out).trans G6.out).five (Nat.le_refl _) _ _ _ _ _, by rw [HN.out.1]; have := R6.out; rw [HN.out.2] at this; exact this.five HD.out _ _ _ _ _⟩
              · have HF : Hid (expB l3 = .ok () (skips digS l4)) := Lib.hid (by rw [HW4.out, hk]; rfl)
                have HK := Lib.hid hk
                clear hk HW4
                go_wp2_with fail
                refine (skip_t R s _ l4 _ R5.out hs' (by decide) true HK.out).mono ?_
                rintro e w6 ⟨rfl, g6, r6⟩
                have G6 := Lib.hid g6
                have R6 := Lib.hid r6
                clear g6 r6
                go_wp2_with fail
                go_meet
                case rel => exact ⟨_, HF.out, R6.out, ((G3.out.trans G4.out).trans G5.out).trans G6.out, ((HRES.out.gr G4.out HD.out).gr G5.out HD.out).gr G6.out HD.out⟩
          case rest =>
            clear R3 G3 HRES HW3 G4 R4
            obtain ⟨l4, e4, r4, g4, hres⟩ := hcut
            have R4 := Lib.hid r4
            have G4 := Lib.hid g4
            have HRES := Lib.hid hres
            have E4 := Lib.hid e4
            clear r4 g4 hres e4
            obtain ⟨p, hp, hshape, hsig⟩ := whole_part E2.out
            have hx := Rd.part H.out hp
            rw [HA.out, show s.size - l2.length = b from HB.out] at hx
            have hways := atoi_ways p hshape
            have hnum : number l = if l4.length < l2.length ∨ signed p < -maxWhole ∨ maxWhole < signed p then .no eNumber l else .ok (.mk 3 (signed p) ByteArray.empty [] []) l2 := by
              unfold number; rw [E2.out]; simp only [E3.out, E4.out, hsig]
            have hpa : (a : Int) + (p.length : Int) ≤ (b : Int) ∧ (b : Int) ≤ (a : Int) + (p.length : Int) := by
              have h1 := HA.out; have h2 := HB.out
              have h3 : l.length = p.length + l2.length := by rw [hp]; simp
              omega
            obtain ⟨hpa1, hpa2⟩ := hpa
            have hl4 := R4.out.le
            have hc1 : l4.length < l2.length ↔ (b : Int) < ((s.size - l4.length : Nat) : Int) := by have h2 := HB.out; omega
            have hc2 : ¬ l4.length < l2.length ↔ ((s.size - l4.length : Nat) : Int) ≤ (b : Int) := by rw [hc1]; omega
            have hc0 : (0 : Int) ≤ ((s.size - l4.length : Nat) : Int) ∧ ((s.size - l4.length : Nat) : Int) ≤ 16777216 := by omega
            obtain ⟨e0, e1, ef⟩ := R4.out.cells
            generalize hc : s.size - l4.length = c at *
            have hpx : ∃ x, s.extract a b = x ∧ x.data.toList = p ∧ x.size = p.length := ⟨_, rfl, hx, by have := congrArg List.length hx; rw [Array.length_toList] at this; exact this⟩
            obtain ⟨x, hxe, hxp, hxl⟩ := hpx
            have HX := Lib.hid hxe
            have HXP := Lib.hid hxp
            rw [← hxl] at hpa1 hpa2
            have hxs : x.size ≤ 16777216 := by omega
            have HW := Lib.hid hways
            have HNUM := Lib.hid hnum
            have HC1 := Lib.hid hc1
            have HC2 := Lib.hid hc2
            have HC := Lib.hid hc
            have HP := Lib.hid hp
            clear hways hnum hc1 hc2 hc hxe hxp hxl hp hsig hshape hx
            have GG4 := Lib.hid (GG.out.one G4.out HR.out)
            have hR4 := R4.out.lt
            have h4s := HRES.out.lt
            go_wp2_with fail
            rw [HX.out]
            by_cases hlt4 : l4.length < l2.length
            · have hcb := HC1.out.1 hlt4
              have HN : Hid (number l = .no eNumber l) := Lib.hid (by rw [HNUM.out, if_pos (.inl hlt4)])
              clear hlt4
              rcases HW.out with ⟨hat, _, _⟩ | ⟨hat, _⟩
              · have HAT := Lib.hid hat
                clear hat
                refine (atoi_ok' _ p HXP.out hxs _ HAT.out _).mono ?_
                rintro e w7 ⟨rfl, g7⟩
                have ht := R4.out.kept (g7.block R hR4 (fun x => x))
                have hres7 := HRES.out.gr (g7.weak (S := one' R)) HD.out
                obtain ⟨e0, e1, ef⟩ := ht.cells
                obtain ⟨d0, d1, d2, d3, d4, k0, k1, k2, k3, k4⟩ := hres7.cells
                rw [HC.out] at e1
                have R7 := Lib.hid ht
                have G7 := Lib.hid g7
                clear ht g7 hres7
                generalize signed p = v at *
                go_wp2_with fail
                refine bodyPost_ret (v := .tuple #[leaf 0 0 ⟨#[]⟩, .int .i64 33]) (by simp [results, Tryd.results35, go_sem, leaf, d0, d1, d2, d3, d4]) rfl ⟨0, 0, by rw [HN.out]; rfl, by rw [HN.out]; simp, (Gr.setCell (S := one' R) (a := ⟨R, 1, none⟩) (G4.out.trans G7.out.weak) (fun _ => rfl) _).five (Nat.le_refl _) _ _ _ _ _, by rw [HN.out, ← HA.out]; exact (H.out.back R7.out).five HD.out _ _ _ _ _⟩
              · have HAT := Lib.hid hat
                clear hat
                refine (atoi_range' _ p HXP.out hxs HAT.out _ GG4.out).mono ?_
                rintro e w7 ⟨v, N, rfl, g7⟩
                have ht := R4.out.kept (g7.block R hR4 (fun x => x))
                have hres7 := HRES.out.gr (g7.weak (S := one' R)) HD.out
                obtain ⟨e0, e1, ef⟩ := ht.cells
                obtain ⟨d0, d1, d2, d3, d4, k0, k1, k2, k3, k4⟩ := hres7.cells
                rw [HC.out] at e1
                have R7 := Lib.hid ht
                have G7 := Lib.hid g7
                clear ht g7 hres7
                go_wp2_with fail
                refine bodyPost_ret (v := .tuple #[leaf 0 0 ⟨#[]⟩, .int .i64 33]) (by simp [results, Tryd.results35, go_sem, leaf, d0, d1, d2, d3, d4]) rfl ⟨0, 0, by rw [HN.out]; rfl, by rw [HN.out]; simp, (Gr.setCell (S := one' R) (a := ⟨R, 1, none⟩) (G4.out.trans G7.out.weak) (fun _ => rfl) _).five (Nat.le_refl _) _ _ _ _ _, by rw [HN.out, ← HA.out]; exact (H.out.back R7.out).five HD.out _ _ _ _ _⟩
            · have hcb := HC2.out.1 hlt4
              rcases HW.out with ⟨hat, hv1, hv2⟩ | ⟨hat, hv⟩
              · have HAT := Lib.hid hat
                clear hat
                refine (atoi_ok' _ p HXP.out hxs _ HAT.out _).mono ?_
                rintro e w7 ⟨rfl, g7⟩
                have ht := R4.out.kept (g7.block R hR4 (fun x => x))
                have hres7 := HRES.out.gr (g7.weak (S := one' R)) HD.out
                obtain ⟨e0, e1, ef⟩ := ht.cells
                obtain ⟨d0, d1, d2, d3, d4, k0, k1, k2, k3, k4⟩ := hres7.cells
                rw [HC.out] at e1
                have R7 := Lib.hid ht
                have G7 := Lib.hid g7
                clear ht g7 hres7
                by_cases ho : signed p < -maxWhole ∨ maxWhole < signed p
                · have HN : Hid (number l = .no eNumber l) := Lib.hid (by rw [HNUM.out, if_pos (.inr ho)])
                  clear hlt4
                  unfold maxWhole at ho
                  generalize signed p = v at *
                  rcases ho with ho | ho
                  · go_wp2_with fail
                    refine bodyPost_ret (v := .tuple #[leaf 0 0 ⟨#[]⟩, .int .i64 33]) (by simp [results, Tryd.results35, go_sem, leaf, d0, d1, d2, d3, d4]) rfl ⟨0, 0, by rw [HN.out]; rfl, by rw [HN.out]; simp, (Gr.setCell (S := one' R) (a := ⟨R, 1, none⟩) (G4.out.trans G7.out.weak) (fun _ => rfl) _).five (Nat.le_refl _) _ _ _ _ _, by rw [HN.out, ← HA.out]; exact (H.out.back R7.out).five HD.out _ _ _ _ _⟩
                  · have ho' : ¬ v < -9007199254740991 := by omega
                    go_wp2_with fail
                    refine bodyPost_ret (v := .tuple #[leaf 0 0 ⟨#[]⟩, .int .i64 33]) (by simp [results, Tryd.results35, go_sem, leaf, d0, d1, d2, d3, d4]) rfl ⟨0, 0, by rw [HN.out]; rfl, by rw [HN.out]; simp, (Gr.setCell (S := one' R) (a := ⟨R, 1, none⟩) (G4.out.trans G7.out.weak) (fun _ => rfl) _).five (Nat.le_refl _) _ _ _ _ _, by rw [HN.out, ← HA.out]; exact (H.out.back R7.out).five HD.out _ _ _ _ _⟩
                · have hlen : l4.length = l2.length := by
                    have := exp_le E4.out; have := frac_le E3.out; omega
                  have HN : Hid (number l = .ok (.mk 3 (signed p) ByteArray.empty [] []) l2) := Lib.hid (by rw [HNUM.out, if_neg (by simp only [not_or]; exact ⟨hlt4, not_or.1 ho⟩)])
                  have HL : Hid (Rd R s l2 w7) := Lib.hid (R7.out.same_len hlen HP.out H.out)
                  clear hlt4 hlen
                  obtain ⟨ho1, ho2⟩ := not_or.1 ho
                  clear ho
                  unfold maxWhole at ho1 ho2
                  generalize signed p = v at *
                  go_wp2_with fail
                  refine bodyPost_ret (v := .tuple #[leaf 3 v ⟨#[]⟩, .int .i64 0]) (by simp [results, Tryd.results35, go_sem, leaf, d0, d1, d2, d3, d4]) rfl ⟨3, v, by rw [HN.out]; rfl, by rw [HN.out]; intro j r h; injection h with h; exact h.symm, (G4.out.trans G7.out.weak).five (Nat.le_refl _) _ _ _ _ _, by rw [HN.out]; exact HL.out.five HD.out _ _ _ _ _⟩
              · have HAT := Lib.hid hat
                have HN : Hid (number l = .no eNumber l) := Lib.hid (by rw [HNUM.out, if_pos (.inr hv)])
                clear hat hlt4 hv
                refine (atoi_range' _ p HXP.out hxs HAT.out _ GG4.out).mono ?_
                rintro e w7 ⟨v, N, rfl, g7⟩
                have ht := R4.out.kept (g7.block R hR4 (fun x => x))
                have hres7 := HRES.out.gr (g7.weak (S := one' R)) HD.out
                obtain ⟨e0, e1, ef⟩ := ht.cells
                obtain ⟨d0, d1, d2, d3, d4, k0, k1, k2, k3, k4⟩ := hres7.cells
                rw [HC.out] at e1
                have R7 := Lib.hid ht
                have G7 := Lib.hid g7
                clear ht g7 hres7
                go_wp2_with fail
                refine bodyPost_ret (v := .tuple #[leaf 0 0 ⟨#[]⟩, .int .i64 33]) (by simp [results, Tryd.results35, go_sem, leaf, d0, d1, d2, d3, d4]) rfl ⟨0, 0, by rw [HN.out]; rfl, by rw [HN.out]; simp, (Gr.setCell (S := one' R) (a := ⟨R, 1, none⟩) (G4.out.trans G7.out.weak) (fun _ => rfl) _).five (Nat.le_refl _) _ _ _ _ _, by rw [HN.out, ← HA.out]; exact (H.out.back R7.out).five HD.out _ _ _ _ _⟩
end Go.Proofs.YtdooeedemgmpiaaDoor
