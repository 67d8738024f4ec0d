/- scalar's spansOf: what a quantizer says of each component. Conditions: those that each theorem names. -/
import Derived.Test.YtfgmkdghpdpdkaaScA
import Derived.Test.YtfgmkdghpdpdkaaRkM
namespace Go.Proofs.Ytfgmkdghpdpdkaa
set_option linter.unusedVariables false
open Go Go.RowKit Vc Rk
namespace Sc
abbrev OwnS (w : World) (base : Nat) (v : Value) (S : List Sp) : Prop := Rk.Own encS 2 72 w base v S
theorem fill_len {α} {L : List α} {n k : Nat} {z : α} (h : k ≤ n) (hl : L.length = n) : (L.take k ++ List.replicate (n - k) z).length = n := by simp; omega
theorem fill_set {α} {L : List α} {n k : Nat} {z x : α} (h : k < n) (hl : L.length = n) (hx : L[k]? = some x) : (L.take k ++ List.replicate (n - k) z).set k x = L.take (k + 1) ++ List.replicate (n - (k + 1)) z := by
  have ht : (L.take k).length = k := by rw [List.length_take, hl]; omega
  rw [List.set_append_right _ _ (by omega), ht, Nat.sub_self]
  obtain ⟨r, hr⟩ : ∃ r, n - k = r + 1 := ⟨n - k - 1, by omega⟩
  rw [hr, List.replicate_succ, List.set_cons_zero, show n - (k + 1) = r by omega, List.take_add_one, hx]
  simp
theorem fill_all {α} {L : List α} {n : Nat} {z : α} (hl : L.length = n) : L.take n ++ List.replicate (n - n) z = L := by
  rw [Nat.sub_self, List.replicate_zero, List.append_nil, ← hl, List.take_length]
/-- A row of numbers' cells, in every world that keeps it. -/
theorem at_cells {w : World} {v : Value} {L : List Int} (h : IntsAt w v L) (h0 : 0 < L.length) : ∃ b off c, v = .slice (some ⟨b, off, none⟩) L.length c ∧ b < w.heap.size ∧ ∀ wr, Below w.heap.size w wr → ∀ k (hk : k < L.length), wr.cell? ⟨b, off + k, none⟩ = some (.int .i64 L[k]) := by
  rcases h with ⟨e, _⟩ | ⟨b, off, c, e, hb, hc⟩
  · subst e; simp at h0
  · exact ⟨b, off, c, e, hb, fun wr hw k hk => hc wr (hw.block b hb) k hk⟩
theorem make_spans (n : Nat) (hn : n ≤ 64) (w : World) (base : Nat) (hb : base ≤ w.heap.size) :
    ∃ o, (Instr.makeSlice 61 (.int .i64 (n : Int)) (.int .i64 (n : Int))).run Try.prog w = .ok (.slice (some ⟨w.heap.size, 0, none⟩) n n) (w.alloc o) ∧ OwnS (w.alloc o) base (.slice (some ⟨w.heap.size, 0, none⟩) n n) (List.replicate n (0, 0)) := by
  obtain ⟨i0, hi, hz0, hz1, hz2⟩ := info_parts infoS
  exact Rk.make_own flatS i0 _ hi hz0 hz1 hz2 (0, 0) rfl n (by omega) (by unfold maxLen; omega) w base hb
/-- A store of a span into a row of one's own. -/
theorem put_span {w : World} {base B n c : Nat} {S : List Sp} (h : OwnS w base (.slice (some ⟨B, 0, none⟩) n c) S) (k : Nat) (hk : k < S.length) :
    (∃ y : Sp, (w.cell? ⟨B, k * 2, none⟩ = some (.int .i64 y.1) ∧ w.frozen? ⟨B, k * 2, none⟩ = false) ∧ w.cell? ⟨B, k * 2 + 1, none⟩ = some (.int .i64 y.2) ∧ w.frozen? ⟨B, k * 2 + 1, none⟩ = false) ∧
    ∀ s : Sp, OwnS ((w.setCell ⟨B, k * 2, none⟩ (.int .i64 s.1)).setCell ⟨B, k * 2 + 1, none⟩ (.int .i64 s.2)) base (.slice (some ⟨B, 0, none⟩) n c) (S.set k s) := by
  have k0 := Rk.own_cell flatS h k hk (i := 0) (u := .int .i64 S[k].1) rfl
  have k1 := Rk.own_cell flatS h k hk (i := 1) (u := .int .i64 S[k].2) rfl
  rw [Nat.add_zero] at k0
  exact ⟨⟨S[k], k0, k1⟩, fun s => Rk.own_put flatS h k hk s⟩
theorem spans_none {S : List Sp} {k : Nat} {s : Sp} (h : S[k]? = some s) (hs : lowB s = false) : S.all lowB = false := all_no' h hs
set_option maxHeartbeats 4000000 in
set_option maxRecDepth 100000 in
theorem spansOf_any (lo hi : List Int) (u v : Value) (w : World) (hu : IntsAt w u lo) (hv : IntsAt w v hi) (hl : lo.length ≤ maxLen) (hh : hi.length ≤ maxLen) :
    Calls Try.prog 26 #[.agg #[u, v]] w fun e w' => (∃ r, e = .returned (.tuple #[r, .bool (mayB lo hi)]) ∧ (mayB lo hi = true → OwnS w' w.heap.size r (spansL lo hi)) ∧ (mayB lo hi = false → r = .slice none 0 0)) ∧ Below w.heap.size w w' := by
  obtain ⟨W0, hW0⟩ : ∃ W0, W0 = w.alloc (.cells #[u, v] 25) := ⟨_, rfl⟩
  have hb0 : Below w.heap.size w W0 := by rw [hW0]; exact fresh_alloc _ _
  have hz : W0.heap[w.heap.size]? = some (.cells #[u, v] 25) := by rw [hW0]; exact heap_last _ _
  have z0 : ∀ wr, Below W0.heap.size W0 wr → wr.cell? ⟨w.heap.size, 0, none⟩ = some u ∧ wr.cell? ⟨w.heap.size, 1, none⟩ = some v := fun wr hb => by
    have h := (hb.block w.heap.size (by rw [hW0]; simp)).trans hz
    constructor <;> rw [Lib.cell_of_heap h] <;> rfl
  have HZ := Lib.hid z0
  have hs0 : W0.heap.size = w.heap.size + 1 := by rw [hW0]; simp
  have hu0 := hu.below hb0
  have hv0 := hv.below hb0
  have C1 := isv_any lo u (lo.length : Int) W0 hu0 hl
  have C2 := isv_any hi v (lo.length : Int) W0 hv0 hh
  have e0 : (decide ((lo.length : Int) = (lo.length : Int)) && vecB lo) = vecB lo := by simp
  rw [e0] at C1
  have C1 := Lib.hid (C1.mono fun e w' h => (⟨h.1, h.2.symm⟩ : e = .returned (.bool (vecB lo)) ∧ W0 = w'))
  have C2 := Lib.hid (C2.mono fun e w' h => (⟨h.1, h.2.symm⟩ : e = .returned (.bool (decide ((hi.length : Int) = (lo.length : Int)) && vecB hi)) ∧ W0 = w'))
  have HB0 := Lib.hid hb0
  obtain ⟨p1, c1, e1⟩ := hu.form
  obtain ⟨p2, c2, e2⟩ := hv.form
  have HU := Lib.hid hu0
  have HV := Lib.hid hv0
  have HS0 := Lib.hid hs0
  obtain ⟨d0, d1⟩ := z0 W0 (Below.refl _ _)
  have hno : vecB lo = false ∨ (decide ((hi.length : Int) = (lo.length : Int)) && vecB hi) = false → mayB lo hi = false := by
    rintro (h | h)
    · simp [mayB, h]
    · rw [← Bool.not_eq_true]
      intro h'
      obtain ⟨_, h2, h3, _⟩ := may_of h'
      simp [h2, h3] at h
  obtain ⟨S, hS⟩ : ∃ S, S = spansL lo hi := ⟨_, rfl⟩
  obtain ⟨M, hM⟩ : ∃ M, M = mayB lo hi := ⟨_, rfl⟩
  rw [← hS, ← hM]
  rw [← hM] at hno
  clear hz z0 hu hv hu0 hv0 hb0 hs0 hh hl
  subst e1
  subst e2
  generalize hb2 : (decide ((hi.length : Int) = (lo.length : Int)) && vecB hi) = b2 at *
  generalize hb1 : vecB lo = b1 at *
  go_enter Try.func26, Try.ntmps26
  go_upto_region 1 with fail
  rw [← hW0]
  clear hW0
  cases b1 with
  | false =>
    have hm := hno (.inl rfl)
    subst hm
    clear hM
    go_wp2_with (refine C1.out.mono ?_; rintro _ _ ⟨rfl, rfl⟩)
    go_ret2
    exact ⟨rfl, HB0.out⟩
  | true =>
    cases b2 with
    | false =>
      have hm := hno (.inr rfl)
      subst hm
      clear hM
      go_wp2_with (first | (refine C1.out.mono ?_; rintro _ _ ⟨rfl, rfl⟩) | (refine C2.out.mono ?_; rintro _ _ ⟨rfl, rfl⟩))
      go_ret2
      exact ⟨rfl, HB0.out⟩
    | true =>
      have hb2' : hi.length = lo.length ∧ vecB hi = true := by
        simp only [Bool.and_eq_true, decide_eq_true_eq] at hb2
        exact ⟨by omega, hb2.2⟩
      obtain ⟨n1, n64, n3⟩ := parts_of hb1
      clear n3
      obtain ⟨g1, o1, c1', e1, hg1, hc1⟩ := at_cells HU.out (by omega)
      obtain ⟨g2, o2, c2', e2', hg2, hc2⟩ := at_cells HV.out (by omega)
      have hmay : M = S.all lowB := by rw [hM, hS]; simp [mayB, hb1, hb2'.1, hb2'.2]
      have hsl : (spansL lo hi).length = lo.length := spans_len hb2'.1.symm
      have hat : ∀ k, k < lo.length → ∃ a b : Int, S[k]? = some (a, b) ∧ ∀ wr, Below W0.heap.size W0 wr → wr.cell? ⟨g1, o1 + k, none⟩ = some (.int .i64 a) ∧ wr.cell? ⟨g2, o2 + k, none⟩ = some (.int .i64 b) := fun k hk => by
        refine ⟨lo[k], hi[k]'(by omega), ?_, fun wr hw => ⟨hc1 wr hw k hk, hc2 wr hw k (by omega)⟩⟩
        rw [hS, List.getElem?_eq_getElem (by omega), spans_at hb2'.1.symm k hk]
      rw [← hS] at hsl
      have HAT := Lib.hid hat
      have HMAY := Lib.hid hmay
      obtain ⟨o, hmk, hl0⟩ := make_spans lo.length n64 W0 W0.heap.size (Nat.le_refl _)
      have HMK := Lib.hid hmk
      have HL0 := Lib.hid hl0
      have HB1 : Hid (Below W0.heap.size W0 (W0.alloc o)) := Lib.hid (fresh_alloc _ _)
      have HSL := Lib.hid hsl
      have HN64 := Lib.hid n64
      have HLEN := Lib.hid hb2'.1
      injection e2' with q1 q2 q3
      subst q1; subst q3; clear q2
      injection e1 with q4 q5 q6
      subst q4; subst q6; clear q5
      clear hmk hl0 hc1 hc2 hsl hat hS hM HU HV hno hg1 hg2 hmay n1
      rw [hb2'.1] at d1 HZ C2
      clear hb1 hb2 hb2' e0 HLEN
      generalize lo.length = n at *
      have HC1 := C1
      have HC2 := C2
      go_upto_region 4 with (first | (refine HC1.out.mono ?_; rintro _ _ ⟨rfl, rfl⟩) | (refine HC2.out.mono ?_; rintro _ _ ⟨rfl, rfl⟩))
      clear C1 C2 HC1 HC2
      go_wp2_with fail
      rw [HMK.out]
      obtain ⟨t1, t2⟩ := HZ.out _ HB1.out
      go_wp2_with fail
      clear t1 t2
      generalize W0.alloc o = W1 at *
      clear HMK
      have HNM : Hid (n ≤ maxLen) := Lib.hid (by have := HN64.out; unfold maxLen; omega)
      go_loopw [28] (fun i wr => ∃ k : Nat, k ≤ n ∧ i = .int .i64 k ∧ Below W0.heap.size W0 wr ∧ OwnS wr W0.heap.size (.slice (some ⟨W0.heap.size, 0, none⟩) n n) (S.take k ++ List.replicate (n - k) (0, 0)) ∧ (S.take k).all lowB = true) (fun i _ => n - (intOf i).toNat)
      case atStart => exact ⟨0, Nat.zero_le _, rfl, HB1.out, by simpa using HL0.out, by simp⟩
      case round =>
        obtain ⟨k, hk, rfl, hbw, how, hal⟩ := hrel
        obtain ⟨wo, rfl⟩ : ∃ wo : World, wo = wr := ⟨_, rfl⟩
        obtain ⟨x1, x2⟩ := HZ.out wo hbw
        have HBW := Lib.hid hbw
        have HOW := Lib.hid how
        have HAL := Lib.hid hal
        by_cases hlt : k < n
        · obtain ⟨a, b, hx, hcells⟩ := HAT.out k hlt
          obtain ⟨y1, y2⟩ := hcells wo hbw
          obtain ⟨⟨y, ⟨p0, f0⟩, p1, f1⟩, hput⟩ := put_span how k (by rw [fill_len hk HSL.out]; exact hlt)
          have h1 := hput (a, b)
          rw [fill_set hlt HSL.out hx] at h1
          have HPUT := Lib.hid h1
          by_cases hab : b < a
          · have hs : lowB (a, b) = false := by simp [lowB]; omega
            have hm := HMAY.out.trans (all_no' hx hs)
            subst hm
            clear hx hcells hput h1 hbw how hal
            go_wp2_with fail
            go_ret2
            exact ⟨rfl, HB0.out.trans (HBW.out.mono (by have := HS0.out; omega))⟩
          · have hs : lowB (a, b) = true := by simp [lowB]; omega
            have HN := Lib.hid (all_next' hx hal hs)
            clear hx hcells hput h1 hbw how hal
            go_wp2_with fail
            go_roundw
            case rel => exact ⟨k + 1, by omega, by first | rfl | go_num, (HBW.out.setCell (p := ⟨W0.heap.size, k * 2, none⟩) (Nat.le_refl _) _).setCell (p := ⟨W0.heap.size, k * 2 + 1, none⟩) (Nat.le_refl _) _, HPUT.out, HN.out⟩
            case measure => simp only [intOf]; omega
        · obtain rfl : k = n := by omega
          have hm : M = true := by rw [HMAY.out, ← hal, ← HSL.out, List.take_length]
          subst hm
          have hfin : OwnS wo w.heap.size (.slice (some ⟨W0.heap.size, 0, none⟩) k k) S := by
            have h := how
            rw [fill_all HSL.out] at h
            exact own_le h (by have := HS0.out; omega)
          have HF := Lib.hid hfin
          clear hbw how hal hfin
          go_wp2_with fail
          go_ret2
          exact ⟨⟨_, rfl, HF.out⟩, HB0.out.trans (HBW.out.mono (by have := HS0.out; omega))⟩
end Sc
end Go.Proofs.Ytfgmkdghpdpdkaa
