/- The program's Word and Build. Conditions: those that each theorem names. -/
import Derived.Test.YtmkilmglmeohmaaSsF
import Derived.Test.YtmkilmglmeohmaaSsPl3
namespace Go.Proofs.Ytmkilmglmeohmaa
set_option linter.unusedVariables false
open Go Go.RowKit Go.Sort
namespace Ss
abbrev EnsAt (w : World) (v : Value) (L : List En) : Prop := Rk.RowAt encE 2 w v L
theorem en_cells {w : World} {p : Option Addr} {c n : Nat} {L : List En} (h : EnsAt w (.slice p n c) L) : ∀ k (hk : k < L.length), ∃ b off, p = some ⟨b, off, none⟩ ∧ ∀ wr, Below w.heap.size w wr → wr.cell? ⟨b, off + k * 2, none⟩ = some (.int .i64 L[k].1) ∧ wr.cell? ⟨b, off + k * 2 + 1, none⟩ = some (.int .i64 L[k].2) := by
  intro k hk
  rcases h with ⟨h0, _⟩ | ⟨b, off, c2, e, hb, hc⟩
  · subst h0; simp at hk
  · injection e with e1
    refine ⟨b, off, e1, fun wr hw => ?_⟩
    have hh := hc wr (hw.block b hb) k hk
    exact ⟨hh 0 _ rfl, hh 1 _ rfl⟩
theorem wordN_at {E : List En} {h : Int} {k : Nat} (hk : k < E.length) (h1 : ∀ e ∈ E.take k, ¬ e.2 = h) (h2 : E[k].2 = h) : wordN E h = E[k].1 := by
  have e : E = E.take k ++ E[k] :: E.drop (k + 1) := by rw [← List.drop_eq_getElem_cons hk, List.take_append_drop]
  unfold wordN
  have hf : E.find? (fun e => e.2 == h) = some E[k] := by
    conv => lhs; rw [e]
    rw [List.find?_append, List.find?_eq_none.2 (fun x hx => by simpa using h1 x hx), List.find?_cons_of_pos (by simpa using h2)]
    rfl
  rw [hf]
theorem wordN_no {E : List En} {h : Int} (h1 : ∀ e ∈ E, ¬ e.2 = h) : wordN E h = 0 := by
  unfold wordN
  rw [List.find?_eq_none.2 (fun x hx => by simpa using h1 x hx)]
set_option maxHeartbeats 2000000 in
set_option maxRecDepth 100000 in
theorem word_any (E : List En) (s : ByteArray) (v y : Value) (N : Int) (w : World) (h : EnsAt w v E) (hl : E.length ≤ maxLen) (hsz : s.size ≤ maxLen) :
    Calls Try.prog 12 #[.agg #[.int .i64 N, y, v], .string s] w fun e w' => e = .returned (.int .i64 (wordN E (hsh s))) ∧ Below w.heap.size w w' := by
  obtain ⟨p, c, rfl⟩ := h.form
  have hz := Rk.heap_last w (.cells #[.int .i64 N, y, .slice p E.length c] 27)
  have q1 : (w.alloc (.cells #[.int .i64 N, y, .slice p E.length c] 27)).cell? ⟨w.heap.size, 2, none⟩ = some (.slice p E.length c) := by rw [Lib.cell_of_heap hz]; rfl
  have hb0 := Rk.fresh_alloc w (.cells #[.int .i64 N, y, .slice p E.length c] 27)
  have HC := Lib.hid (en_cells (h.below hb0))
  have HB0 := Lib.hid hb0
  have HML := Lib.hid hl
  have CH : Hid (∀ W, Calls Try.prog 22 #[.string s] W fun e w' => e = .returned (.int .i64 (hsh s)) ∧ W = w') := Lib.hid (fun W => hash_any s W hsz)
  clear hz h hl hb0 hsz
  generalize hsh s = x at *
  go_enter Try.func12, Try.ntmps12
  go_wp2_with (go_at_call 22; refine (CH.out _).mono ?_; rintro e w2 ⟨rfl, rfl⟩)
  generalize w.alloc (.cells #[.int .i64 N, y, .slice p E.length c] 27) = w1 at *
  go_loopw [7, 13] (fun a i wr => ∃ k : Nat, k ≤ E.length ∧ i = .int .i64 k ∧ (∀ e ∈ E.take k, ¬ e.2 = x) ∧ Below w1.heap.size w1 wr) (fun _ i _ => E.length - (intOf i).toNat)
  case atStart => exact ⟨0, Nat.zero_le _, rfl, by simp, Below.refl _ _⟩
  case round =>
    obtain ⟨k, hk, rfl, hno, hb⟩ := hrel
    have HB := Lib.hid hb
    have HNO := Lib.hid hno
    clear hb hno
    obtain ⟨wo, rfl⟩ : ∃ wo : World, wo = wr := ⟨_, rfl⟩
    by_cases hlt : k < E.length
    · obtain ⟨g, off, rfl, hc⟩ := HC.out k hlt
      obtain ⟨c0, c1⟩ := hc wo HB.out
      have hlt' : (k : Int) < (E.length : Int) := by omega
      have HAT := Lib.hid (fun h2 => wordN_at hlt HNO.out h2)
      have hx : E[k]? = some E[k] := List.getElem?_eq_getElem hlt
      generalize E[k] = a at c0 c1 HAT hx
      obtain ⟨nn, id⟩ := a
      simp only at c0 c1 HAT
      have hz := Rk.heap_last wo (.cells #[.int .i64 nn, .int .i64 id] 39)
      have q0 : (wo.alloc (.cells #[.int .i64 nn, .int .i64 id] 39)).cell? ⟨wo.heap.size, 0, none⟩ = some (.int .i64 nn) := by rw [Lib.cell_of_heap hz]; rfl
      have q1 : (wo.alloc (.cells #[.int .i64 nn, .int .i64 id] 39)).cell? ⟨wo.heap.size, 1, none⟩ = some (.int .i64 id) := by rw [Lib.cell_of_heap hz]; rfl
      have HB2 : Hid (Below w1.heap.size w1 (wo.alloc (.cells #[.int .i64 nn, .int .i64 id] 39))) := Lib.hid (HB.out.alloc HB.out.size _)
      have HX := Lib.hid hx
      clear hz hx hc
      by_cases he : id = x
      · have hex : (id == x) = true := by simpa using he
        have HR := Lib.hid (HAT.out he)
        clear HAT he
        go_wp2_with fail
        go_ret
        exact ⟨by rw [HR.out]; rfl, HB0.out.trans (HB2.out.mono HB0.out.size)⟩
      · have hex : (id == x) = false := by simpa using he
        have HNO2 : Hid (∀ e ∈ E.take (k + 1), ¬ e.2 = x) := Lib.hid (fun e hm => by
          rw [List.take_add_one, HX.out] at hm
          rcases List.mem_append.1 hm with c | c
          · exact HNO.out e c
          · obtain rfl : e = (nn, id) := by simpa using c
            exact he)
        clear HAT he
        go_wp2_with fail
        go_roundw
        case rel => exact ⟨k + 1, by omega, congrArg _ (wrap_s HML.out hlt), HNO2.out, HB2.out⟩
        case measure =>
          rw [wrap_s HML.out hlt]
          exact int_less hlt
    · obtain rfl : k = E.length := by omega
      have hr := wordN_no (E := E) (h := x) (by have := HNO.out; rwa [List.take_length] at this)
      have HR := Lib.hid hr
      clear hr
      go_wp2_with fail
      go_ret
      exact ⟨by rw [HR.out]; rfl, HB0.out.trans (HB.out.mono HB0.out.size)⟩
set_option maxHeartbeats 2000000 in
set_option maxRecDepth 100000 in
theorem build_any (L : List Int) (M : List ByteArray) (v u : Value) (q : Int) (w : World) (hv : IntsAt w v L) (hu : TxtsAt w u M) (hl : L.length ≤ 1073741824) (hm : M.length * 16 ≤ 140737488355328) (hmm : ∀ s ∈ M, s.size ≤ maxLen) :
    Calls Try.prog 7 #[v, u, .int .i64 q] w fun e w' => ∃ p1 c1 p2 c2, e = .returned (.agg #[.int .i64 ((L.length + M.length : Nat) : Int), .slice p1 (bks (srt L) (many q L.length)).length c1, .slice p2 (runs (srt (hs M))).length c2]) ∧ OwnB w' w.heap.size (.slice p1 (bks (srt L) (many q L.length)).length c1) (bks (srt L) (many q L.length)) ∧ OwnE w' w.heap.size (.slice p2 (runs (srt (hs M))).length c2) (runs (srt (hs M))) ∧ Below w.heap.size w w' := by
  obtain ⟨pv, cv, rfl⟩ := hv.form
  obtain ⟨pu, cu, rfl⟩ := hu.form
  have hz := Rk.heap_last w (.cells #[.int .i64 0, .slice none 0 0, .slice none 0 0] 27)
  have hb0 := Rk.fresh_alloc w (.cells #[.int .i64 0, .slice none 0 0, .slice none 0 0] 27)
  have hsz0 : (w.alloc (.cells #[.int .i64 0, .slice none 0 0, .slice none 0 0] 27)).heap.size = w.heap.size + 1 := by simp
  have H1 := Lib.hid (hist_any L _ q _ (hv.below hb0) hl)
  have H2 := Lib.hid (fun W (hW : Below (w.alloc (.cells #[.int .i64 0, .slice none 0 0, .slice none 0 0] 27)).heap.size (w.alloc (.cells #[.int .i64 0, .slice none 0 0, .slice none 0 0] 27)) W) => hashed_any M _ W ((hu.below hb0).below hW) hm hmm)
  obtain ⟨sm, hsm⟩ : ∃ sm : Int, sm = ((L.length + M.length : Nat) : Int) := ⟨_, rfl⟩
  have hsum : wrap64 ((L.length : Int) + (M.length : Int)) = sm := by rw [wrap64_in _ (by omega)]; omega
  have HS2 : Hid ((L.length : Int) + (M.length : Int) = sm) := Lib.hid (by omega)
  rw [← hsm]
  have HZ := Lib.hid hz
  have HB0 := Lib.hid hb0
  have HS0 := Lib.hid hsz0
  clear hz hb0 hv hu hl hm hmm hsz0 hsm
  obtain ⟨B, hB⟩ : ∃ B, B = bks (srt L) (many q L.length) := ⟨_, rfl⟩
  obtain ⟨E, hE⟩ : ∃ E, E = runs (srt (hs M)) := ⟨_, rfl⟩
  rw [← hB] at H1 ⊢
  rw [← hE] at H2 ⊢
  clear hB hE
  go_enter Try.func7, Try.ntmps7
  go_wp2_with fail
  generalize w.alloc (.cells #[.int .i64 0, .slice none 0 0, .slice none 0 0] 27) = w1 at *
  refine H1.out.mono ?_
  clear H1
  rintro e w2 ⟨b, rfl, hb, hb2⟩
  obtain ⟨p1, c1, rfl⟩ := (Rk.own_row flatB hb).form
  have HO := Lib.hid hb
  have HB2 := Lib.hid hb2
  clear hb hb2
  go_wp2_with fail
  refine (H2.out w2 HB2.out).mono ?_
  clear H2
  rintro e w3 ⟨x, rfl, hx, hb3⟩
  obtain ⟨p2, c2, rfl⟩ := (Rk.own_row flatE hx).form
  have hbw3 : Below w1.heap.size w1 w3 := HB2.out.trans (hb3.mono HB2.out.size)
  have hz3 : w3.heap[w.heap.size]? = some (.cells #[.int .i64 0, .slice none 0 0, .slice none 0 0] 27 (0, 0)) := (hbw3.block _ (by rw [HS0.out]; omega)).trans HZ.out
  have HOB := Lib.hid (Rk.own_below HO.out hb3)
  have HOE := Lib.hid hx
  have HB3 := Lib.hid (HB0.out.trans (hbw3.mono HB0.out.size))
  have HSZ2 := Lib.hid HB2.out.size
  have f0 : w3.frozen? ⟨w.heap.size, 0, none⟩ = false := Lib.frozen_of_heap hz3 0
  have f1 : w3.frozen? ⟨w.heap.size, 1, none⟩ = false := Lib.frozen_of_heap hz3 1
  have f2 : w3.frozen? ⟨w.heap.size, 2, none⟩ = false := Lib.frozen_of_heap hz3 2
  have q0 : w3.cell? ⟨w.heap.size, 0, none⟩ = some (.int .i64 0) := by rw [Lib.cell_of_heap hz3]; rfl
  have q1 : w3.cell? ⟨w.heap.size, 1, none⟩ = some (.slice none 0 0) := by rw [Lib.cell_of_heap hz3]; rfl
  have q2 : w3.cell? ⟨w.heap.size, 2, none⟩ = some (.slice none 0 0) := by rw [Lib.cell_of_heap hz3]; rfl
  clear hz3 hx hb3 hbw3 HO HB2 HZ HB0
  go_wp2_with fail
  refine bodyPost_ret (v := .agg #[.int .i64 sm, .slice p1 B.length c1, .slice p2 E.length c2]) (by simp [results, Try.results7, go_sem, q0, q1, q2, HS2.out]) rfl ⟨p1, c1, p2, c2, rfl, ?_, ?_, ((HB3.out.setCell (p := ⟨w.heap.size, 0, none⟩) (Nat.le_refl _) _).setCell (p := ⟨w.heap.size, 1, none⟩) (Nat.le_refl _) _).setCell (p := ⟨w.heap.size, 2, none⟩) (Nat.le_refl _) _⟩
  · refine Rk.own_le (Rk.own_keep HOB.out fun g hg hlt => ?_) (by rw [HS0.out]; omega)
    have := (Rk.own_block HOB.out g hg).1
    rw [HS0.out] at this
    rw [heap_setCell_other _ _ _ _ (by simp; omega), heap_setCell_other _ _ _ _ (by simp; omega), heap_setCell_other _ _ _ _ (by simp; omega)]
  · refine Rk.own_le (Rk.own_keep HOE.out fun g hg hlt => ?_) (Nat.le_trans (by rw [HS0.out]; omega) HSZ2.out)
    have := Nat.le_trans HSZ2.out (Rk.own_block HOE.out g hg).1
    rw [HS0.out] at this
    rw [heap_setCell_other _ _ _ _ (by simp; omega), heap_setCell_other _ _ _ _ (by simp; omega), heap_setCell_other _ _ _ _ (by simp; omega)]
end Ss
end Go.Proofs.Ytmkilmglmeohmaa
