/- scalar's first and rescore. Conditions: those that each theorem names. -/
import Derived.Test.YtfgmkdghpdpdkaaScO
namespace Go.Proofs.Ytfgmkdghpdpdkaa
set_option linter.unusedVariables false
open Go Go.RowKit Go.Shelf Go.Sort Vc Rk
namespace Sc
def cutN (b : Int) (n : Nat) : Nat := (min (max b 0) (n : Int)).toNat
theorem cutN_is (b : Int) (n : Nat) : min (max b 0) (n : Int) = (cutN b n : Int) := by unfold cutN; omega
theorem cutN_le (b : Int) (n : Nat) : cutN b n ≤ n := by unfold cutN; omega
set_option maxHeartbeats 4000000 in
set_option maxRecDepth 100000 in
theorem first_any (m : Int) (L : List Ca) (hst : StOk m L) (h0 : 0 < L.length) (v : Value) (base : Nat) (w : World) (h : OwnC w base v L) (hB : base ≤ w.heap.size) (b : Int) (hn : L.length ≤ maxLen) :
    Calls Try.prog 39 #[.int .i64 m, v, .int .i64 b] w fun e w' => ∃ (r : Value) (L' : List Ca), e = .returned r ∧ RowAt encC 4 w' r (L'.take (cutN b L.length)) ∧ L'.Perm L ∧ L'.Pairwise (fun a b => ltOf (cfC m) b a = false) ∧ Below base w w' := by
  obtain ⟨W0, hW0⟩ : ∃ W0, W0 = w.alloc (.cells #[.int .i64 m] 3) := ⟨_, rfl⟩
  have hb0 : Below w.heap.size w W0 := by rw [hW0]; exact fresh_alloc _ _
  have hz : W0.heap[w.heap.size]? = some (.cells #[.int .i64 m] 3) := by rw [hW0]; exact heap_last _ _
  have hc0 : W0.cell? ⟨w.heap.size, 0, none⟩ = some (.int .i64 m) := by rw [Lib.cell_of_heap hz]; rfl
  have C := Lib.hid (hst w.heap.size v base W0 (own_below h hb0) ⟨lt_of_block hz, fun e => by have := (own_block h _ e).2; omega⟩ (Nat.le_trans hB hb0.size) hc0)
  have HBB := Lib.hid (hb0.mono hB)
  obtain ⟨g, cap, rfl, hb1, hg⟩ := own_form h h0
  have hcap : L.length ≤ cap := by
    rcases h.2 with ⟨e, _⟩ | ⟨_, _, _, e, _, _, h1, _⟩
    · cases e
    · injection e with _ _ e3; omega
  obtain ⟨j, hj⟩ : ∃ j, j = cutN b L.length := ⟨_, rfl⟩
  have hjn : j ≤ L.length := by rw [hj]; exact cutN_le _ _
  have hmm := cutN_is b L.length
  rw [← hj] at hmm ⊢
  have hj0 : (0 : Int) ≤ (j : Int) := by omega
  have hjc : (j : Int) ≤ (cap : Int) := by omega
  have hc1 : ¬ cap = 0 := by omega
  have HJN := Lib.hid hjn
  have HF : Hid (∀ (w' : World) (L' : List Ca), OwnC w' base (.slice (some ⟨g, 0, none⟩) L.length cap) L' → L'.Perm L → RowAt encC 4 w' (.slice (some ⟨g, 0, none⟩) j cap) (L'.take j)) := Lib.hid (fun w' L' ho hp => by
    rcases own_row flatC ho with ⟨e, p, c, e2⟩ | ⟨g', off, c, e2, hg', hc⟩
    · injection e2 with _ e3
      omega
    · injection e2 with e4 e5 e6
      injection e4 with e4
      injection e4 with e4 e7
      subst e4; subst e7; subst e6
      refine .inr ⟨g, 0, cap, by rw [List.length_take, ← e5]; congr 1; omega, hg', fun W hW q hq i u hu => ?_⟩
      have hq' : q < L'.length := by simp at hq; omega
      rw [List.getElem_take] at hu
      exact hc W hW q hq' i u hu)
  clear h hB hn hst hz hb0 hb1 hg hjn hj h0 hcap
  generalize L.length = n at *
  go_enter Try.func39, Try.ntmps39
  go_upto_region 1 with fail
  rw [← hW0]
  clear hW0
  go_wp2_with fail
  refine C.out.mono ?_
  rintro e w2 ⟨rfl, L', ho, hp, hpw, hb2⟩
  have HR := Lib.hid (HF.out w2 L' ho hp)
  have HP := Lib.hid (And.intro hp hpw)
  have HB := Lib.hid (HBB.out.trans hb2)
  clear ho hp hpw hb2 HF C
  go_wp2_with fail
  go_ret
  exact ⟨_, L', rfl, HR.out, HP.out.1, HP.out.2, HB.out⟩
theorem flatH : Flat Try.prog Tq.encH 2 53 47 16 :=
  ⟨Try.underlying47, Rk.info_of Tq.infoH rfl, by decide, fun _ => rfl, fun x u hu => by
    simp only [Tq.encH, List.mem_cons, List.not_mem_nil, or_false] at hu
    rcases hu with rfl | rfl <;> rfl⟩
abbrev OwnHk (w : World) (base : Nat) (v : Value) (L : List Tk.Ht) : Prop := Rk.Own Tq.encH 2 53 w base v L
theorem ownHk {w : World} {base : Nat} {v : Value} {L : List Tk.Ht} (h : OwnHk w base v L) : Tq.OwnH w base v L := h
theorem make_hits (n : Nat) (hn : n * 16 ≤ 281474976710656) (w : World) (base : Nat) (hb : base ≤ w.heap.size) :
    ∃ o, (Instr.makeSlice 47 (.int .i64 (n : Int)) (.int .i64 (n : Int))).run Try.prog w = .ok (.slice (some ⟨w.heap.size, 0, none⟩) n n) (w.alloc o) ∧ OwnHk (w.alloc o) base (.slice (some ⟨w.heap.size, 0, none⟩) n n) (List.replicate n (0, 0)) := by
  obtain ⟨i0, hi, hz0, hz1, hz2⟩ := info_parts Tq.infoH
  exact Rk.make_own flatH i0 _ hi hz0 hz1 hz2 (0, 0) rfl n (by omega) (by unfold maxLen; omega) w base hb
theorem put_hit {w : World} {base B n c : Nat} {S : List Tk.Ht} (h : OwnHk w base (.slice (some ⟨B, 0, none⟩) n c) S) (k : Nat) (hk : k < S.length) :
    (∃ y : Tk.Ht, (w.cell? ⟨B, k * 2, none⟩ = some (.int .i64 y.1) ∧ w.frozen? ⟨B, k * 2, none⟩ = false) ∧ w.cell? ⟨B, k * 2 + 1, none⟩ = some (.int .i64 y.2) ∧ w.frozen? ⟨B, k * 2 + 1, none⟩ = false) ∧
    ∀ s : Tk.Ht, OwnHk ((w.setCell ⟨B, k * 2, none⟩ (.int .i64 s.1)).setCell ⟨B, k * 2 + 1, none⟩ (.int .i64 s.2)) base (.slice (some ⟨B, 0, none⟩) n c) (S.set k s) := by
  have k0 := Rk.own_cell flatH h k hk (i := 0) (u := .int .i64 S[k].1) rfl
  have k1 := Rk.own_cell flatH h k hk (i := 1) (u := .int .i64 S[k].2) rfl
  rw [Nat.add_zero] at k0
  exact ⟨⟨S[k], k0, k1⟩, fun s => Rk.own_put flatH h k hk s⟩
theorem cands_row {w : World} {v : Value} {C : List Ca} (h : RowAt encC 4 w v C) : ∃ p c, v = .slice p C.length c ∧ ∀ (k : Nat) e, C[k]? = some e → ∃ b off, p = some ⟨b, off, none⟩ ∧ b < w.heap.size ∧
    ∀ wr, Below w.heap.size w wr → (wr.cell? ⟨b, off + k * 4, none⟩ = some (.int .i64 e.1.1) ∧ wr.cell? ⟨b, off + k * 4 + 1, none⟩ = some (.int .i64 e.1.2)) ∧ wr.cell? ⟨b, off + k * 4 + 2, none⟩ = some (.int .i64 e.2.id) ∧ wr.cell? ⟨b, off + k * 4 + 3, none⟩ = some (.slice e.2.p e.2.n e.2.c) := by
  rcases h with ⟨rfl, p, c, rfl⟩ | ⟨b, off, c, e, hb, hc⟩
  · exact ⟨p, c, rfl, fun k s hs => by simp at hs⟩
  · refine ⟨_, c, e, fun k s hs => ⟨b, off, rfl, hb, fun wr hw => ?_⟩⟩
    obtain ⟨hk, rfl⟩ := List.getElem?_eq_some_iff.1 hs
    have g := hc wr (hw.block b hb) k hk
    exact ⟨⟨g 0 _ rfl, g 1 _ rfl⟩, g 2 _ rfl, g 3 _ rfl⟩
noncomputable def trueH (m : Int) (L : List Int) (e : It) : Tk.Ht := (e.id, scQ L e.V m)
set_option maxHeartbeats 8000000 in
set_option maxRecDepth 100000 in
theorem rescore_any (m : Int) (L : List Int) (C : List Ca) (u v : Value) (w : World) (hv : IntsAt w v L) (hu : RowAt encC 4 w u C) (hC : ∀ c ∈ C, ItW w c.2 ∧ c.2.V.length ≤ maxLen) (hL : L.length ≤ maxLen) (hn : C.length * 16 ≤ 140737488355328) :
    Calls Try.prog 38 #[.int .i64 m, v, u] w fun e w' => ∃ r, e = .returned r ∧ Tq.OwnH w' w.heap.size r (Tk.sortH m (C.map fun c => trueH m L c.2)) ∧ Below w.heap.size w w' := by
  obtain ⟨pt, ct, rfl, hct⟩ := cands_row hu
  obtain ⟨pv, cv, hvf⟩ := hv.form
  obtain ⟨R, hR⟩ : ∃ R, R = C.map fun c => trueH m L c.2 := ⟨_, rfl⟩
  have HRL : Hid (R.length = C.length) := Lib.hid (by rw [hR]; simp)
  have hat : ∀ k, k < C.length → ∃ e : Ca, R[k]? = some (trueH m L e.2) ∧ (∀ wr, Below w.heap.size w wr → Calls Try.prog 53 #[.int .i64 m, v, .slice e.2.p e.2.n e.2.c] wr fun e' w' => e' = .returned (.tuple #[.int .i64 (scQ L e.2.V m), .int .i64 (scE L e.2.V m)]) ∧ Below wr.heap.size wr w') ∧
      ∃ b off, pt = some ⟨b, off, none⟩ ∧ ∀ wr, Below w.heap.size w wr → (wr.cell? ⟨b, off + k * 4, none⟩ = some (.int .i64 e.1.1) ∧ wr.cell? ⟨b, off + k * 4 + 1, none⟩ = some (.int .i64 e.1.2)) ∧ wr.cell? ⟨b, off + k * 4 + 2, none⟩ = some (.int .i64 e.2.id) ∧ wr.cell? ⟨b, off + k * 4 + 3, none⟩ = some (.slice e.2.p e.2.n e.2.c) := fun k hk => by
    have he : C[k]? = some C[k] := List.getElem?_eq_getElem hk
    have hm := hC _ (List.getElem_mem hk)
    obtain ⟨b, off, h1, _, h2⟩ := hct k _ he
    exact ⟨C[k], by rw [hR]; simp [hk], fun wr hw => score_any L _ v _ m wr (hv.below hw) (hm.1.below hw) hL hm.2, b, off, h1, h2⟩
  have HAT := Lib.hid hat
  obtain ⟨o, hmk, hl0⟩ := make_hits C.length (by omega) w w.heap.size (Nat.le_refl _)
  have HMK := Lib.hid hmk
  have HL0 := Lib.hid hl0
  have HB1 : Hid (Below w.heap.size w (w.alloc o)) := Lib.hid (fresh_alloc _ _)
  rw [← hR]
  subst hvf
  clear hct hu hv hC hL hat hmk hl0 hR
  have hnb : C.length ≤ 8796093022208 := by omega
  have HNB := Lib.hid hnb
  clear hn
  generalize C.length = n at *
  go_enter Try.func38, Try.ntmps38
  go_wp2_with fail
  rw [HMK.out]
  go_wp2_with fail
  have HBL : Hid (w.heap.size < (w.alloc o).heap.size) := Lib.hid (by simp)
  generalize w.alloc o = W1 at *
  clear HMK
  go_loopw [17] (fun i wr => ∃ k : Nat, k ≤ n ∧ i = .int .i64 k ∧ Below w.heap.size w wr ∧ W1.heap.size ≤ wr.heap.size ∧ OwnHk wr w.heap.size (.slice (some ⟨w.heap.size, 0, none⟩) n n) (R.take k ++ List.replicate (n - k) (0, 0))) (fun i _ => n - (intOf i).toNat)
  case atStart => exact ⟨0, Nat.zero_le _, rfl, HB1.out, Nat.le_refl _, by simpa using HL0.out⟩
  case round =>
    obtain ⟨k, hk, rfl, hbw, hsz, how⟩ := hrel
    obtain ⟨wo, rfl⟩ : ∃ wo : World, wo = wr := ⟨_, rfl⟩
    have HBW := Lib.hid hbw
    have HSZ := Lib.hid hsz
    have HOW := Lib.hid how
    have HKN := Lib.hid hk
    by_cases hlt : k < n
    · obtain ⟨e, hRk, hsc, b, off, rfl, hcells⟩ := HAT.out k hlt
      obtain ⟨⟨y0, y1⟩, y2, y3⟩ := hcells wo hbw
      have hRk' : R[k]? = some ((e.2.id, scQ L e.2.V m) : Tk.Ht) := hRk
      have HRK := Lib.hid hRk'
      have HSC := Lib.hid hsc
      have HLT := Lib.hid hlt
      obtain ⟨⟨hid, hsco⟩, id, p, n', c', V⟩ := e
      simp only at y0 y1 y2 y3 HRK HSC
      clear hcells hRk hRk' hsc hbw hsz how
      go_upto_region 5 with fail
      have hbo : Below w.heap.size w (wo.alloc (.cells #[.int .i64 hid, .int .i64 hsco, .int .i64 id, .slice p n' c'] 90)) := HBW.out.alloc HBW.out.size _
      have ho1 := own_below HOW.out (fresh_alloc wo (.cells #[.int .i64 hid, .int .i64 hsco, .int .i64 id, .slice p n' c'] 90))
      have HBK : Hid (∀ W, Below (wo.alloc (.cells #[.int .i64 hid, .int .i64 hsco, .int .i64 id, .slice p n' c'] 90)).heap.size (wo.alloc (.cells #[.int .i64 hid, .int .i64 hsco, .int .i64 id, .slice p n' c'] 90)) W → W.cell? ⟨wo.heap.size, 2, none⟩ = some (.int .i64 id) ∧ W.cell? ⟨wo.heap.size, 3, none⟩ = some (.slice p n' c')) := Lib.hid (fun W hW => by
        have h := (hW.block wo.heap.size (by simp)).trans (heap_last wo (.cells #[.int .i64 hid, .int .i64 hsco, .int .i64 id, .slice p n' c'] 90))
        exact ⟨by rw [Lib.cell_of_heap h]; rfl, by rw [Lib.cell_of_heap h]; rfl⟩)
      have hs1 : wo.heap.size ≤ (wo.alloc (.cells #[.int .i64 hid, .int .i64 hsco, .int .i64 id, .slice p n' c'] 90)).heap.size := by simp
      obtain ⟨z0, z1⟩ := HBK.out _ (Below.refl _ _)
      generalize wo.alloc (.cells #[.int .i64 hid, .int .i64 hsco, .int .i64 id, .slice p n' c'] 90) = w1 at *
      have HB1' := Lib.hid hbo
      have HO1 := Lib.hid ho1
      have HS1 := Lib.hid hs1
      clear hbo ho1 hs1 y0 y1 y2 y3
      go_wp2_with fail
      refine (HSC.out w1 HB1'.out).mono ?_
      rintro e w4 ⟨rfl, hb4⟩
      have hw4 := HB1'.out.trans (hb4.mono HB1'.out.size)
      obtain ⟨z0, z1⟩ := HBK.out w4 hb4
      have ho4 := own_below HO1.out hb4
      obtain ⟨⟨y, ⟨q0, f0⟩, q1, f1⟩, hput⟩ := put_hit ho4 k (by rw [fill_len HKN.out HRL.out]; exact hlt)
      have h5 := hput (id, scQ L V m)
      rw [fill_set hlt HRL.out HRK.out] at h5
      have HPUT := Lib.hid h5
      have HB5 := Lib.hid hw4
      have HZ5 : Hid (W1.heap.size ≤ w4.heap.size) := Lib.hid (Nat.le_trans HSZ.out (Nat.le_trans HS1.out hb4.size))
      clear hput h5 hb4 hw4 ho4 HSC HRK
      generalize scQ L V m = sc at *
      generalize scE L V m = se at *
      go_wp2_with fail
      go_roundw
      case rel => exact ⟨k + 1, HLT.out, by first | rfl | go_num, (HB5.out.setCell (p := ⟨w.heap.size, k * 2, none⟩) (Nat.le_refl _) _).setCell (p := ⟨w.heap.size, k * 2 + 1, none⟩) (Nat.le_refl _) _, by simpa using HZ5.out, HPUT.out⟩
      case measure => have := HLT.out; simp only [intOf]; omega
    · obtain rfl : k = n := by omega
      rw [fill_all HRL.out] at how
      have C := Lib.hid (Tq.sort_any m R _ wo (Tq.own_hsP (ownHk how)) (by rw [HRL.out]; have := HNB.out; omega))
      clear how
      go_wp2_with fail
      refine C.out.mono ?_
      rintro e w5 ⟨r, rfl, ho, hb⟩
      have HF := Lib.hid (HBW.out.trans (hb.mono HBW.out.size))
      have HO := Lib.hid (Go.Joins.ownsRow_le ho HBW.out.size)
      clear ho hb
      go_wp2_with fail
      go_ret
      exact ⟨_, rfl, HO.out, HF.out⟩
end Sc
end Go.Proofs.Ytfgmkdghpdpdkaa
