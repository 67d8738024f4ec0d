/- scalar's rough. Conditions: those that each theorem names. -/
import Derived.Test.YtfgmkdghpdpdkaaScN
import Derived.Test.YtfgmkdghpdpdkaaScH
namespace Go.Proofs.Ytfgmkdghpdpdkaa
set_option linter.unusedVariables false
open Go Go.RowKit Go.Shelf Go.Sort Vc Rk
namespace Sc
noncomputable def scQ (a b : List Int) (m : Int) : Int := @ite _ (scoreOk a b m) (Classical.propDecidable _) (scoreV a b m) 0
noncomputable def scE (a b : List Int) (m : Int) : Int := @ite _ (scoreOk a b m) (Classical.propDecidable _) 0 60
theorem scQ_yes {a b : List Int} {m : Int} (h : scoreOk a b m) : scQ a b m = scoreV a b m := if_pos h
theorem scE_yes {a b : List Int} {m : Int} (h : scoreOk a b m) : scE a b m = 0 := if_pos h
theorem score_any (a b : List Int) (u v : Value) (m : Int) (w : World) (hu : IntsAt w u a) (hv : IntsAt w v b) (ha : a.length ≤ maxLen) (hb : b.length ≤ maxLen) :
    Calls Try.prog 53 #[.int .i64 m, u, v] w fun e w' => e = .returned (.tuple #[.int .i64 (scQ a b m), .int .i64 (scE a b m)]) ∧ Below w.heap.size w w' := by
  unfold scQ scE
  by_cases h : scoreOk a b m
  · rw [if_pos h, if_pos h]; exact Score_yes a b u v m w hu hv h
  · rw [if_neg h, if_neg h]; exact Score_no a b u v m w hu hv ha hb h
/-- What is left of an item by its code, and its candidate. -/
def leftL (S : List Sp) (V : List Int) : List Int := decL S (encL S V)
noncomputable def caOf (m : Int) (S : List Sp) (L : List Int) (e : It) : Ca := ((e.id, scQ L (leftL S e.V) m), e)
theorem items_row {w : World} {v : Value} {E : List It} (h : RowAt encT 2 w v E) : ∃ p c, v = .slice p E.length c ∧ ∀ (k : Nat) e, E[k]? = some e → ∃ b off, p = some ⟨b, off, none⟩ ∧ b < w.heap.size ∧
    ∀ wr, Below w.heap.size w wr → wr.cell? ⟨b, off + k * 2, none⟩ = some (.int .i64 e.id) ∧ wr.cell? ⟨b, off + k * 2 + 1, none⟩ = some (.slice e.p e.n e.c) := by
  rcases h with ⟨rfl, p, c, rfl⟩ | ⟨b, off, c, e, hb, hc⟩
  · exact ⟨p, c, rfl, fun k s hs => by simp at hs⟩
  · refine ⟨_, c, e, fun k s hs => ⟨b, off, rfl, hb, fun wr hw => ?_⟩⟩
    obtain ⟨hk, rfl⟩ := List.getElem?_eq_some_iff.1 hs
    exact ⟨hc wr (hw.block b hb) k hk 0 _ rfl, hc wr (hw.block b hb) k hk 1 _ rfl⟩
theorem make_cands (n : Nat) (hn : n * 48 ≤ 281474976710656) (w : World) (base : Nat) (hb : base ≤ w.heap.size) :
    ∃ o, (Instr.makeSlice 78 (.int .i64 (n : Int)) (.int .i64 (n : Int))).run Try.prog w = .ok (.slice (some ⟨w.heap.size, 0, none⟩) n n) (w.alloc o) ∧ OwnC (w.alloc o) base (.slice (some ⟨w.heap.size, 0, none⟩) n n) (List.replicate n ((0, 0), default)) := by
  obtain ⟨i0, hi, hz0, hz1, hz2⟩ := info_parts infoC
  exact Rk.make_own flatC i0 _ hi hz0 hz1 hz2 ((0, 0), default) rfl n (by omega) (by unfold maxLen; omega) w base hb
/-- A store of a candidate into a row of one's own. -/
theorem put_cand {w : World} {base B n c : Nat} {S : List Ca} (h : OwnC w base (.slice (some ⟨B, 0, none⟩) n c) S) (k : Nat) (hk : k < S.length) :
    (∃ y : Ca, (w.cell? ⟨B, k * 4, none⟩ = some (.int .i64 y.1.1) ∧ w.frozen? ⟨B, k * 4, none⟩ = false) ∧ (w.cell? ⟨B, k * 4 + 1, none⟩ = some (.int .i64 y.1.2) ∧ w.frozen? ⟨B, k * 4 + 1, none⟩ = false) ∧ (w.cell? ⟨B, k * 4 + 2, none⟩ = some (.int .i64 y.2.id) ∧ w.frozen? ⟨B, k * 4 + 2, none⟩ = false) ∧ w.cell? ⟨B, k * 4 + 3, none⟩ = some (.slice y.2.p y.2.n y.2.c) ∧ w.frozen? ⟨B, k * 4 + 3, none⟩ = false) ∧
    ∀ s : Ca, OwnC ((((w.setCell ⟨B, k * 4, none⟩ (.int .i64 s.1.1)).setCell ⟨B, k * 4 + 1, none⟩ (.int .i64 s.1.2)).setCell ⟨B, k * 4 + 2, none⟩ (.int .i64 s.2.id)).setCell ⟨B, k * 4 + 3, none⟩ (.slice s.2.p s.2.n s.2.c)) base (.slice (some ⟨B, 0, none⟩) n c) (S.set k s) := by
  have k0 := Rk.own_cell flatC h k hk (i := 0) (u := .int .i64 S[k].1.1) rfl
  have k1 := Rk.own_cell flatC h k hk (i := 1) (u := .int .i64 S[k].1.2) rfl
  have k2 := Rk.own_cell flatC h k hk (i := 2) (u := .int .i64 S[k].2.id) rfl
  have k3 := Rk.own_cell flatC h k hk (i := 3) (u := .slice S[k].2.p S[k].2.n S[k].2.c) rfl
  rw [Nat.add_zero] at k0
  exact ⟨⟨S[k], k0, k1, k2, k3⟩, fun s => Rk.own_put flatC h k hk s⟩
theorem left_len {S : List Sp} {V : List Int} (h : S.length = V.length) : (leftL S V).length = S.length := by
  unfold leftL; rw [dec_len (by rw [enc_len h])]
set_option maxHeartbeats 8000000 in
set_option maxRecDepth 100000 in
theorem rough_any (m : Int) (S : List Sp) (L : List Int) (E : List It) (u v t : Value) (w : World) (hu : RowAt encS 2 w u S) (hv : IntsAt w v L) (ht : RowAt encT 2 w t E) (hE : ∀ e ∈ E, ItW w e) (hS1 : 1 ≤ S.length) (hS64 : S.length ≤ 64) (hSo : ∀ s ∈ S, OkS s)
    (hL : L.length ≤ maxLen) (hEv : ∀ e ∈ E, vecB e.V = true ∧ e.V.length = S.length) (hn : E.length * 48 ≤ 281474976710656) :
    Calls Try.prog 40 #[.int .i64 m, u, v, t] w fun e w' => ∃ r, e = .returned r ∧ OwnC w' w.heap.size r (E.map (caOf m S L)) ∧ Below w.heap.size w w' := by
  obtain ⟨pt, ct, rfl, hct⟩ := items_row ht
  obtain ⟨ps, cs, hsf⟩ := hu.form
  obtain ⟨pv, cv, hvf⟩ := hv.form
  obtain ⟨R, hR⟩ : ∃ R, R = E.map (caOf m S L) := ⟨_, rfl⟩
  have HRL : Hid (R.length = E.length) := Lib.hid (by rw [hR]; simp)
  have hat : ∀ k, k < E.length → ∃ e : It, R[k]? = some (caOf m S L e) ∧ (∀ wr, Below w.heap.size w wr → IntsAt wr (.slice e.p e.n e.c) e.V) ∧ vecB e.V = true ∧ e.V.length = S.length ∧
      ∃ b off, pt = some ⟨b, off, none⟩ ∧ ∀ wr, Below w.heap.size w wr → wr.cell? ⟨b, off + k * 2, none⟩ = some (.int .i64 e.id) ∧ wr.cell? ⟨b, off + k * 2 + 1, none⟩ = some (.slice e.p e.n e.c) := fun k hk => by
    have he : E[k]? = some E[k] := List.getElem?_eq_getElem hk
    have hm := List.getElem_mem hk
    obtain ⟨b, off, h1, _, h2⟩ := hct k _ he
    exact ⟨E[k], by rw [hR]; simp [hk], fun wr hw => (hE _ hm).below hw, (hEv _ hm).1, (hEv _ hm).2, b, off, h1, h2⟩
  have HAT := Lib.hid hat
  obtain ⟨o, hmk, hl0⟩ := make_cands E.length hn w w.heap.size (Nat.le_refl _)
  have HMK := Lib.hid hmk
  have HL0 := Lib.hid hl0
  have HB1 : Hid (Below w.heap.size w (w.alloc o)) := Lib.hid (fresh_alloc _ _)
  have HEN : Hid (∀ (V : List Int) (x : Value) W, Below w.heap.size w W → IntsAt W x V → vecB V = true → V.length = S.length → Calls Try.prog 27 #[u, x] W fun e w' => e = .returned (.string (tx (encL S V))) ∧ Below W.heap.size W w') := Lib.hid (fun V x W hW hx hvB hVl =>
    encode_any S V u x W (hu.below hW) hx hVl.symm hS1 hS64 hSo (vec_in hvB))
  have HDE : Hid (∀ (V : List Int) W, Below w.heap.size w W → V.length = S.length → Calls Try.prog 31 #[u, .string (tx (encL S V))] W fun e w' => ∃ v, e = .returned v ∧ OwnN w' W.heap.size v (leftL S V) ∧ Below W.heap.size W w') := Lib.hid (fun V W hW hVl =>
    decode_any S (encL S V) u W (hu.below hW) (enc_len hVl.symm).symm hS64 hSo)
  have HSC : Hid (∀ (V : List Int) (x : Value) W, Below w.heap.size w W → IntsAt W x (leftL S V) → V.length = S.length → Calls Try.prog 53 #[.int .i64 m, v, x] W fun e w' => e = .returned (.tuple #[.int .i64 (scQ L (leftL S V) m), .int .i64 (scE L (leftL S V) m)]) ∧ Below W.heap.size W w') := Lib.hid (fun V x W hW hx hVl =>
    score_any L (leftL S V) v x m W (hv.below hW) hx hL (by rw [left_len hVl.symm]; unfold maxLen; omega))
  have HNN : Hid (E.length ≤ 9223372036854775806) := Lib.hid (by omega)
  rw [← hR]
  subst hsf; subst hvf
  clear hct hu hv ht hE hS1 hS64 hSo hL hEv hat hmk hl0 hR
  have hnb : E.length ≤ 5864062014805 := by omega
  clear hn
  generalize E.length = n at *
  go_enter Try.func40, Try.ntmps40
  go_wp2_with fail
  rw [HMK.out]
  go_wp2_with fail
  have HBL : Hid (w.heap.size < (w.alloc o).heap.size) := Lib.hid (by simp)
  generalize w.alloc o = W1 at *
  clear HMK
  go_loopw [20] (fun i wr => ∃ k : Nat, k ≤ n ∧ i = .int .i64 k ∧ Below w.heap.size w wr ∧ W1.heap.size ≤ wr.heap.size ∧ OwnC wr w.heap.size (.slice (some ⟨w.heap.size, 0, none⟩) n n) (R.take k ++ List.replicate (n - k) ((0, 0), default))) (fun i _ => n - (intOf i).toNat)
  case atStart => exact ⟨0, Nat.zero_le _, rfl, HB1.out, Nat.le_refl _, by simpa using HL0.out⟩
  case round =>
    obtain ⟨k, hk, rfl, hbw, hsz, how⟩ := hrel
    obtain ⟨wo, rfl⟩ : ∃ wo : World, wo = wr := ⟨_, rfl⟩
    have HBW := Lib.hid hbw
    have HSZ := Lib.hid hsz
    have HOW := Lib.hid how
    have HKN := Lib.hid hk
    by_cases hlt : k < n
    · obtain ⟨e, hRk, hit, hvB, hVl, b, off, rfl, hcells⟩ := HAT.out k hlt
      obtain ⟨y1, y2⟩ := hcells wo hbw
      have HRK := Lib.hid hRk
      have HIT := Lib.hid hit
      have HVV := Lib.hid (And.intro hvB hVl)
      have HLT := Lib.hid hlt
      obtain ⟨id, p, n', c', V⟩ := e
      simp only at y1 y2
      clear hcells hRk hit hvB hVl hbw hsz how
      go_upto_region 5 with fail
      have hbo : Below w.heap.size w (wo.alloc (.cells #[.int .i64 id, .slice p n' c'] 49)) := HBW.out.alloc HBW.out.size _
      have ho1 := own_below HOW.out (fresh_alloc wo (.cells #[.int .i64 id, .slice p n' c'] 49))
      have HBK : Hid (∀ W, Below (wo.alloc (.cells #[.int .i64 id, .slice p n' c'] 49)).heap.size (wo.alloc (.cells #[.int .i64 id, .slice p n' c'] 49)) W → W.cell? ⟨wo.heap.size, 0, none⟩ = some (.int .i64 id) ∧ W.cell? ⟨wo.heap.size, 1, none⟩ = some (.slice p n' c')) := Lib.hid (fun W hW => by
        have h := (hW.block wo.heap.size (by simp)).trans (heap_last wo (.cells #[.int .i64 id, .slice p n' c'] 49))
        exact ⟨by rw [Lib.cell_of_heap h]; rfl, by rw [Lib.cell_of_heap h]; rfl⟩)
      have hs1 : wo.heap.size ≤ (wo.alloc (.cells #[.int .i64 id, .slice p n' c'] 49)).heap.size := by simp
      obtain ⟨z0, z1⟩ := HBK.out _ (Below.refl _ _)
      generalize wo.alloc (.cells #[.int .i64 id, .slice p n' c'] 49) = w1 at *
      have HB1' := Lib.hid hbo
      have HO1 := Lib.hid ho1
      have HS1 := Lib.hid hs1
      clear hbo ho1 hs1 y1 y2
      go_wp2_with fail
      refine (HEN.out V (.slice p n' c') w1 HB1'.out (HIT.out w1 HB1'.out) HVV.out.1 HVV.out.2).mono ?_
      rintro e w2 ⟨rfl, hb2⟩
      have HB2 := Lib.hid hb2
      have HW2 := Lib.hid (HB1'.out.trans (hb2.mono HB1'.out.size))
      clear hb2
      go_wp2_with fail
      refine (HDE.out V w2 HW2.out HVV.out.2).mono ?_
      rintro e w3 ⟨x, rfl, hox, hb3⟩
      have hw3 := HW2.out.trans (hb3.mono HW2.out.size)
      have hb13 := HB2.out.trans (hb3.mono HB2.out.size)
      obtain ⟨px, cx, hxf⟩ := (ownN_own hox).at.form
      have hx := (ownN_own hox).at
      subst hxf
      have HX := Lib.hid hx
      have HW3 := Lib.hid hw3
      have HB13 := Lib.hid hb13
      obtain ⟨z0, z1⟩ := HBK.out w3 hb13
      clear hx hox hb3 hw3 hb13
      generalize (leftL S V).length = nl at *
      go_wp2_with fail
      refine (HSC.out V _ w3 HW3.out HX.out HVV.out.2).mono ?_
      rintro e w4 ⟨rfl, hb4⟩
      have hb14 := HB13.out.trans (hb4.mono HB13.out.size)
      have hw4 := HW3.out.trans (hb4.mono HW3.out.size)
      obtain ⟨z0, z1⟩ := HBK.out w4 hb14
      have ho4 := own_below HO1.out hb14
      obtain ⟨⟨y, ⟨q0, f0⟩, ⟨q1, f1⟩, ⟨q2, f2⟩, q3, f3⟩, hput⟩ := put_cand ho4 k (by rw [fill_len HKN.out HRL.out]; exact hlt)
      have hRk' : R[k]? = some (((id, scQ L (leftL S V) m), (⟨id, p, n', c', V⟩ : It)) : Ca) := HRK.out
      have h5 := hput ((id, scQ L (leftL S V) m), ⟨id, p, n', c', V⟩)
      rw [fill_set hlt HRL.out hRk'] at h5
      clear hRk'
      have HPUT := Lib.hid h5
      have HB5 := Lib.hid hw4
      have HZ5 : Hid (W1.heap.size ≤ w4.heap.size) := Lib.hid (Nat.le_trans HSZ.out (Nat.le_trans HS1.out hb14.size))
      clear hput h5 hb4 hb14 hw4 ho4
      generalize scQ L (leftL S V) m = sc at *
      generalize scE L (leftL S V) m = se at *
      go_wp2_with fail
      go_roundw
      case rel => exact ⟨k + 1, HLT.out, by first | rfl | go_num, (((HB5.out.setCell (p := ⟨w.heap.size, k * 4, none⟩) (Nat.le_refl _) _).setCell (p := ⟨w.heap.size, k * 4 + 1, none⟩) (Nat.le_refl _) _).setCell (p := ⟨w.heap.size, k * 4 + 2, none⟩) (Nat.le_refl _) _).setCell (p := ⟨w.heap.size, k * 4 + 3, none⟩) (Nat.le_refl _) _, by simpa using HZ5.out, HPUT.out⟩
      case measure => have := HLT.out; simp only [intOf]; omega
    · obtain rfl : k = n := by omega
      rw [fill_all HRL.out] at how
      have HF := Lib.hid how
      clear how
      go_wp2_with fail
      go_ret
      exact ⟨_, rfl, HF.out, HBW.out⟩
end Sc
end Go.Proofs.Ytfgmkdghpdpdkaa
