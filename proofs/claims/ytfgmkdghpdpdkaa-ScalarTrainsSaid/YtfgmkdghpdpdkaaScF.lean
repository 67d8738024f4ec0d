/- scalar's quantizer. Conditions: those that each theorem names. -/
import Derived.Test.YtfgmkdghpdpdkaaScE
namespace Go.Proofs.Ytfgmkdghpdpdkaa
set_option linter.unusedVariables false
open Go Go.RowKit Vc Rk
namespace Sc
/-- One number behind a row of one's own. -/
theorem grow_row {w : World} {base : Nat} {v : Value} {A : List Int} (x : Int) (h : OwnN w base v A) (hA : A.length ≤ 1099511627775) (hbase : base ≤ w.heap.size) :
    ∃ g cap w', (∀ ty, (Builtin.append_ #[23, 23] ty #[v, .slice (some ⟨w.heap.size, 0, none⟩) 1 1]).run Try.prog (w.alloc (.cells #[.int .i64 x] 3)) = .ok (.slice (some ⟨g, 0, none⟩) (A.length + 1) cap) w') ∧
      OwnN w' base (.slice (some ⟨g, 0, none⟩) (A.length + 1) cap) (A ++ [x]) ∧ (v.ownBlock = some g ∨ g = w.heap.size + 1) ∧ Below base w w' ∧ (∀ j, j < w.heap.size → v.ownBlock ≠ some j → w'.heap[j]? = w.heap[j]?) ∧ w.heap.size ≤ w'.heap.size := by
  have hb1 := fresh_alloc w (.cells #[.int .i64 x] 3)
  obtain ⟨v', w', hr, ho, hg, hv, g, cap, e, h1, h2⟩ := append_el flatI (own_below h hb1) (heap_last w (.cells #[.int .i64 x] 3)) (x := x) (by omega) (by unfold maxLen; omega) (by simp; omega)
  subst e
  refine ⟨g, cap, w', hr, ho, ?_, ((Below.refl base w).alloc hbase _).grown hg (by simp; omega) (fun j hj => (own_block h j hj).1), fun j hj hne => (hg.block j (by simp; omega) (fun e => hne (by rw [e]))).trans (heap_old _ _ hj), Nat.le_trans (by simp) hg.size⟩
  rcases hv with hv | hv
  · left; rw [← hv]; rfl
  · right
    simp [Value.ownBlock] at hv
    exact hv
theorem two_at {w : World} {g : Nat} {a b : Value} {T : TypeId} (h : w.heap[g]? = some (.cells #[a, b] T (0, 0))) :
    (w.cell? ⟨g, 0, none⟩ = some a ∧ w.frozen? ⟨g, 0, none⟩ = false) ∧ w.cell? ⟨g, 1, none⟩ = some b ∧ w.frozen? ⟨g, 1, none⟩ = false := by
  refine ⟨⟨?_, Lib.frozen_of_heap h 0⟩, ?_, Lib.frozen_of_heap h 1⟩ <;> rw [Lib.cell_of_heap h] <;> rfl
theorem two_set0 {w : World} {g : Nat} {a b x : Value} {T : TypeId} (h : w.heap[g]? = some (.cells #[a, b] T (0, 0))) : (w.setCell ⟨g, 0, none⟩ x).heap[g]? = some (.cells #[x, b] T (0, 0)) := by
  rw [heap_setCell_same _ _ _ _ _ _ h]; rfl
theorem two_set1 {w : World} {g : Nat} {a b x : Value} {T : TypeId} (h : w.heap[g]? = some (.cells #[a, b] T (0, 0))) : (w.setCell ⟨g, 1, none⟩ x).heap[g]? = some (.cells #[a, x] T (0, 0)) := by
  rw [heap_setCell_same _ _ _ _ _ _ h]; rfl
set_option maxHeartbeats 4000000 in
set_option maxRecDepth 100000 in
theorem quantizer_any (S : List Sp) (u : Value) (w : World) (hu : RowAt encS 2 w u S) (h64 : S.length ≤ 64) :
    Calls Try.prog 24 #[u] w fun e w' => ∃ a b, e = .returned (.agg #[a, b]) ∧ OwnN w' w.heap.size a (S.map Prod.fst) ∧ OwnN w' w.heap.size b (S.map Prod.snd) ∧ Below w.heap.size w w' := by
  obtain ⟨p, c, rfl, hc⟩ := spans_row hu
  have HC := Lib.hid hc
  have H64 := Lib.hid h64
  obtain ⟨n, hn⟩ : ∃ n, n = S.length := ⟨_, rfl⟩
  have HN := Lib.hid hn
  rw [← hn] at h64 ⊢
  clear hc hu hn
  go_enter Try.func24, Try.ntmps24
  go_wp2_with fail
  obtain ⟨W1, hW1⟩ : ∃ W1, W1 = (w.alloc (.cells #[.slice none 0 0, .slice none 0 0] 25)).alloc (.cells #[.slice none 0 0, .slice none 0 0] 25) := ⟨_, rfl⟩
  have hz2 : W1.heap[w.heap.size]? = some (.cells #[.slice none 0 0, .slice none 0 0] 25 (0, 0)) := by rw [hW1, heap_old _ _ (by simp)]; exact heap_last _ _
  have hz3 : W1.heap[w.heap.size + 1]? = some (.cells #[.slice none 0 0, .slice none 0 0] 25 (0, 0)) := by
    have h := heap_last (w.alloc (.cells #[.slice none 0 0, .slice none 0 0] 25)) (.cells #[.slice none 0 0, .slice none 0 0] 25)
    rw [show (w.alloc (.cells #[.slice none 0 0, .slice none 0 0] 25)).heap.size = w.heap.size + 1 by simp, ← hW1] at h
    exact h
  have hs1 : W1.heap.size = w.heap.size + 2 := by rw [hW1]; simp
  have hb1 : Below w.heap.size w W1 := by rw [hW1]; exact ((Below.refl _ w).alloc (Nat.le_refl _) _).alloc (by simp) _
  have HZ2 := Lib.hid hz2
  have HZ3 := Lib.hid hz3
  have HS1 := Lib.hid hs1
  have HB1 := Lib.hid hb1
  rw [← hW1]
  clear hW1 hz2 hz3 hs1 hb1
  go_loopw [8] (fun i wr => ∃ k : Nat, k ≤ n ∧ i = .int .i64 k ∧ (Below w.heap.size w wr ∧ W1.heap.size ≤ wr.heap.size ∧ wr.heap[w.heap.size]? = some (.cells #[.slice none 0 0, .slice none 0 0] 25 (0, 0))) ∧ ∃ lv hv, wr.heap[w.heap.size + 1]? = some (.cells #[lv, hv] 25 (0, 0)) ∧
    OwnN wr W1.heap.size lv ((S.map Prod.fst).take k) ∧ OwnN wr W1.heap.size hv ((S.map Prod.snd).take k) ∧ ∀ g, lv.ownBlock = some g → hv.ownBlock ≠ some g) (fun i _ => n - (intOf i).toNat)
  case atStart => exact ⟨0, Nat.zero_le _, rfl, ⟨HB1.out, Nat.le_refl _, HZ2.out⟩, _, _, HZ3.out, own_none _ _, own_none _ _, fun g hg => by cases hg⟩
  case round =>
    obtain ⟨k, hk, rfl, ⟨hbw, hsz, hz2⟩, lv, hv, hz3, hol, hoh, hne⟩ := hrel
    obtain ⟨wo, rfl⟩ : ∃ wo : World, wo = wr := ⟨_, rfl⟩
    have HBW := Lib.hid hbw
    have HSZ := Lib.hid hsz
    have HY2 := Lib.hid hz2
    have HY3 := Lib.hid hz3
    have HOL := Lib.hid hol
    have HOH := Lib.hid hoh
    have HNE := Lib.hid hne
    by_cases hlt : k < n
    · have hkS : k < S.length := by rw [← HN.out]; exact hlt
      obtain ⟨b, off, rfl, hbs, hcells⟩ := HC.out k S[k] (List.getElem?_eq_getElem hkS)
      obtain ⟨y1, y2⟩ := hcells wo hbw
      have hx1 : (S.map Prod.fst)[k]? = some S[k].1 := by simp [hkS]
      have hx2 : (S.map Prod.snd)[k]? = some S[k].2 := by simp [hkS]
      generalize S[k] = s at *
      obtain ⟨lo, hi⟩ := s
      simp only at y1 y2 hx1 hx2
      have HLT := Lib.hid hlt
      have HX1 : Hid ((S.map Prod.fst).take k ++ [lo] = (S.map Prod.fst).take (k + 1)) := Lib.hid (by rw [List.take_add_one, hx1]; rfl)
      have HX2 : Hid ((S.map Prod.snd).take k ++ [hi] = (S.map Prod.snd).take (k + 1)) := Lib.hid (by rw [List.take_add_one, hx2]; rfl)
      have hl1 : ((S.map Prod.fst).take k).length = k := by simp; omega
      have hl2 : ((S.map Prod.snd).take k).length = k := by simp; omega
      have HL1 := Lib.hid hl1
      have HL2 := Lib.hid hl2
      have HBN : Hid (k ≤ 64) := Lib.hid (by omega)
      clear hcells hbs hx1 hx2 hl1 hl2 hbw hsz hz2 hz3 hol hoh hne
      go_upto_region 5 with fail
      have hso := heap_last wo (spO (lo, hi))
      have hbo := fresh_alloc wo (spO (lo, hi))
      have hlz := lt_of_block HY3.out
      have h3 := (heap_old wo (spO (lo, hi)) hlz).trans HY3.out
      obtain ⟨g1, cap1, w3, hr1, ho1, hv1, hbl1, hk1, hsz1⟩ := grow_row lo (own_below HOL.out hbo) (by rw [HL1.out]; have := HBN.out; omega) (Nat.le_trans HSZ.out hbo.size)
      rw [HL1.out] at hr1 ho1
      rw [HX1.out] at ho1
      have hlne : ∀ j, j < W1.heap.size → lv.ownBlock ≠ some j := fun j hj e => by have := (own_block HOL.out j e).1; omega
      have hS1 := HS1.out
      have h3b := (hk1 (w.heap.size + 1) (by simp; omega) (hlne _ (by omega))).trans h3
      have hs3 := (hk1 wo.heap.size (by simp) (fun e => by have := (own_block HOL.out _ e).2; omega)).trans hso
      have hoh3 := own_keep (own_below HOH.out hbo) (w' := w3) (fun g hg hl => hk1 g hl (fun e => HNE.out g e hg))
      have hz2b := (hk1 w.heap.size (by simp; omega) (hlne _ (by omega))).trans ((heap_old wo (spO (lo, hi)) (by omega)).trans HY2.out)
      have hg1 : W1.heap.size ≤ g1 := (own_block ho1 g1 rfl).1
      have hne1 : hv.ownBlock ≠ some g1 := fun e => by
        have h9 := (own_block HOH.out g1 e).2
        rcases hv1 with h | h
        · exact HNE.out g1 h e
        · simp at h; omega
      obtain ⟨z0, z1⟩ := sp_box wo (lo, hi)
      obtain ⟨⟨d0, f0⟩, d1, f1⟩ := two_at h3
      obtain ⟨⟨d2, f2⟩, d3, f3⟩ := two_at h3b
      have z1o : ∀ o, ((wo.alloc (spO (lo, hi))).alloc o).cell? ⟨w.heap.size + 1, 0, none⟩ = some lv := fun o => by
        rw [← d0]; exact World.cell?_of_block (heap_old _ o (by simp; omega))
      rw [show Obj.cells #[Value.int IntKind.i64 lo, Value.int IntKind.i64 hi] 72 = spO (lo, hi) from rfl]
      have HBO : Hid (Below w.heap.size w w3) := Lib.hid ((HBW.out.trans (hbo.mono HBW.out.size)).trans (hbl1.mono (by omega)))
      have hw1s : wo.heap.size < (wo.alloc (spO (lo, hi))).heap.size := by simp
      generalize wo.alloc (spO (lo, hi)) = w1 at *
      have hlt3 : w.heap.size + 1 < w3.heap.size := by omega
      obtain ⟨⟨r0, _⟩, r1, _⟩ := two_at hs3
      -- the second append
      have HW3 := Lib.hid hsz1
      have HO1 := Lib.hid ho1
      have HS3 := Lib.hid hs3
      have HZ2B := Lib.hid hz2b
      have HH3 := Lib.hid hoh3
      have HNE1 := Lib.hid hne1
      have HG1 := Lib.hid hg1
      have HLZ : Hid (w.heap.size + 1 < w3.heap.size ∧ wo.heap.size < w3.heap.size) := Lib.hid ⟨hlt3, by omega⟩
      have HWO : Hid (W1.heap.size ≤ wo.heap.size) := HSZ
      have HZ3B := Lib.hid h3b
      clear hbo hso hlz h3 ho1 hv1 hbl1 hk1 hlne hs3 hoh3 hz2b hne1 hg1 h3b hw1s hlt3 hsz1
      go_upto_region 6 with (at_builtin; refine wpList_append_run rfl _ _ _ _ rfl _ _ _ _ rfl rfl hr1 ?_)
      clear hr1 z0 z1 z1o d0 f0 d1 f1 d2 f2 d3 f3 r0 r1
      have hp : ∀ j, j ≠ w.heap.size + 1 → (w3.setCell ⟨w.heap.size + 1, 0, none⟩ (.slice (some ⟨g1, 0, none⟩) (k + 1) cap1)).heap[j]? = w3.heap[j]? := fun j hj => heap_setCell_other _ _ _ _ (by simpa using hj)
      have h4 := two_set0 (x := .slice (some ⟨g1, 0, none⟩) (k + 1) cap1) HZ3B.out
      have hB4 : Below w.heap.size w (w3.setCell ⟨w.heap.size + 1, 0, none⟩ (.slice (some ⟨g1, 0, none⟩) (k + 1) cap1)) := HBO.out.setCell (p := ⟨w.heap.size + 1, 0, none⟩) (by simp) _
      have ho4 : OwnN (w3.setCell ⟨w.heap.size + 1, 0, none⟩ (.slice (some ⟨g1, 0, none⟩) (k + 1) cap1)) W1.heap.size (.slice (some ⟨g1, 0, none⟩) (k + 1) cap1) ((S.map Prod.fst).take (k + 1)) := own_keep HO1.out (fun g hg _ => by
        have h1 := (own_block HO1.out g hg).1
        exact hp g (by omega))
      have hh4 : OwnN (w3.setCell ⟨w.heap.size + 1, 0, none⟩ (.slice (some ⟨g1, 0, none⟩) (k + 1) cap1)) W1.heap.size hv ((S.map Prod.snd).take k) := own_keep HH3.out (fun g hg _ => by
        have h1 := (own_block HH3.out g hg).1
        exact hp g (by omega))
      have hs4 := (hp wo.heap.size (by have := HWO.out; omega)).trans HS3.out
      have hz4 := (hp w.heap.size (by omega)).trans HZ2B.out
      have hsz4 : (w3.setCell ⟨w.heap.size + 1, 0, none⟩ (.slice (some ⟨g1, 0, none⟩) (k + 1) cap1)).heap.size = w3.heap.size := by simp
      generalize w3.setCell ⟨w.heap.size + 1, 0, none⟩ (.slice (some ⟨g1, 0, none⟩) (k + 1) cap1) = w4 at *
      have hlz4 := HLZ.out
      rw [← hsz4] at hlz4
      obtain ⟨g2, cap2, w6, hr2, ho2, hv2, hbl2, hk2, hsz2⟩ := grow_row hi hh4 (by rw [HL2.out]; have := HBN.out; omega) (by have := HWO.out; omega)
      rw [HL2.out] at hr2 ho2
      rw [HX2.out] at ho2
      have hhne : ∀ j, j < W1.heap.size → hv.ownBlock ≠ some j := fun j hj e => by have := (own_block hh4 j e).1; omega
      have h6 := (hk2 (w.heap.size + 1) hlz4.1 (hhne _ (by omega))).trans h4
      have ho6 := own_keep ho4 (w' := w6) (fun g hg hl => hk2 g hl (fun e => by
        obtain rfl : g1 = g := by simpa [Value.ownBlock] using hg
        exact HNE1.out e))
      have hz6 := (hk2 w.heap.size (by omega) (hhne _ (by omega))).trans hz4
      have hne2 : g1 ≠ g2 := fun e => by
        subst e
        rcases hv2 with h | h
        · exact HNE1.out h
        · have := (own_block ho4 g1 rfl).2
          omega
      have hB6 : Below w.heap.size w w6 := hB4.trans (hbl2.mono (by omega))
      obtain ⟨⟨z0, _⟩, z1, _⟩ := two_at hs4
      obtain ⟨⟨d0, f0⟩, d1, f1⟩ := two_at h4
      obtain ⟨⟨d2, f2⟩, d3, f3⟩ := two_at h6
      have HB6 : Hid (Below w.heap.size w (w6.setCell ⟨w.heap.size + 1, 1, none⟩ (.slice (some ⟨g2, 0, none⟩) (k + 1) cap2))) := Lib.hid (hB6.setCell (p := ⟨w.heap.size + 1, 1, none⟩) (by simp) _)
      have hp6 : ∀ j, j ≠ w.heap.size + 1 → (w6.setCell ⟨w.heap.size + 1, 1, none⟩ (.slice (some ⟨g2, 0, none⟩) (k + 1) cap2)).heap[j]? = w6.heap[j]? := fun j hj => heap_setCell_other _ _ _ _ (by simpa using hj)
      have HF3 := Lib.hid (two_set1 (x := .slice (some ⟨g2, 0, none⟩) (k + 1) cap2) h6)
      have HFZ := Lib.hid ((hp6 w.heap.size (by omega)).trans hz6)
      have HFL : Hid (OwnN (w6.setCell ⟨w.heap.size + 1, 1, none⟩ (.slice (some ⟨g2, 0, none⟩) (k + 1) cap2)) W1.heap.size (.slice (some ⟨g1, 0, none⟩) (k + 1) cap1) ((S.map Prod.fst).take (k + 1))) := Lib.hid (own_keep ho6 (fun g hg _ => by
        have h1 := (own_block ho6 g hg).1
        exact hp6 g (by omega)))
      have HFH : Hid (OwnN (w6.setCell ⟨w.heap.size + 1, 1, none⟩ (.slice (some ⟨g2, 0, none⟩) (k + 1) cap2)) W1.heap.size (.slice (some ⟨g2, 0, none⟩) (k + 1) cap2) ((S.map Prod.snd).take (k + 1))) := Lib.hid (own_keep ho2 (fun g hg _ => by
        have h1 := (own_block ho2 g hg).1
        exact hp6 g (by omega)))
      have HNE2 := Lib.hid hne2
      have HSZ6 : Hid (W1.heap.size ≤ w6.heap.size) := Lib.hid (by omega)
      clear hp h4 hB4 ho4 hh4 hs4 hz4 hsz4 hlz4 ho2 hv2 hbl2 hk2 hsz2 hhne h6 ho6 hz6 hne2 hB6 hp6
      go_wp2_with (at_builtin; refine wpList_append_run rfl _ _ _ _ rfl _ _ _ _ rfl rfl hr2 ?_)
      go_roundw
      case rel => exact ⟨k + 1, HLT.out, by first | rfl | go_num, ⟨HB6.out, by simpa using HSZ6.out, HFZ.out⟩, _, _, HF3.out, HFL.out, HFH.out, fun g hg e => HNE2.out (by
        have e1 : g1 = g := by simpa [Value.ownBlock] using hg
        have e2 : g2 = g := by simpa [Value.ownBlock] using e
        rw [e1, e2])⟩
      case measure => have := HLT.out; simp only [intOf]; omega
    · obtain rfl : k = n := by omega
      have hl1 : (S.map Prod.fst).take k = S.map Prod.fst := by rw [HN.out, List.take_of_length_le (by simp)]
      have hl2 : (S.map Prod.snd).take k = S.map Prod.snd := by rw [HN.out, List.take_of_length_le (by simp)]
      rw [hl1] at hol
      rw [hl2] at hoh
      have hS1 := HS1.out
      have hp : ∀ j, W1.heap.size ≤ j → ((wo.setCell ⟨w.heap.size, 0, none⟩ lv).setCell ⟨w.heap.size, 1, none⟩ hv).heap[j]? = wo.heap[j]? := fun j hj => by
        rw [heap_setCell_other _ _ _ _ (by simp; omega), heap_setCell_other _ _ _ _ (by simp; omega)]
      have HFL : Hid (OwnN ((wo.setCell ⟨w.heap.size, 0, none⟩ lv).setCell ⟨w.heap.size, 1, none⟩ hv) w.heap.size lv (S.map Prod.fst)) := Lib.hid (own_le (own_keep hol (fun g hg _ => hp g (own_block hol g hg).1)) (by omega))
      have HFH : Hid (OwnN ((wo.setCell ⟨w.heap.size, 0, none⟩ lv).setCell ⟨w.heap.size, 1, none⟩ hv) w.heap.size hv (S.map Prod.snd)) := Lib.hid (own_le (own_keep hoh (fun g hg _ => hp g (own_block hoh g hg).1)) (by omega))
      have HFB : Hid (Below w.heap.size w ((wo.setCell ⟨w.heap.size, 0, none⟩ lv).setCell ⟨w.heap.size, 1, none⟩ hv)) := Lib.hid ((hbw.setCell (p := ⟨w.heap.size, 0, none⟩) (Nat.le_refl _) _).setCell (p := ⟨w.heap.size, 1, none⟩) (Nat.le_refl _) _)
      have hfin := two_set1 (x := hv) (two_set0 (x := lv) hz2)
      obtain ⟨⟨d0, f0⟩, d1, f1⟩ := two_at hz3
      obtain ⟨⟨c0, e0⟩, c1, e1⟩ := two_at hz2
      obtain ⟨⟨q0, _⟩, q1, _⟩ := two_at hfin
      obtain ⟨pl, nl, cl, hlf⟩ : ∃ p n c, lv = .slice p n c := by
        obtain ⟨p, c, e⟩ := (ownN_own hol).at.form
        exact ⟨p, _, c, e⟩
      obtain ⟨ph, nh, ch, hhf⟩ : ∃ p n c, hv = .slice p n c := by
        obtain ⟨p, c, e⟩ := (ownN_own hoh).at.form
        exact ⟨p, _, c, e⟩
      subst hlf; subst hhf
      clear hbw hsz hz2 hz3 hol hoh hne hp hfin hl1 hl2 HY2 HY3 HOL HOH HNE HBW HSZ
      go_wp2_with fail
      refine bodyPost_ret (v := .agg #[.slice pl nl cl, .slice ph nh ch]) (by simp [results, Try.results24, go_sem, q0, q1]) rfl ⟨_, _, rfl, HFL.out, HFH.out, HFB.out⟩
end Sc
end Go.Proofs.Ytfgmkdghpdpdkaa
