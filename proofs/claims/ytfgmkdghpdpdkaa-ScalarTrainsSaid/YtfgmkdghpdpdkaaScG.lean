/- scalar's Train. Conditions: those that each theorem names. -/
import Derived.Test.YtfgmkdghpdpdkaaScF
namespace Go.Proofs.Ytfgmkdghpdpdkaa
set_option linter.unusedVariables false
open Go Go.RowKit Vc Rk
namespace Sc
def okR (n : Nat) (u : List Int) : Bool := decide ((u.length : Int) = (n : Int)) && vecB u
theorem rowsB_cons (r : List Int) (R : List (List Int)) : rowsB (r :: R) = (r :: R).all (okR r.length) := by
  unfold rowsB
  have e : (fun v : List Int => vecB v && decide (v.length = ((r :: R).headD []).length)) = okR r.length := by
    funext v
    show (vecB v && decide (v.length = r.length)) = _
    unfold okR
    rw [Bool.and_comm]
    congr 1
    simp [Int.ofNat_inj]
  rw [e]
  simp
/-- The cells of an element of a row of rows. -/
theorem rows_cell {w : World} {p : Option Addr} {n c : Nat} {M : List (List Int)} (h : RowsAt w (.slice p n c) M) {k : Nat} {u : List Int} (hu : M[k]? = some u) : ∃ b off pk ck, p = some ⟨b, off, none⟩ ∧ b < w.heap.size ∧
    (∀ wr, Below w.heap.size w wr → wr.cell? ⟨b, off + k, none⟩ = some (.slice pk u.length ck)) ∧ IntsAt w (.slice pk u.length ck) u := by
  obtain ⟨p', c', e, hc, hel⟩ := h
  injection e with e1 e2 e3
  subst e1
  obtain ⟨b, off, e, hb, hel⟩ := hel (by have := (List.getElem?_eq_some_iff.1 hu).1; omega)
  obtain ⟨pk, ck, h1, h2⟩ := hel k u hu
  exact ⟨b, off, pk, ck, e, hb, h1, h2⟩
set_option maxHeartbeats 4000000 in
set_option maxRecDepth 100000 in
theorem train_any (M : List (List Int)) (v : Value) (w : World) (h : RowsAt w v M) (hl : ∀ u ∈ M, u.length ≤ maxLen) (hm : M.length ≤ maxLen) :
    Calls Try.prog 7 #[v] w fun e w' => ∃ a b, e = .returned (.tuple #[.agg #[a, b], .int .i64 (if rowsB M = true then 0 else 170)]) ∧
      OwnN w' w.heap.size a (if rowsB M = true then trainLo M else []) ∧ OwnN w' w.heap.size b (if rowsB M = true then trainHi M else []) ∧ Below w.heap.size w w' := by
  obtain ⟨W1, hW1⟩ : ∃ W1, W1 = w.alloc (.cells #[.slice none 0 0, .slice none 0 0] 25) := ⟨_, rfl⟩
  have hz : W1.heap[w.heap.size]? = some (.cells #[.slice none 0 0, .slice none 0 0] 25 (0, 0)) := by rw [hW1]; exact heap_last _ _
  have hb1 : Below w.heap.size w W1 := by rw [hW1]; exact fresh_alloc _ _
  have hs1 : W1.heap.size = w.heap.size + 1 := by rw [hW1]; simp
  obtain ⟨⟨c0, e0⟩, c1, e1⟩ := two_at hz
  have HB1 := Lib.hid hb1
  have HS1 := Lib.hid hs1
  have HZ := Lib.hid hz
  have hno : ∀ W : World, W.heap[w.heap.size]? = some (.cells #[.slice none 0 0, .slice none 0 0] 25 (0, 0)) → ((W.setCell ⟨w.heap.size, 0, none⟩ (.slice none 0 0)).setCell ⟨w.heap.size, 1, none⟩ (.slice none 0 0)).cell? ⟨w.heap.size, 0, none⟩ = some (.slice none 0 0) ∧
      ((W.setCell ⟨w.heap.size, 0, none⟩ (.slice none 0 0)).setCell ⟨w.heap.size, 1, none⟩ (.slice none 0 0)).cell? ⟨w.heap.size, 1, none⟩ = some (.slice none 0 0) := fun W hW => by
    obtain ⟨⟨a, _⟩, b, _⟩ := two_at (two_set1 (x := .slice none 0 0) (two_set0 (x := .slice none 0 0) hW))
    exact ⟨a, b⟩
  have HNO := Lib.hid hno
  cases M with
  | nil =>
    obtain ⟨p, c, rfl, _, _⟩ := h
    have hr : rowsB [] = false := rfl
    rw [hr]
    clear hno hb1 hs1 hz hl hm
    go_enter Try.func7, Try.ntmps7
    go_upto_region 1 with fail
    rw [← hW1]
    clear hW1
    go_wp2_with fail
    obtain ⟨q0, q1⟩ := HNO.out _ HZ.out
    refine bodyPost_ret (v := .tuple #[.agg #[.slice none 0 0, .slice none 0 0], .int .i64 170]) (by simp [results, Try.results7, go_sem, q0, q1]) rfl ⟨_, _, rfl, own_none _ _, own_none _ _, (HB1.out.setCell (p := ⟨w.heap.size, 0, none⟩) (Nat.le_refl _) _).setCell (p := ⟨w.heap.size, 1, none⟩) (Nat.le_refl _) _⟩
  | cons r R =>
    have h1 := h.below hb1
    have hfrm := h1
    obtain ⟨p, c, rfl, hcc, _⟩ := hfrm
    obtain ⟨b, off, p0, ck0, rfl, hbb, hx0, hi0⟩ := rows_cell h1 (k := 0) (u := r) rfl
    have hx0 := hx0 W1 (Below.refl _ _)
    rw [Nat.add_zero] at hx0
    obtain ⟨B, hB⟩ : ∃ B, B = rowsB (r :: R) := ⟨_, rfl⟩
    have hall := rowsB_cons r R
    rw [← hB] at hall ⊢
    have HALL := Lib.hid hall
    have HROW := Lib.hid h1
    have HL := Lib.hid hl
    have HRB := Lib.hid hB
    obtain ⟨m, hmm⟩ : ∃ m, m = (r :: R).length := ⟨_, rfl⟩
    have hm0 : ¬ ((m : Int) = 0) := by rw [hmm, List.length_cons]; omega
    have hm1 : (0 : Int) < (m : Int) := by rw [hmm, List.length_cons]; omega
    have hm2 : ((m : Int) == 0) = false := beq_eq_false_iff_ne.2 hm0
    have HMM := Lib.hid hmm
    have HM := Lib.hid hm
    have hm9 : (m : Int) ≤ 9223372036854775807 := by unfold maxLen at hm; omega
    obtain ⟨LO, hLO⟩ : ∃ LO, LO = if B = true then trainLo (r :: R) else [] := ⟨_, rfl⟩
    obtain ⟨HI, hHI⟩ : ∃ HI, HI = if B = true then trainHi (r :: R) else [] := ⟨_, rfl⟩
    rw [← hLO, ← hHI, ← hmm]
    have HLO := Lib.hid hLO
    have HHI := Lib.hid hHI
    obtain ⟨n, hn⟩ : ∃ n, n = r.length := ⟨_, rfl⟩
    rw [← hn] at hx0
    have HN := Lib.hid hn
    clear hno hb1 hs1 hz hl hm h h1 hall hB hmm hLO hHI hn hcc hi0 hbb
    go_enter Try.func7, Try.ntmps7
    go_upto_region 1 with fail
    rw [← hW1]
    clear hW1
    go_wp2_with fail
    go_loop [17] (fun i => ∃ k : Nat, k ≤ m ∧ i = .int .i64 k ∧ Hid (((r :: R).take k).all (okR n) = true)) (fun i => m - (intOf i).toNat)
    case atStart => exact ⟨0, Nat.zero_le _, rfl, Lib.hid (by simp)⟩
    case round =>
      obtain ⟨k, hk, rfl, HA⟩ := hrel
      by_cases hlt : k < m
      · have hu : (r :: R)[k]? = some ((r :: R)[k]'(by rw [← HMM.out]; exact hlt)) := List.getElem?_eq_getElem _
        generalize (r :: R)[k]'(by rw [← HMM.out]; exact hlt) = u at hu
        obtain ⟨b', off', pk, ck, e, hb', hcl, hiu⟩ := rows_cell HROW.out hu
        injection e with e
        injection e with e2 e3
        subst e2; subst e3
        have hcl := hcl W1 (Below.refl _ _)
        have C := isv_any u _ (n : Int) W1 hiu (HL.out u (List.mem_of_getElem? hu))
        have C := Lib.hid (C.mono fun e w' h => (⟨h.1, h.2.symm⟩ : e = .returned (.bool (okR n u)) ∧ W1 = w'))
        have HLT := Lib.hid hlt
        have HU := Lib.hid hu
        generalize u.length = ul at *
        by_cases ho : okR n u = true
        · have HN := Lib.hid (all_next' hu HA.out ho)
          rw [ho] at C
          clear hu hiu ho HA
          go_wp2_with (refine C.out.mono ?_; rintro _ _ ⟨rfl, rfl⟩)
          go_round
          case rel => exact ⟨k + 1, HLT.out, by first | rfl | go_num, HN⟩
          case measure => have := HLT.out; simp only [intOf]; omega
        · have ho' : okR n u = false := by simpa using ho
          have hbf : B = false := by
            rw [HALL.out, ← HN.out]
            exact all_no' hu ho'
          have hlo : LO = [] := by rw [HLO.out, hbf]; rfl
          have hhi : HI = [] := by rw [HHI.out, hbf]; rfl
          rw [ho'] at C
          clear hu hiu ho HA ho' HALL HLO HHI HRB
          subst hbf
          subst hlo
          subst hhi
          go_wp2_with (refine C.out.mono ?_; rintro _ _ ⟨rfl, rfl⟩)
          obtain ⟨q0, q1⟩ := HNO.out _ HZ.out
          refine bodyPost_ret (v := .tuple #[.agg #[.slice none 0 0, .slice none 0 0], .int .i64 170]) (by simp [results, Try.results7, go_sem, q0, q1]) rfl ⟨_, _, rfl, own_none _ _, own_none _ _, (HB1.out.setCell (p := ⟨w.heap.size, 0, none⟩) (Nat.le_refl _) _).setCell (p := ⟨w.heap.size, 1, none⟩) (Nat.le_refl _) _⟩
      · obtain rfl : k = m := by omega
        have hbt : B = true := by
          have h := HA.out
          rw [HMM.out, List.take_length] at h
          rw [HALL.out, ← HN.out]; exact h
        have hrb : rowsB (r :: R) = true := by rw [← HRB.out]; exact hbt
        obtain ⟨r', R', er, hvr, hall⟩ := rows_of hrb
        injection er with er1 er2
        subst er1; subst er2
        obtain ⟨n1, n64, _⟩ := parts_of hvr
        have C1 := learn_any r R (.slice (some ⟨b, off, none⟩) k c) W1 (by have := HROW.out; rwa [← HMM.out] at this) (fun u hu => (hall u (by simp [hu])).2) n1 n64 (by have := HM.out; simpa using this)
        rw [← HN.out] at C1
        have HC1 := Lib.hid C1
        have HLT : Hid (LO = trainLo (r :: R) ∧ HI = trainHi (r :: R)) := Lib.hid ⟨by rw [HLO.out, hbt]; rfl, by rw [HHI.out, hbt]; rfl⟩
        have HLL : Hid ((learnL (r.zip r) R).length ≤ 64) := Lib.hid (by
          rw [learn_len (n := r.length) R _ (by simp) (fun u hu => (hall u (by simp [hu])).2)]; exact n64)
        have HZIP : Hid ((learnL (r.zip r) R).map Prod.fst = trainLo (r :: R) ∧ (learnL (r.zip r) R).map Prod.snd = trainHi (r :: R)) := Lib.hid (by
          obtain ⟨_, h1, h2, _⟩ := train_may hrb
          rw [learn_first]
          exact ⟨List.map_fst_zip (by rw [h1, h2]; exact Nat.le_refl _), List.map_snd_zip (by rw [h1, h2]; exact Nat.le_refl _)⟩)
        subst hbt
        clear C1 hrb hvr hall n1 n64 HALL HLO HHI HRB HA
        go_wp2_with fail
        refine HC1.out.mono ?_
        rintro e w2 ⟨u, rfl, ho2, hb2⟩
        have C2 := quantizer_any _ u w2 (own_row flatS ho2) HLL.out
        have hzz := (hb2.block w.heap.size (by have := HS1.out; omega)).trans HZ.out
        have HB2 := Lib.hid (HB1.out.trans (hb2.mono (by have := HS1.out; omega)))
        have HZ2 := Lib.hid hzz
        have HC2 := Lib.hid C2
        have HS2 : Hid (w.heap.size < w2.heap.size) := Lib.hid (lt_of_block hzz)
        clear C2 hzz hb2 ho2
        go_wp2_with fail
        refine HC2.out.mono ?_
        rintro e w3 ⟨a, b', rfl, ha, hb', hb3⟩
        rw [HZIP.out.1, ← HLT.out.1] at ha
        rw [HZIP.out.2, ← HLT.out.2] at hb'
        have hz3 := (hb3.block w.heap.size HS2.out).trans HZ2.out
        obtain ⟨pl, nl, cl, hlf⟩ : ∃ p n c, a = .slice p n c := by
          obtain ⟨p, c, e⟩ := (ownN_own ha).at.form
          exact ⟨p, _, c, e⟩
        obtain ⟨ph, nh, ch, hhf⟩ : ∃ p n c, b' = .slice p n c := by
          obtain ⟨p, c, e⟩ := (ownN_own hb').at.form
          exact ⟨p, _, c, e⟩
        subst hlf; subst hhf
        have hp : ∀ j, w2.heap.size ≤ j → ((w3.setCell ⟨w.heap.size, 0, none⟩ (.slice pl nl cl)).setCell ⟨w.heap.size, 1, none⟩ (.slice ph nh ch)).heap[j]? = w3.heap[j]? := fun j hj => by
          have := HS2.out
          rw [heap_setCell_other _ _ _ _ (by simp; omega), heap_setCell_other _ _ _ _ (by simp; omega)]
        have HFL := Lib.hid (own_le (own_keep ha (fun g hg _ => hp g (own_block ha g hg).1)) (Nat.le_of_lt HS2.out))
        have HFH := Lib.hid (own_le (own_keep hb' (fun g hg _ => hp g (own_block hb' g hg).1)) (Nat.le_of_lt HS2.out))
        have HFB := Lib.hid (((HB2.out.trans (hb3.mono (Nat.le_of_lt HS2.out))).setCell (p := ⟨w.heap.size, 0, none⟩) (Nat.le_refl _) (.slice pl nl cl)).setCell (p := ⟨w.heap.size, 1, none⟩) (Nat.le_refl _) (.slice ph nh ch))
        obtain ⟨⟨d0, f0⟩, d1, f1⟩ := two_at hz3
        obtain ⟨⟨q0, _⟩, q1, _⟩ := two_at (two_set1 (x := .slice ph nh ch) (two_set0 (x := .slice pl nl cl) hz3))
        clear ha hb' hb3 hz3 hp
        go_wp2_with fail
        refine bodyPost_ret (v := .tuple #[.agg #[.slice pl nl cl, .slice ph nh ch], .int .i64 0]) (by simp [results, Try.results7, go_sem, q0, q1]) rfl ⟨_, _, rfl, HFL.out, HFH.out, HFB.out⟩
end Sc
end Go.Proofs.Ytfgmkdghpdpdkaa
