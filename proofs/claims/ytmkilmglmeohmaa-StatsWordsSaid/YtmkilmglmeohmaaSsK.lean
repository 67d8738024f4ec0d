/- The walk of the law StatsWords. Conditions: those that each theorem names. -/
import Derived.Test.YtmkilmglmeohmaaSsI
import Derived.BigQuiet
namespace Go.Proofs.Ytmkilmglmeohmaa
set_option linter.unusedVariables false
open Go Go.RowKit Go.Sort
namespace Ss
/-- How often a text stands in a row. -/
def times (M : List ByteArray) (s : ByteArray) : Nat := M.countP fun x => x.toList == s.toList
theorem times_next {M : List ByteArray} {s : ByteArray} {k : Nat} (h : k < M.length) : times (M.take (k + 1)) s = times (M.take k) s + (if (M[k].toList == s.toList) = true then 1 else 0) := by
  unfold times
  rw [List.take_add_one, List.getElem?_eq_getElem h, List.countP_append]
  simp [List.countP_cons]
theorem times_le (M : List ByteArray) (s : ByteArray) : times M s ≤ M.length := List.countP_le_length
theorem same_text {a b : ByteArray} (h : (a.toList == b.toList) = true) : a = b := by
  have h' : a.toList = b.toList := by simpa using h
  rw [Go.ByteArray.toList_eq, Go.ByteArray.toList_eq] at h'
  cases a; cases b
  congr
  exact Array.ext' h'
theorem times_hash : ∀ (M : List ByteArray) (s : ByteArray), times M s ≤ (hs M).count (hsh s)
  | [], s => Nat.le_refl _
  | x :: M, s => by
    have ih := times_hash M s
    unfold times at ih ⊢
    unfold hs at ih ⊢
    rw [List.countP_cons, List.map_cons, List.count_cons]
    by_cases h : (x.toList == s.toList) = true
    · have := same_text h
      subst this
      simp
      exact ih
    · rw [if_neg h]
      omega
theorem word_most (M : List ByteArray) (s : ByteArray) : (times M s : Int) ≤ wordN (runs (srt (hs M))) (hsh s) := by
  have R := runs_of (srt_up (hs M))
  have hc : (srt (hs M)).count (hsh s) = (hs M).count (hsh s) := (srt_perm (hs M)).count_eq _
  have ht := times_hash M s
  unfold wordN
  cases hf : (runs (srt (hs M))).find? (fun e => e.2 == hsh s) with
  | some e =>
    have h1 := List.mem_of_find?_eq_some hf
    have h2 := List.find?_some hf
    have h3 : e.2 = hsh s := by simpa using h2
    have h4 := R.cnt e h1
    rw [h3, hc] at h4
    simp only
    omega
  | none =>
    simp only
    have h0 : (hs M).count (hsh s) = 0 := by
      rw [← hc]
      apply List.count_eq_zero.2
      intro hm
      obtain ⟨e, he, heq⟩ := R.mem _ hm
      have := List.find?_eq_none.1 hf e he
      simp [heq] at this
    omega
def nSum (E : List En) : Int := (E.map Prod.fst).sum
theorem nSum_next {E : List En} {k : Nat} (h : k < E.length) : nSum (E.take (k + 1)) = nSum (E.take k) + E[k].1 := by
  unfold nSum
  rw [List.take_add_one, List.getElem?_eq_getElem h, List.map_append, List.sum_append]
  simp
theorem nSum_le {E : List En} (hE : ∀ e ∈ E, 1 ≤ e.1) : ∀ d k, k + d = E.length → nSum (E.take k) ≤ nSum E := by
  intro d
  induction d with
  | zero => intro k hk; rw [show k = E.length by omega, List.take_length]; exact Int.le_refl _
  | succ d ih =>
    intro k hk
    have h1 := ih (k + 1) (by omega)
    rw [nSum_next (show k < E.length by omega)] at h1
    have := hE (E[k]'(by omega)) (List.getElem_mem _)
    omega
theorem nSum_pos {E : List En} (hE : ∀ e ∈ E, 1 ≤ e.1) : ∀ k, k ≤ E.length → 0 ≤ nSum (E.take k) := by
  intro k
  induction k with
  | zero => intro _; simp [nSum]
  | succ k ih =>
    intro hk
    rw [nSum_next (show k < E.length by omega)]
    have := ih (by omega)
    have := hE (E[k]'(by omega)) (List.getElem_mem _)
    omega
set_option maxHeartbeats 4000000 in
set_option maxRecDepth 100000 in
theorem words_any (M : List ByteArray) (v : Value) (s : ByteArray) (w : World) (h : TxtsAt w v M) (hl : M.length * 16 ≤ 140737488355328) (hm : ∀ x ∈ M, x.size ≤ maxLen) (hs0 : s.size ≤ maxLen) :
    Calls Try.prog 5 #[v, .string s] w fun e w' => e = .returned (.bool true) ∧ Below w.heap.size w w' := by
  have H1 := Lib.hid (build_any [] M (.slice none 0 0) v 4 w (.inl ⟨rfl, _, _, rfl⟩) h (by decide) hl hm)
  have eb : bks (srt []) (many 4 ([] : List Int).length) = [] := by rw [← sortL_is]; rfl
  have R := runs_of (srt_up (hs M))
  have hsum : nSum (runs (srt (hs M))) = (M.length : Int) := by have := R.sum; rw [srt_len, hs_len] at this; exact this
  have hel : (runs (srt (hs M))).length ≤ M.length := by
    rcases Nat.eq_zero_or_pos (srt (hs M)).length with h0 | h0
    · rw [List.length_eq_zero_iff.1 h0]; simp [runs]
    · have h1 := runs_len_step (L := srt (hs M) ++ [0]) (k := (srt (hs M)).length) (by simp)
      simp [srt_len, hs_len] at h1
      exact h1
  have hwm := word_most M s
  obtain ⟨E, hE⟩ : ∃ E, E = runs (srt (hs M)) := ⟨_, rfl⟩
  rw [← hE] at H1 R hsum hel hwm
  rw [eb] at H1
  obtain ⟨p, c, rfl⟩ := h.form
  have HC := Lib.hid (txt_cells h)
  have HML : Hid (M.length ≤ maxLen) := Lib.hid (by unfold maxLen; omega)
  have HP := Lib.hid R.pos
  have HR : Hid (∀ i (hi : i < E.length) (hi2 : 0 < i), (E[i - 1]'(by omega)).2 < E[i].2) := Lib.hid (fun i hi hi2 => List.pairwise_iff_getElem.1 R.ris (i - 1) i (by omega) hi (by omega))
  have HSUM := Lib.hid hsum
  have HEL := Lib.hid hel
  have HWM := Lib.hid hwm
  have HSZ := Lib.hid hs0
  have HMB : Hid ((M.length : Int) ≤ 8796093022208) := Lib.hid (by omega)
  clear h hl hm hs0 eb R hsum hel hwm hE
  go_enter Try.func5, Try.ntmps5
  go_wp2_with fail
  refine H1.out.mono ?_
  clear H1
  rintro e w2 ⟨p1, c1, p2, c2, rfl, ho, hx, hb2⟩
  simp only [List.length_nil, Nat.zero_add] at ho ⊢
  have hz := Rk.heap_last w2 (sO M.length (.slice p1 0 c1) (.slice p2 E.length c2))
  have hb3 := Rk.fresh_alloc w2 (sO M.length (.slice p1 0 c1) (.slice p2 E.length c2))
  have hrow := (Rk.own_row flatE hx).below hb3
  have HB3 := Lib.hid (hb2.trans (hb3.mono hb2.size))
  have HZ := Lib.hid hz
  have HROW := Lib.hid hrow
  clear hz hb3 hrow hb2 ho hx
  go_wp2_with fail
  generalize w2.alloc (sO M.length (.slice p1 0 c1) (.slice p2 E.length c2)) = w3 at *
  go_loop [6, 8] (fun a i => ∃ k : Nat, k ≤ M.length ∧ i = .int .i64 k ∧ a = .int .i64 (times (M.take k) s : Int)) (fun _ i => M.length - (intOf i).toNat)
  case atStart => exact ⟨0, Nat.zero_le _, rfl, by simp [times]⟩
  case round =>
    obtain ⟨k, hk, rfl, rfl⟩ := hrel
    by_cases hlt : k < M.length
    · obtain ⟨g, off, rfl, _, hc⟩ := HC.out k hlt
      have hcell := hc w3 HB3.out
      have hn := times_next (s := s) hlt
      have hle := times_le (M.take k) s
      rw [List.length_take] at hle
      have hlt' : (k : Int) < (M.length : Int) := by omega
      generalize M[k] = x at hcell hn
      generalize times (M.take k) s = q at *
      have hq : wrap64 ((q : Int) + 1) = ((q + 1 : Nat) : Int) := by rw [wrap64_in _ (by have := HMB.out; omega)]; rfl
      have HQ := Lib.hid hq
      have HN := Lib.hid hn
      clear hc hle hn
      by_cases hx : (x.toList == s.toList) = true
      · rw [if_pos hx] at HN
        go_wp2_with fail
        go_round
        case rel => exact ⟨k + 1, by omega, congrArg _ (wrap_s HML.out hlt), by rw [HN.out]; exact congrArg _ HQ.out⟩
        case measure =>
          rw [wrap_s HML.out hlt]
          exact int_less hlt
      · rw [if_neg hx] at HN
        have hx' : (x.toList == s.toList) = false := by simpa using hx
        clear hq hx
        go_wp2_with fail
        go_round
        case rel => exact ⟨k + 1, by omega, congrArg _ (wrap_s HML.out hlt), by rw [HN.out]; rfl⟩
        case measure =>
          rw [wrap_s HML.out hlt]
          exact int_less hlt
    · obtain rfl : k = M.length := by omega
      rw [List.take_length]
      generalize times M s = q at *
      have HCE := Lib.hid (en_cells HROW.out)
      have HEM : Hid (E.length ≤ maxLen) := Lib.hid (Nat.le_trans HEL.out HML.out)
      have d1 : w3.cell? ⟨w2.heap.size, 1, none⟩ = some (.slice p1 0 c1) := by rw [Lib.cell_of_heap HZ.out]; rfl
      have d2 : w3.cell? ⟨w2.heap.size, 2, none⟩ = some (.slice p2 E.length c2) := by rw [Lib.cell_of_heap HZ.out]; rfl
      clear hlt hk HC
      go_wp2_with fail
      go_loopw [7, 9] (fun a i wr => ∃ k : Nat, k ≤ E.length ∧ i = .int .i64 k ∧ a = .int .i64 (nSum (E.take k)) ∧ ∃ nq, wr = w3.drewN nq) (fun _ i _ => E.length - (intOf i).toNat)
      case atStart => exact ⟨0, Nat.zero_le _, rfl, by simp [nSum], 0, rfl⟩
      case round =>
        obtain ⟨k, hk, rfl, rfl, nq, rfl⟩ := hrel
        have e1 : (w3.drewN nq).cell? ⟨w2.heap.size, 1, none⟩ = some (.slice p1 0 c1) := d1
        have e2 : (w3.drewN nq).cell? ⟨w2.heap.size, 2, none⟩ = some (.slice p2 E.length c2) := d2
        have e0 : (w3.drewN nq).cell? ⟨w2.heap.size, 0, none⟩ = some (.int .i64 (M.length : Int)) := by
          have : w3.cell? ⟨w2.heap.size, 0, none⟩ = some (.int .i64 (M.length : Int)) := by rw [Lib.cell_of_heap HZ.out]; rfl
          exact this
        have HBW : Hid (Below w3.heap.size w3 (w3.drewN nq)) := Lib.hid ⟨rfl, rfl, rfl, Nat.le_refl _, fun _ _ => rfl⟩
        have HNQ : Hid (∀ n, ∃ nq', (w3.drewN nq).drewN n = w3.drewN nq') := Lib.hid (fun n => ⟨nq + n, World.drewN_drewN ..⟩)
        by_cases hlt : k < E.length
        · obtain ⟨g, off, rfl, hc⟩ := HCE.out k hlt
          obtain ⟨c0, cc1⟩ := hc _ HBW.out
          have hn := nSum_next hlt
          have h0 := nSum_pos HP.out k (by omega)
          have h1 := nSum_le HP.out (E.length - (k + 1)) (k + 1) (by omega)
          have hp := HP.out E[k] (List.getElem_mem hlt)
          have hlt' : (k : Int) < (E.length : Int) := by omega
          have HPREV : Hid (∀ i, k = i + 1 → ∃ y, (w3.drewN nq).cell? ⟨g, off + i * 2 + 1, none⟩ = some (.int .i64 y) ∧ y < E[k].2) := Lib.hid (fun i hi => by
            subst hi
            obtain ⟨g2, off2, e, hc2⟩ := HCE.out i (by omega)
            injection e with e
            injection e with e3 e4
            subst e3; subst e4
            exact ⟨_, (hc2 _ HBW.out).2, HR.out (i + 1) hlt (by omega)⟩)
          obtain ⟨x, hx⟩ : ∃ x, x = E[k] := ⟨_, rfl⟩
          rw [← hx] at c0 cc1 hn hp HPREV
          obtain ⟨nn, id⟩ := x
          simp only at c0 cc1 hn hp HPREV
          rw [HSUM.out] at h1
          rw [hn] at h1
          have hws : wrap64 (nSum (E.take k) + nn) = nSum (E.take k) + nn := wrap64_in _ (by have := HMB.out; omega)
          have HWS := Lib.hid hws
          have HN := Lib.hid hn
          have hd1 : decide (nn < 1) = false := by simp; omega
          clear hx hc h0 h1 hp hn hws d1 d2
          generalize nSum (E.take k) = q2 at *
          generalize w3.drewN nq = wo at *
          rcases k with _ | i
          · have b0 : wo.cell? ⟨g, off, none⟩ = some (.int .i64 nn) := by simpa using c0
            have b1 : wo.cell? ⟨g, off + 1, none⟩ = some (.int .i64 id) := by simpa using cc1
            have hl0 : (0 : Int) < (E.length : Int) := by omega
            clear c0 cc1 HPREV hlt'
            simp only [Int.ofNat_zero, Int.natCast_zero]
            go_wp2_with fail
            go_quiet (fail)
            have HWS' := HWS.out
            go_wp2_with fail
            go_roundw
            case rel => exact ⟨1, by omega, rfl, by rw [HN.out]; first | rfl | exact congrArg _ HWS.out, HNQ.out _⟩
            case measure => simp [intOf]; omega
          · obtain ⟨y, hy, hyx⟩ := HPREV.out i rfl
            have hd2 : decide (id ≤ y) = false := by simp; omega
            have hwj : IntKind.i64.wrap ((i : Int) + 1 - 1) = (i : Int) := by rw [IntKind.wrap_i64]; have := HMB.out; have := HEL.out; omega
            have hwk : IntKind.i64.wrap (i : Int) = (i : Int) := by rw [IntKind.wrap_i64]; have := HMB.out; have := HEL.out; omega
            have hjl : (i : Int) < (E.length : Int) := by omega
            have hjz : (0 : Int) ≤ (i : Int) := by omega
            have HWI : Hid (wrap64 ((i : Int) + 1 + 1) = ((i + 1 + 1 : Nat) : Int)) := Lib.hid (wrap_s HEM.out hlt)
            have hd3 : (0 : Int) < ((i + 1 : Nat) : Int) := by omega
            clear HPREV hyx
            go_wp2_with fail
            go_quiet (fail)
            have HWS' := HWS.out
            go_wp2_with fail
            go_roundw
            case rel => exact ⟨i + 1 + 1, by omega, congrArg _ HWI.out, by rw [HN.out]; first | rfl | exact congrArg _ HWS.out, HNQ.out _⟩
            case measure =>
              rw [HWI.out]
              exact int_less hlt
        · obtain rfl : k = E.length := by omega
          rw [List.take_length]
          have HW := Lib.hid (word_any E s (.slice p2 E.length c2) (.slice p1 0 c1) M.length (w3.drewN nq) (HROW.out.below HBW.out) HEM.out HSZ.out)
          have hsm := HSUM.out
          have hge : (q : Int) ≤ wordN E (hsh s) := HWM.out
          generalize wordN E (hsh s) = W at *
          rw [hsm]
          clear hsm hlt hk HWM HSUM HP HR HNQ HCE
          generalize w3.drewN nq = wo at *
          go_wp2_with fail
          refine HW.out.mono ?_
          clear HW
          rintro e w5 ⟨rfl, hb5⟩
          have HB5 : Hid (Below w.heap.size w w5) := Lib.hid (by
            have h1 := HB3.out.trans (HBW.out.mono HB3.out.size)
            exact h1.trans (hb5.mono h1.size))
          have HZ5 := (hb5.block _ (Nat.lt_of_lt_of_le (Rk.lt_of_block HZ.out) HBW.out.size)).trans ((HBW.out.block _ (Rk.lt_of_block HZ.out)).trans HZ.out)
          have f1 : w5.cell? ⟨w2.heap.size, 1, none⟩ = some (.slice p1 0 c1) := by rw [Lib.cell_of_heap HZ5]; rfl
          have HA := Lib.hid (awake_yes w5)
          have hge2 : decide ((q : Int) ≤ W) = true := by simpa using hge
          clear hb5 HZ5 hge
          go_wp2_with fail
          refine HA.out.mono ?_
          clear HA
          rintro e w6 ⟨rfl, hb6⟩
          have HB6 := Lib.hid (HB5.out.trans (hb6.mono HB5.out.size))
          clear hb6
          go_wp2_with fail
          go_ret
          exact ⟨rfl, HB6.out⟩
end Ss
end Go.Proofs.Ytmkilmglmeohmaa
