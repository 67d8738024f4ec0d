/- Rows of texts; the program's counts of words. Conditions: those that each theorem names. -/
import Derived.Test.YtmkilmglmeohmaaSsE
namespace Go.Proofs.Ytmkilmglmeohmaa
set_option linter.unusedVariables false
open Go Go.RowKit Go.Sort
namespace Ss
def encT (s : ByteArray) : List Value := [.string s]
theorem flatT : Rk.Flat Try.prog encT 1 9 23 16 where
  under := Try.underlying23
  info := Rk.info_of (z := .string ⟨#[]⟩) (by kernel_rfl) rfl
  pos := by decide
  len _ := rfl
  one x u hu := by simp [encT] at hu; subst hu; rfl
abbrev TxtsAt (w : World) (v : Value) (L : List ByteArray) : Prop := Rk.RowAt encT 1 w v L
theorem txt_cells {w : World} {p : Option Addr} {c n : Nat} {L : List ByteArray} (h : TxtsAt w (.slice p n c) L) : ∀ k (hk : k < L.length), ∃ b off, p = some ⟨b, off, none⟩ ∧ b < w.heap.size ∧ ∀ wr, Below w.heap.size w wr → wr.cell? ⟨b, off + k, none⟩ = some (.string L[k]) := by
  intro k hk
  rcases h with ⟨h0, _⟩ | ⟨b, off, c2, e, hb, hc⟩
  · subst h0; simp at hk
  · injection e with e1
    refine ⟨b, off, e1, hb, fun wr hw => ?_⟩
    have := hc wr (hw.block b hb) k hk 0 (.string L[k]) rfl
    rwa [Nat.mul_one, Nat.add_zero] at this
def hsh (s : ByteArray) : Int := hAt s s.size / 4096
def hs (L : List ByteArray) : List Int := L.map hsh
theorem hs_len (L : List ByteArray) : (hs L).length = L.length := by simp [hs]
theorem hs_next {L : List ByteArray} {k : Nat} (h : k < L.length) : hs (L.take (k + 1)) = hs (L.take k) ++ [hsh L[k]] := by
  unfold hs
  rw [List.take_add_one, List.getElem?_eq_getElem h, List.map_append]
  rfl
abbrev OwnE (w : World) (base : Nat) (v : Value) (L : List En) : Prop := Rk.Own encE 2 39 w base v L
theorem rowE_set (n : Int) : ∀ (L : List En) (i : Nat) (h : i < L.length), (Rk.rowC encE L).set (i * 2) (.int .i64 n) = Rk.rowC encE (L.set i (n, L[i].2))
  | x :: r, 0, _ => rfl
  | x :: r, i + 1, h => by
    have ih := rowE_set n r i (by simpa using h)
    rw [Rk.rowC_cons, List.set_cons_succ, Rk.rowC_cons, show (i + 1) * 2 = i * 2 + 1 + 1 by omega]
    show _ :: _ :: (Rk.rowC encE r).set (i * 2) _ = _
    rw [ih]
    rfl
/-- The count of one entry set. -/
theorem own_n {w : World} {base g n cap : Nat} {L : List En} (h : OwnE w base (.slice (some ⟨g, 0, none⟩) n cap) L) (i : Nat) (hi : i < L.length) (x : Int) : OwnE (w.setCell ⟨g, i * 2, none⟩ (.int .i64 x)) base (.slice (some ⟨g, 0, none⟩) n cap) (L.set i (x, L[i].2)) := by
  obtain rfl : n = L.length := by
    rcases h.2 with ⟨e, _⟩ | ⟨g2, cap2, cur, e, _⟩
    · cases e
    · injection e
  have h1 := (World.ownsRow.stored h (i * 2) (.int .i64 x)).1
  rw [rowE_set x L i hi] at h1
  show World.ownsRow _ _ _ _ _ _ _
  rw [List.length_set]
  exact h1
/-- One entry appended, in a new block ahead. -/
theorem append_en {w : World} {base : Nat} {v : Value} {A : List En} (x : En) (hown : OwnE w base v A) (hb : (A.length + 1) * 16 ≤ 140737488355328) (hbase : base ≤ w.heap.size) :
    ∃ g cap w', (∀ ty, (Builtin.append_ #[25, 25] ty #[v, .slice (some ⟨w.heap.size, 0, none⟩) 1 1]).run Try.prog (w.alloc (.cells #[.int .i64 x.1, .int .i64 x.2] 39)) = .ok (.slice (some ⟨g, 0, none⟩) (A.length + 1) cap) w') ∧ OwnE w' base (.slice (some ⟨g, 0, none⟩) (A.length + 1) cap) (A ++ [x]) ∧ Below base w w' := by
  have ho := Rk.own_below hown (Rk.fresh_alloc w (.cells #[.int .i64 x.1, .int .i64 x.2] 39))
  obtain ⟨v', w', hr, h2, h3, h4, g', cap, rfl, h5, h6⟩ := Rk.append_el flatE (x := x) ho (Rk.heap_last w (.cells #[.int .i64 x.1, .int .i64 x.2] 39)) hb (by unfold maxLen; omega) (by simp; omega)
  exact ⟨g', cap, w', hr, h2, ((Below.refl base w).alloc hbase _).grown h3 (by simp; omega) (fun j hj => (Rk.own_block hown j hj).1)⟩
theorem runs_len_step {L : List Int} {k : Nat} (h : k < L.length) : (runs (L.take k)).length ≤ k := by
  have key : ∀ j, j ≤ L.length → (runs (L.take j)).length ≤ j := by
    intro j
    induction j with
    | zero => intro _; simp [runs]
    | succ j ih =>
      intro hj
      have h0 := ih (by omega)
      rw [runs_next (show j < L.length by omega)]
      rcases split_last (runs (L.take j)) with e | ⟨B, e, hB⟩
      · rw [e]; simp [stE_nil]
      · rw [hB] at h0 ⊢
        by_cases he : e.2 = L[j]
        · rw [stE_same _ _ _ he]; simp at h0 ⊢; omega
        · rw [stE_new _ _ _ he]; simp at h0 ⊢; omega
  exact key k (by omega)
/-- How the runs of sorted numbers go on, with bounds. -/
theorem runs_step2 {S : List Int} (hS : S.Pairwise (· ≤ ·)) {k : Nat} (h : k < S.length) :
    ((k = 0 ∨ S[k] ≠ S[k - 1]'(by omega)) → runs (S.take (k + 1)) = runs (S.take k) ++ [(1, S[k])]) ∧
    (¬ (k = 0 ∨ S[k] ≠ S[k - 1]'(by omega)) → ∃ (B : List En) (n : Int), runs (S.take k) = B ++ [(n, S[k])] ∧ runs (S.take (k + 1)) = B ++ [(n + 1, S[k])] ∧ 1 ≤ n ∧ n ≤ k) := by
  obtain ⟨h1, h2⟩ := runs_step h
  refine ⟨h1, fun c => ?_⟩
  obtain ⟨B, n, e1, e2⟩ := h2 c
  have R := runs_of (L := S.take k) (hS.sublist (List.take_sublist _ _))
  rw [e1] at R
  have p := R.pos (n, S[k]) (by simp)
  have q := R.cnt (n, S[k]) (by simp)
  have r := List.count_le_length (a := S[k]) (l := S.take k)
  rw [List.length_take] at r
  simp only at p q
  exact ⟨B, n, e1, e2, p, by omega⟩
set_option maxHeartbeats 4000000 in
set_option maxRecDepth 100000 in
theorem hashed_any (L : List ByteArray) (v : Value) (w : World) (h : TxtsAt w v L) (hl : L.length * 16 ≤ 140737488355328) (hm : ∀ s ∈ L, s.size ≤ maxLen) :
    Calls Try.prog 18 #[v] w fun e w' => ∃ u, e = .returned u ∧ OwnE w' w.heap.size u (runs (srt (hs L))) ∧ Below w.heap.size w w' := by
  obtain ⟨p, c, rfl⟩ := h.form
  have HC := Lib.hid (txt_cells h)
  have HL := Lib.hid hl
  have HM := Lib.hid hm
  have HML : Hid (L.length ≤ maxLen) := Lib.hid (by unfold maxLen; omega)
  obtain ⟨S, hSS⟩ : ∃ S, S = srt (hs L) := ⟨_, rfl⟩
  have HSS : Hid (Rx.srtL (hs L) = S) := Lib.hid hSS.symm
  have HSL : Hid (S.length = L.length) := Lib.hid (by rw [hSS, srt_len, hs_len])
  have HUP : Hid (S.Pairwise (· ≤ ·)) := Lib.hid (by rw [hSS]; exact srt_up _)
  rw [← hSS]
  clear h hl hm hSS
  go_enter Try.func18, Try.ntmps18
  go_wp2
  go_loopw [3, 5, 11] (fun o x i wr => ∃ k : Nat, k ≤ L.length ∧ i = .int .i64 k ∧ Own wr w.heap.size o (hs (L.take k)) ∧ Below w.heap.size w wr) (fun _ _ i _ => L.length - (intOf i).toNat)
  case atStart => exact ⟨0, Nat.zero_le _, rfl, Rx.own_nil _ _, Below.refl _ _⟩
  case round =>
    obtain ⟨k, hk, rfl, ho, hb⟩ := hrel
    have HB := Lib.hid hb
    have HO := Lib.hid ho
    clear ho hb
    obtain ⟨wo, rfl⟩ : ∃ wo : World, wo = wr := ⟨_, rfl⟩
    by_cases hlt : k < L.length
    · obtain ⟨b, off, rfl, _, hc⟩ := HC.out k hlt
      have hcell := hc wo HB.out
      have hn := hs_next hlt
      have hlt' : (k : Int) < (L.length : Int) := by omega
      have hsz := HM.out L[k] (List.getElem_mem hlt)
      generalize L[k] = x at hcell hn hsz
      have CH := Lib.hid (fun W => hash_any x W hsz)
      obtain ⟨v', w', hr, ho', hb'⟩ := Rx.append_one (hsh x) HO.out (by rw [hs_len, List.length_take]; have := HL.out; omega) HB.out.size
      rw [← hn] at ho'
      have HO' := Lib.hid ho'
      have HB' := Lib.hid hb'
      have CH' : Hid (∀ W, Calls Try.prog 22 #[.string x] W fun e w' => e = .returned (.int .i64 (hsh x)) ∧ W = w') := CH
      clear hc hn ho' hb' hsz CH
      generalize hsh x = y at *
      go_wp2_with (first
        | (go_at_call 22; refine (CH'.out _).mono ?_; rintro e w2 ⟨rfl, rfl⟩)
        | (refine wpList_append_run rfl _ _ _ _ rfl _ _ _ _ rfl rfl hr ?_))
      go_roundw
      case rel => exact ⟨k + 1, by omega, congrArg _ (wrap_s HML.out hlt), HO'.out, HB.out.trans HB'.out⟩
      case measure =>
        rw [wrap_s HML.out hlt]
        exact int_less hlt
    · obtain rfl : k = L.length := by omega
      have ho := HO.out
      rw [List.take_length] at ho
      have CS := Lib.hid (Rx.sort_own (hs L) u3 w.heap.size wo ho HB.out.size (by rw [hs_len]; have := HL.out; omega))
      clear ho HO HC HM
      go_wp2_with fail
      refine CS.out.mono ?_
      clear CS
      rintro e w2 ⟨rfl, ho2, hb2⟩
      rw [HSS.out] at ho2
      obtain ⟨p2, c2, rfl⟩ := ho2.at.form
      have hcs := Rx.row_cells ho2.at
      have HCS : Hid (∀ k x, S[k]? = some x → ∃ b off, p2 = some ⟨b, off, none⟩ ∧ ∀ wr, Below w2.heap.size w2 wr → wr.cell? ⟨b, off + k, none⟩ = some (.int .i64 x)) := Lib.hid (fun k x hx => by
        obtain ⟨hk, rfl⟩ := List.getElem?_eq_some_iff.1 hx
        obtain ⟨b, off, e, _, hc⟩ := hcs k hk
        exact ⟨b, off, e, hc⟩)
      have HB2 := Lib.hid (HB.out.trans hb2)
      obtain ⟨n, hn⟩ : ∃ n, n = S.length := ⟨_, rfl⟩
      rw [← hn] at HSL ⊢
      have HN := Lib.hid hn
      have HNL : Hid (n * 16 ≤ 140737488355328) := Lib.hid (by rw [HSL.out]; exact HL.out)
      have HNM : Hid (n ≤ maxLen) := Lib.hid (by rw [HSL.out]; exact HML.out)
      clear ho2 hb2 hn HB HSS HL HML hk hlt hcs
      go_wp2_with fail
      go_loopw [6, 7, 8, 25] (fun l a hv i wr => ∃ k : Nat, k ≤ n ∧ i = .int .i64 k ∧ OwnE wr w2.heap.size l (runs (S.take k)) ∧ Below w2.heap.size w2 wr) (fun _ _ _ i _ => n - (intOf i).toNat)
      case atStart => exact ⟨0, Nat.zero_le _, rfl, Rk.own_none _ _, Below.refl _ _⟩
      case round =>
        obtain ⟨k, hk, rfl, ho, hb3⟩ := hrel
        have HB3 := Lib.hid hb3
        have HO := Lib.hid ho
        clear ho hb3
        obtain ⟨wq, rfl⟩ : ∃ wq : World, wq = wr := ⟨_, rfl⟩
        by_cases hlt : k < n
        · have hks : k < S.length := by rw [← HN.out]; exact hlt
          have hx : S[k]? = some S[k] := List.getElem?_eq_getElem hks
          obtain ⟨g, off, rfl, hcx⟩ := HCS.out k _ hx
          have hcell := hcx wq HB3.out
          obtain ⟨hnew, hsame⟩ := runs_step2 HUP.out hks
          have hal := runs_len_step hks
          obtain ⟨A, hA⟩ : ∃ A, A = runs (S.take k) := ⟨_, rfl⟩
          obtain ⟨R, hR⟩ : ∃ R, R = runs (S.take (k + 1)) := ⟨_, rfl⟩
          have HR := Lib.hid hR
          rw [← hA] at hnew hsame hal HO
          rw [← hR] at hnew hsame
          have hlt' : (k : Int) < (n : Int) := by omega
          have HAL := Lib.hid hal
          obtain ⟨x, hxx⟩ : ∃ x, x = S[k] := ⟨_, rfl⟩
          rw [← hxx] at hcell hnew hsame
          by_cases hc : k = 0 ∨ x ≠ S[k - 1]'(by omega)
          · have hR1 := hnew hc
            obtain ⟨g', cap', w', hr, ho', hb'⟩ := append_en (0, x) HO.out (by have := HNL.out; omega) HB3.out.size
            have hset := own_n ho' A.length (by simp) 1
            rw [List.set_append_right _ _ (Nat.le_refl _), Nat.sub_self] at hset
            have e : (A ++ [((0 : Int), x)])[A.length]'(by simp) = (0, x) := by simp
            simp only [e, List.set_cons_zero] at hset
            rw [← hR1, HR.out] at hset
            obtain ⟨c0, f0⟩ := Rk.own_cell flatE ho' A.length (by simp) (i := 0) (u := .int .i64 0) (by rw [e]; rfl)
            rw [Nat.add_zero] at c0 f0
            have HSET := Lib.hid hset
            have HB4 : Hid (Below w2.heap.size w2 (w'.setCell ⟨g', A.length * 2, none⟩ (.int .i64 1))) := Lib.hid ((HB3.out.trans hb').setCell (p := ⟨g', A.length * 2, none⟩) (Rk.own_block ho' g' rfl).1 _)
            obtain ⟨m, hm⟩ : ∃ m, m = A.length := ⟨_, rfl⟩
            obtain ⟨m1, hm1⟩ : ∃ m1, m1 = A.length + 1 := ⟨_, rfl⟩
            rw [← hm1] at hr HSET
            rw [← hm] at c0 f0 HSET HB4
            have hmm : (m : Int) < m1 := by omega
            have hwm : wrap64 ((m1 : Int) - 1) = (m : Int) := by rw [wrap64_in _ (by have := HNL.out; have := HAL.out; omega)]; omega
            clear ho' hb' hset e hnew hsame hal hR1 hR hm hm1 hA hx hcx
            rcases hc with hc | hc
            · have hk0 : ((k : Int) == 0) = true := by subst hc; rfl
              clear hxx hc hks
              go_wp2_with (refine wpList_append_run rfl _ _ _ _ rfl _ _ _ _ rfl rfl hr ?_)
              go_roundw
              case rel => exact ⟨k + 1, by omega, congrArg _ (wrap_s HNM.out hlt), HSET.out, HB4.out⟩
              case measure =>
                rw [wrap_s HNM.out hlt]
                exact int_less hlt
            · by_cases hk00 : k = 0
              · have hk0 : ((k : Int) == 0) = true := by subst hk00; rfl
                clear hxx hc hks hk00
                go_wp2_with (refine wpList_append_run rfl _ _ _ _ rfl _ _ _ _ rfl rfl hr ?_)
                go_roundw
                case rel => exact ⟨k + 1, by omega, congrArg _ (wrap_s HNM.out hlt), HSET.out, HB4.out⟩
                case measure =>
                  rw [wrap_s HNM.out hlt]
                  exact int_less hlt
              · have hk0 : ((k : Int) == 0) = false := by simp; omega
                have hy : S[k - 1]? = some (S[k - 1]'(by omega)) := List.getElem?_eq_getElem (by omega)
                obtain ⟨g2, off2, hgo, hcy⟩ := HCS.out (k - 1) _ hy
                have hcell2 := hcy wq HB3.out
                injection hgo with hgo
                injection hgo with hg1 hg2
                subst hg1; subst hg2
                generalize S[k - 1]'(by omega) = y at hc hcell2
                obtain ⟨k1, hk1⟩ : ∃ k1, k1 = k - 1 := ⟨_, rfl⟩
                rw [← hk1] at hcell2
                have hxy : (x != y) = true := by simpa using hc
                have hk1n : (k1 : Int) < n := by omega
                have hkw : wrap64 ((k : Int) - 1) = (k1 : Int) := by rw [wrap64_in _ (by have := HNL.out; omega)]; omega
                clear hxx hc hks hk00 hk1 hy hcy
                go_wp2_with (refine wpList_append_run rfl _ _ _ _ rfl _ _ _ _ rfl rfl hr ?_)
                go_roundw
                case rel => exact ⟨k + 1, by omega, congrArg _ (wrap_s HNM.out hlt), HSET.out, HB4.out⟩
                case measure =>
                  rw [wrap_s HNM.out hlt]
                  exact int_less hlt
          · obtain ⟨B, nn, hA1, hR1, hn1, hn2⟩ := hsame hc
            have hk00 : ¬ k = 0 := fun c => hc (.inl c)
            have hk0 : ((k : Int) == 0) = false := by simp; omega
            have hy : S[k - 1]? = some (S[k - 1]'(by omega)) := List.getElem?_eq_getElem (by omega)
            obtain ⟨g2, off2, hgo, hcy⟩ := HCS.out (k - 1) _ hy
            have hcell2 := hcy wq HB3.out
            injection hgo with hgo
            injection hgo with hg1 hg2
            subst hg1; subst hg2
            have hxy0 : x = S[k - 1]'(by omega) := Decidable.byContradiction fun c => hc (.inr c)
            rw [← hxy0] at hcell2
            obtain ⟨k1, hk1⟩ : ∃ k1, k1 = k - 1 := ⟨_, rfl⟩
            rw [← hk1] at hcell2
            have hxy : (x != x) = false := by simp
            have hk1n : (k1 : Int) < n := by omega
            have hkw : wrap64 ((k : Int) - 1) = (k1 : Int) := by rw [wrap64_in _ (by have := HNL.out; omega)]; omega
            have ho := HO.out
            obtain ⟨g', cap', rfl, hg1, hg2⟩ := Rk.own_form ho (by rw [hA1]; simp)
            have hset := own_n ho B.length (by rw [hA1]; simp) (nn + 1)
            have e : A[B.length]'(by rw [hA1]; simp) = (nn, x) := by simp [hA1]
            obtain ⟨c0, f0⟩ := Rk.own_cell flatE ho B.length (by rw [hA1]; simp) (i := 0) (u := .int .i64 nn) (by rw [e]; rfl)
            rw [Nat.add_zero] at c0 f0
            rw [e] at hset
            have e2 : A.set B.length (nn + 1, x) = R := by rw [hA1, hR1]; simp
            rw [e2, HR.out] at hset
            have HSET := Lib.hid hset
            have HB4 : Hid (Below w2.heap.size w2 (wq.setCell ⟨g', B.length * 2, none⟩ (.int .i64 (nn + 1)))) := Lib.hid (HB3.out.setCell (p := ⟨g', B.length * 2, none⟩) hg1 _)
            have hwn : wrap64 (nn + 1) = nn + 1 := wrap64_in _ (by have := HNL.out; omega)
            obtain ⟨m1, hm1⟩ : ∃ m1, m1 = A.length := ⟨_, rfl⟩
            have hmA : A.length = B.length + 1 := by rw [hA1]; simp
            obtain ⟨m, hm⟩ : ∃ m, m = B.length := ⟨_, rfl⟩
            rw [← hm1] at HSET ⊢
            rw [← hm] at c0 f0 HSET HB4
            have hmm : (m : Int) < m1 := by omega
            have hwm : wrap64 ((m1 : Int) - 1) = (m : Int) := by rw [wrap64_in _ (by have := HNL.out; have := HAL.out; omega)]; omega
            clear hset e e2 hmA hm hm1 hA1 hR1 hn1 hn2 ho hg1 hg2 hy hcy hxy0 hk1 hk00 hc hxx hnew hsame hal hR hA hx hcx hks HO
            go_wp2_with fail
            go_roundw
            case rel => exact ⟨k + 1, by omega, congrArg _ (wrap_s HNM.out hlt), HSET.out, HB4.out⟩
            case measure =>
              rw [wrap_s HNM.out hlt]
              exact int_less hlt
        · obtain rfl : k = n := by omega
          have ho := HO.out
          rw [HN.out, List.take_length] at ho
          have HOE := Lib.hid ho
          clear ho HO HCS
          go_wp2_with fail
          go_ret
          exact ⟨_, rfl, Rk.own_le HOE.out HB2.out.size, HB2.out.trans (HB3.out.mono HB2.out.size)⟩
end Ss
end Go.Proofs.Ytmkilmglmeohmaa
