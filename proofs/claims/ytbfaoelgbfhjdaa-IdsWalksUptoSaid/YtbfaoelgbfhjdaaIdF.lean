/- The document's own Put: a number more in a rising row of one's own. Conditions: those that each theorem names. -/
import Derived.Test.YtbfaoelgbfhjdaaIdE
import Derived.Laws.CopyOwn
import Derived.StillTailTactics
namespace Go.Proofs.Ytbfaoelgbfhjdaa
set_option linter.unusedVariables false
open Go Go.RowKit Ids
/-- A slice of one number, new. -/
theorem one_int (w : World) (x : Int) : IntsAt (w.alloc (.cells #[.int .i64 x] 3)) (.slice (some ⟨w.heap.size, 0, none⟩) 1 1) [x] := new_ints w [x] 1 rfl
/-- An own row laid over from place k + 1 on with what stood from k on. -/
theorem own_splice {w' : World} {base g cap : Nat} {M cs : List Int} {cur : Array Value} (off : Nat) (hg : base ≤ g) (h1 : M.length ≤ cap) (h2 : cap ≤ maxLen) (h3 : cur.size = cap) (h4 : cur.toList.take M.length = ints M)
    (hoff : off + cs.length = M.length) (hw : w'.heap[g]? = some (.cells (splice cur.toList off (ints cs)).toArray 3 (0, 0))) :
    Own w' base (.slice (some ⟨g, 0, none⟩) M.length cap) (M.take off ++ cs) := by
  have hlen : (M.take off ++ cs).length = M.length := by simp; omega
  have hcur : cur.toList.take off = ints (M.take off) := by
    have e : (cur.toList.take M.length).take off = (ints M).take off := by rw [h4]
    rw [List.take_take, Nat.min_eq_left (by omega)] at e
    rw [e]; simp [ints]
  have hl : (ints cs).length = cs.length := ints_length cs
  refine ⟨by rw [ints_length, Nat.mul_one], .inr ⟨g, cap, _, by rw [hlen], hg, hw, by rw [hlen]; exact h1, h2, ?_, ?_⟩⟩
  · have := length_splice cur.toList off (ints cs) (by have e := Array.length_toList (xs := cur); omega)
    simp only [List.size_toArray, this, Array.length_toList, Nat.mul_one]; exact h3
  · rw [hlen, Nat.mul_one]
    have e : (splice cur.toList off (ints cs)).toArray.toList = (cur.toList.take off ++ ints cs) ++ cur.toList.drop (off + (ints cs).length) := by simp [splice]
    rw [e, hcur, List.take_append_of_le_length (by simp [ints]; omega), List.take_of_length_le (by simp [ints]; omega)]
    simp [ints]
theorem put_set (L : List Int) (n : Int) (k : Nat) (hk : k ≤ L.length) : (((L ++ [0]).take (k + 1)) ++ L.drop k).set k n = L.take k ++ n :: L.drop k := by
  have e : (L ++ [0]).take (k + 1) = L.take k ++ [(L ++ [0])[k]'(by simp; omega)] := by
    rw [List.take_succ_eq_append_getElem (by simp; omega), List.take_append_of_le_length hk]
  rw [e, List.append_assoc, List.set_append_right _ _ (by simp; omega)]
  simp [Nat.min_eq_left hk]
theorem put_done {w4 : World} {base g cap lo K : Nat} {L : List Int} {n : Int} {cur : Array Value} (hgb : base ≤ g) (h : (L ++ [0]).length ≤ cap ∧ cap ≤ maxLen ∧ cur.size = cap ∧ cur.toList.take (L ++ [0]).length = ints (L ++ [0])) (hK : K = lo + 1) (hlo : lo ≤ L.length)
    (hg : w4.heap[g]? = some (.cells (splice cur.toList K (ints (L.drop lo))).toArray 3 (0, 0))) :
    ∃ y : Int, w4.cell? ⟨g, lo, none⟩ = some (.int .i64 y) ∧ w4.frozen? ⟨g, lo, none⟩ = false ∧ Own (w4.setCell ⟨g, lo, none⟩ (.int .i64 n)) base (.slice (some ⟨g, 0, none⟩) (L.length + 1) cap) (L.take lo ++ n :: L.drop lo) := by
  obtain ⟨h1, h2, h3, h4⟩ := h
  subst hK
  have O := own_splice (M := L ++ [0]) (cs := L.drop lo) (lo + 1) hgb h1 h2 h3 h4 (by simp; omega) hg
  have hx : ((L ++ [0]).take (lo + 1) ++ L.drop lo)[lo]? = some ((L ++ [0])[lo]'(by simp; omega)) := by
    rw [List.getElem?_append_left (by simp; omega), List.getElem?_take_of_lt (by omega), List.getElem?_eq_getElem]
  obtain ⟨c, f, s⟩ := own_cell O lo _ hx
  have s' := s n
  rw [put_set L n lo hlo] at s'
  rw [List.length_append] at s'
  exact ⟨_, c, f, s'⟩
set_option maxHeartbeats 4000000 in
theorem put_any (L : List Int) (v : Value) (n : Int) (base : Nat) (w : World) (h : Own w base v L) (hl : L.length + 1 ≤ 17592186044416) (hL : Ris L) (hbase : base ≤ w.heap.size) :
    Calls Try.prog 35 #[v, .int .i64 n] w fun e w' => ∃ u, e = .returned u ∧ Own w' base u (put n L) ∧ Below base w w' := by
  have HS := Lib.hid hl
  have HML : Hid (L.length ≤ maxLen) := Lib.hid (by unfold maxLen; omega)
  have HL := Lib.hid hL
  have HO := Lib.hid h
  have HB := Lib.hid hbase
  obtain ⟨p, c, hv⟩ := h.at.form
  have HAT := Lib.hid h.at
  clear hl hL h hbase
  subst hv
  have HC : Hid (∀ k (hk : k < L.length), ∃ b off, p = some ⟨b, off, none⟩ ∧ w.cell? ⟨b, off + k, none⟩ = some (.int .i64 L[k])) := Lib.hid (by
    intro k hk
    rcases HAT.out with ⟨h0, _⟩ | ⟨b, off, c2, e, _, hc⟩
    · subst h0; simp at hk
    · injection e with e1
      exact ⟨b, off, e1, hc w rfl k hk⟩)
  go_enter Try.func35, Try.ntmps35
  go_wp2
  go_loop [5, 6] (fun i j => ∃ lo hi : Nat, i = .int .i64 lo ∧ j = .int .i64 hi ∧ Hid (Srch L n lo hi)) (fun i j => (intOf j).toNat - (intOf i).toNat)
  case atStart => exact ⟨0, L.length, rfl, rfl, Lib.hid (Srch.start L n)⟩
  case round =>
    obtain ⟨lo, hi, rfl, rfl, HI⟩ := hrel
    have hhi := HI.out.2.1
    by_cases hlt : lo < hi
    · obtain ⟨m, hm⟩ : ∃ m, m = (lo + hi) / 2 := ⟨_, rfl⟩
      have hbd := half_bd hlt
      rw [← hm] at hbd
      have hml : m < L.length := by omega
      obtain ⟨b, off, rfl, hcell⟩ := HC.out m hml
      have hup := Lib.hid fun c => HI.out.up HL.out hbd.1 hbd.2 c
      have hdn := Lib.hid fun c => HI.out.down HL.out hbd.1 hbd.2 c
      generalize L[m] = x at hcell hup hdn
      have e1 : wrap64 ((lo : Int) + (hi : Int)) = (lo : Int) + (hi : Int) := wrapI _ (by have := HS.out; omega)
      have e2 := half_quo (lo := lo) (hi := hi) (by have := HS.out; omega)
      rw [← hm] at e2
      have hmz : (0 : Int) ≤ m := by omega
      have hlt' : (m : Int) < (L.length : Int) := by omega
      clear HI
      have HM := Lib.hid hm
      have HBD := Lib.hid hbd
      clear hm hbd
      by_cases hx : x < n
      · have HU := Lib.hid (hup.out hx)
        clear hup hdn
        go_wp2_with fail
        go_round
        case rel => exact ⟨m + 1, hi, congrArg _ (wrap_s HML.out hml), rfl, HU⟩
        case measure => rw [wrap_s HML.out hml]; exact meas_up HBD.out
      · have HU := Lib.hid (hdn.out hx)
        clear hup hdn
        go_wp2_with fail
        go_round
        case rel => exact ⟨lo, m, rfl, congrArg _ e2, HU⟩
        case measure => rw [e2]; exact meas_dn HBD.out
    · obtain rfl : lo = hi := by have := HI.out.1; omega
      have HT := Lib.hid (HI.out.put HL.out)
      clear HI
      by_cases hin : ∃ hk : lo < L.length, L[lo] = n
      · obtain ⟨hk, he⟩ := hin
        obtain ⟨b, off, rfl, hcell⟩ := HC.out lo hk
        have hlt' : (lo : Int) < (L.length : Int) := by omega
        have HE : Hid (put n L = L) := Lib.hid (by rw [HT.out, if_pos ⟨hk, he⟩])
        rw [he] at hcell
        clear HT he
        go_wp2_with fail
        go_ret
        exact ⟨_, rfl, by rw [HE.out]; exact HO.out, Below.refl _ _⟩
      · have HN : Hid (put n L = L.take lo ++ n :: L.drop lo) := Lib.hid (by rw [HT.out, if_neg hin])
        have hcase : (∃ b off x, p = some ⟨b, off, none⟩ ∧ w.cell? ⟨b, off + lo, none⟩ = some (.int .i64 x) ∧ (x == n) = false ∧ (lo : Int) < (L.length : Int)) ∨ ¬ (lo : Int) < (L.length : Int) := by
          by_cases hk : lo < L.length
          · obtain ⟨b, off, rfl, hcell⟩ := HC.out lo hk
            exact .inl ⟨b, off, _, rfl, hcell, by simp; exact fun e => hin ⟨hk, e⟩, by omega⟩
          · exact .inr (by omega)
        clear HT hin hlt
        have HLO := Lib.hid hhi
        obtain ⟨v1, w1, hr, ho1, hg1⟩ := append_ints (w := w.alloc (.cells #[.int .i64 0] 3)) (own_below HO.out (below_new w _)) (one_int w 0) (by have := HS.out; simp; omega) (by have := HB.out; simp; omega)
        obtain ⟨g, cap, hv1, hgb, hgl⟩ := own_form ho1 (by simp)
        subst hv1
        have HB1 : Hid (Below base w w1) := Lib.hid (((Below.refl base w).alloc HB.out _).grown hg1 (by have := HB.out; simp; omega) (fun j hj => (HO.out.block j hj).1))
        have HO1 := Lib.hid ho1
        have HGB := Lib.hid hgb
        have HG : Hid (∃ cur : Array Value, w1.heap[g]? = some (.cells cur.toList.toArray 3 (0, 0)) ∧ (L ++ [0]).length ≤ cap ∧ cap ≤ maxLen ∧ cur.size = cap ∧ cur.toList.take (L ++ [0]).length = ints (L ++ [0])) := Lib.hid (by
          rcases ho1.2 with ⟨h0, _⟩ | ⟨g2, cap2, cur, he, hb, hg, h1, h2, h3, h4⟩
          · cases h0
          · injection he with e1 e2 e3
            injection e1 with e1
            injection e1 with e1
            subst e1 e3
            exact ⟨cur, by simpa using hg, h1, h2, by simpa using h3, by simpa using h4⟩)
        clear ho1 hg1 hgb
        rw [List.length_append] at hr
        simp only [List.length_cons, List.length_nil, Nat.zero_add] at hr
        obtain ⟨cur, HGc, HG4⟩ := HG.out
        have HGD : w1.drew.heap[g]? = some (.cells cur.toList.toArray 3 (0, 0)) := HGc
        have HG4 := Lib.hid HG4
        have HBD := HB1.out.drew
        have hcs : (ints (L.drop lo)).length = L.length - lo := by simp [ints]
        have hcell : ∀ j v, (ints (L.drop lo))[j]? = some v → w1.drew.cell? ((⟨g, lo, none⟩ : Addr).add j) = some v := by
          intro j v hj
          have ha : (⟨g, lo, none⟩ : Addr).add j = ⟨g, lo + j, none⟩ := by unfold Addr.add; split <;> simp_all
          rw [ha]
          have hj' : j < L.length - lo := by
            rcases Nat.lt_or_ge j (L.length - lo) with c | c
            · exact c
            · rw [List.getElem?_eq_none (by rw [hcs]; exact c)] at hj; cases hj
          have hx : (L ++ [0])[lo + j]? = some L[lo + j] := by rw [List.getElem?_append_left (by omega), List.getElem?_eq_getElem (by omega)]
          have h1 := (own_cell HO1.out (lo + j) _ hx).1
          simp [ints, List.getElem?_drop, List.getElem?_eq_getElem (show lo + j < L.length by omega)] at hj
          rw [← hj]; exact h1
        have hone : ∀ v ∈ ints (L.drop lo), v.oneCell' = true := by
          intro v hv
          simp only [ints, List.mem_map] at hv
          obtain ⟨y, _, rfl⟩ := hv
          rfl
        have HCS := Lib.hid hcs
        have HCELL := Lib.hid hcell
        have HONE := Lib.hid hone
        have HGD' := Lib.hid HGD
        have HBD' := Lib.hid HBD
        obtain ⟨K, hK⟩ : ∃ K, K = lo + 1 := ⟨_, rfl⟩
        have hK0 : (0 : Int) ≤ (K : Int) := by omega
        have hK1 : (K : Int) ≤ (L.length : Int) + 1 := by omega
        have hlo0 : (0 : Int) ≤ (lo : Int) := by omega
        have hlo2 : (lo : Int) < (L.length : Int) + 1 := by omega
        have hlo1 : (lo : Int) ≤ (L.length : Int) + 1 := by omega
        have hcl : (cap = lo) = False := by simp; have := HG4.out.1; simp at this; omega
        have HN0 : Hid ((ints (L.drop lo)).length = Nat.min (L.length + 1 - lo) (L.length + 1 - K)) := Lib.hid (by rw [HCS.out]; have := HLO.out; show _ = min _ _; omega)
        have HFIT : Hid (K + (ints (L.drop lo)).length ≤ cur.toList.length) := Lib.hid (by have h1 := HG4.out.1; have h2 := HG4.out.2.2.1; have h3 := HLO.out; have h4 := Array.length_toList (xs := cur); rw [List.length_append] at h1; simp only [List.length_cons, List.length_nil] at h1; rw [HCS.out]; omega)
        have hl1 : IntKind.i64.wrap ((lo : Int) + 1) = (K : Int) := by rw [IntKind.wrap_i64]; have := HS.out; have := HLO.out; omega
        have hl2 : wrap64 ((lo : Int) + 1) = (K : Int) := by rw [wrapI _ (by have := HS.out; have := HLO.out; omega)]; omega
        have HK := Lib.hid hK
        clear hK
        clear hcs hcell hone HGD HBD HGc HG HML HL HC HAT
        by_cases hcK0 : cap = K
        · have HCS0 : Hid ((ints (L.drop lo)).length = 0) := Lib.hid (by have := HG4.out.1; have := HK.out; have := HLO.out; simp [ints] at *; omega)
          have hcK : (cap = K) = True := by simp [hcK0]
          clear hcK0
          rcases hcase with ⟨b, off, x, rfl, hcell, hxe, hlt'⟩ | hnl
          all_goals
            go_wp2_with (at_builtin; refine wpList_append_run rfl _ _ _ _ rfl _ _ _ _ rfl rfl hr ?_)
            go_still_tail 7, (by kernel_rfl)
            change wpList _ _ _ _ _ w1.drew
            refine wpList_copy_splice rfl (.tmp 45) (.tmp 48) 22 22 rfl 3 Try.underlying22 (by kernel_rfl) _ _ _ _ _ _ rfl rfl g K cur.toList 3 HGD'.out (ints (L.drop lo)) HN0.out (fun h => absurd h (HCS0.out ▸ Nat.lt_irrefl 0)) HFIT.out HONE.out base w HBD'.out HGB.out ?_
            intro w4 hg4 hb4
            obtain ⟨y, c4, f4, s4⟩ := put_done HGB.out HG4.out HK.out HLO.out hg4.out
            have HS4 : Hid (Own (w4.setCell ⟨g, lo, none⟩ (.int .i64 n)) base (.slice (some ⟨g, 0, none⟩) (L.length + 1) cap) (L.take lo ++ n :: L.drop lo)) := Lib.hid s4
            clear s4
            go_wp2_with fail
            go_ret
            exact ⟨_, rfl, by rw [HN.out]; exact HS4.out, hb4.setCell HGB.out _⟩
        · have hcK : (cap = K) = False := by simp [hcK0]
          clear hcK0
          rcases hcase with ⟨b, off, x, rfl, hcell, hxe, hlt'⟩ | hnl
          all_goals
            go_wp2_with (at_builtin; refine wpList_append_run rfl _ _ _ _ rfl _ _ _ _ rfl rfl hr ?_)
            go_still_tail 7, (by kernel_rfl)
            change wpList _ _ _ _ _ w1.drew
            refine wpList_copy_splice rfl (.tmp 45) (.tmp 48) 22 22 rfl 3 Try.underlying22 (by kernel_rfl) _ _ _ _ _ _ rfl rfl g K cur.toList 3 HGD'.out (ints (L.drop lo)) HN0.out (fun h => ⟨by simp, ⟨g, lo, none⟩, by simp, HCELL.out⟩) HFIT.out HONE.out base w HBD'.out HGB.out ?_
            intro w4 hg4 hb4
            obtain ⟨y, c4, f4, s4⟩ := put_done HGB.out HG4.out HK.out HLO.out hg4.out
            have HS4 : Hid (Own (w4.setCell ⟨g, lo, none⟩ (.int .i64 n)) base (.slice (some ⟨g, 0, none⟩) (L.length + 1) cap) (L.take lo ++ n :: L.drop lo)) := Lib.hid s4
            clear s4
            go_wp2_with fail
            go_ret
            exact ⟨_, rfl, by rw [HN.out]; exact HS4.out, hb4.setCell HGB.out _⟩
end Go.Proofs.Ytbfaoelgbfhjdaa
