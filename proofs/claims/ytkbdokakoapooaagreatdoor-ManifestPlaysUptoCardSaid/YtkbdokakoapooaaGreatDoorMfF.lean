/- manifest's call mayBe. Conditions: those that each theorem names. -/
import Derived.Test.YtkbdokakoapooaaGreatDoorMfE
namespace Go.Proofs.YtkbdokakoapooaaGreatDoor
set_option linter.unusedVariables false
open Go Go.RowKit Go.Shelf Go.Sort
namespace Mf
theorem cells4 (w : World) (a b c d : Value) (T : TypeId) : (w.alloc (.cells #[a, b, c, d] T)).cell? ⟨w.heap.size, 0, none⟩ = some a ∧ (w.alloc (.cells #[a, b, c, d] T)).cell? ⟨w.heap.size, 1, none⟩ = some b ∧
    (w.alloc (.cells #[a, b, c, d] T)).cell? ⟨w.heap.size, 2, none⟩ = some c ∧ (w.alloc (.cells #[a, b, c, d] T)).cell? ⟨w.heap.size, 3, none⟩ = some d := by
  have h := heap_new w (.cells #[a, b, c, d] T)
  refine ⟨?_, ?_, ?_, ?_⟩ <;> rw [Lib.cell_of_heap h] <;> rfl
theorem ownT_base {w : World} {base b2 : Nat} {v : Value} {L : List ByteArray} (h : OwnT w base v L) (hb : b2 ≤ base) : OwnT w b2 v L := by
  refine ⟨h.1, ?_⟩
  rcases h.2 with h0 | ⟨g, cap, cur, rfl, h1, h2⟩
  · exact .inl h0
  · exact .inr ⟨g, cap, cur, rfl, Nat.le_trans hb h1, h2⟩
/-- Concat at a row and one text more, as mayBe lays them. -/
theorem concat_two (x : Value) (A : List ByteArray) (y : ByteArray) (w : World) (hx : TxsAt w x A) (hl : A.length ≤ 1048576) :
    Calls Tryz.prog 101 #[.slice (some ⟨w.heap.size + 1, 0, none⟩) 2 2] ((w.alloc (.cells #[.string y] 9)).alloc (.cells #[x, .slice (some ⟨w.heap.size, 0, none⟩) 1 1] 59))
      fun e w' => ∃ u, e = .returned u ∧ OwnT w' w.heap.size u (A ++ [y]) ∧ Below w.heap.size w w' := by
  obtain ⟨w1, hw1⟩ : ∃ w1, w1 = w.alloc (.cells #[.string y] 9) := ⟨_, rfl⟩
  have hs1 : w1.heap.size = w.heap.size + 1 := by rw [hw1]; simp
  have hb1 : Below w.heap.size w w1 := by rw [hw1]; exact below_new _ _
  have hnew : w1.heap[w.heap.size]? = some (.cells #[.string y] 9) := by rw [hw1]; exact heap_new w _
  rw [← hw1]
  obtain ⟨w2, hw2⟩ : ∃ w2, w2 = w1.alloc (.cells #[x, .slice (some ⟨w.heap.size, 0, none⟩) 1 1] 59) := ⟨_, rfl⟩
  have hs2 : w2.heap.size = w.heap.size + 2 := by rw [hw2]; simp [hs1]
  have hb2 : Below w1.heap.size w1 w2 := by rw [hw2]; exact below_new _ _
  have hnew2 : w2.heap[w.heap.size + 1]? = some (.cells #[x, .slice (some ⟨w.heap.size, 0, none⟩) 1 1] 59) := by rw [hw2, ← hs1]; exact heap_new w1 _
  have hold2 : w2.heap[w.heap.size]? = some (.cells #[.string y] 9) := (hb2.block _ (by omega)).trans hnew
  rw [← hw2]
  have hB : Below w.heap.size w w2 := below_then hb1 hb2
  have h1 : TxsAt w2 (.slice (some ⟨w.heap.size, 0, none⟩) 1 1) [y] := by
    refine .inr ⟨w.heap.size, 0, 1, rfl, by omega, Nat.le_refl _, fun W hW j hj => ?_⟩
    have hj0 : j = 0 := by simpa using hj
    subst hj0
    rw [Lib.cell_of_heap (hW.trans hold2)]
    rfl
  have e : catN (fun k => if k = 0 then A else [y]) 2 = A ++ [y] := by simp [catN]
  have hlen : (A ++ [y]).length = A.length + 1 := by simp
  have := concat_any (w.heap.size + 1) 2 2 (fun k => if k = 0 then x else .slice (some ⟨w.heap.size, 0, none⟩) 1 1) (fun k => if k = 0 then A else [y]) w2 (by omega) (by omega)
    (fun W hW k hk => by
      rw [Lib.cell_of_heap (hW.trans hnew2)]
      rcases k with _ | _ | k
      · rfl
      · rfl
      · omega)
    (fun k hk => by
      rcases k with _ | _ | k
      · exact hx.below hB
      · exact h1
      · omega)
    (by rw [e]; omega) (by rw [e]; omega)
  rw [e] at this
  refine this.mono ?_
  rintro x2 w' ⟨u, rfl, h3, h4⟩
  exact ⟨u, rfl, ownT_base h3 (by omega), hB.trans (h4.mono (by omega))⟩
theorem ownT_kept {w w' : World} {base : Nat} {v : Value} {L : List ByteArray} (h : OwnT w base v L) (hb : Below w.heap.size w w') : OwnT w' base v L := by
  refine ⟨h.1, ?_⟩
  rcases h.2 with h0 | ⟨g, cap, cur, rfl, h1, hg, h2⟩
  · exact .inl h0
  · have hlt : g < w.heap.size := by
      rcases Nat.lt_or_ge g w.heap.size with c | c
      · exact c
      · rw [Array.getElem?_eq_none c] at hg; cases hg
    exact .inr ⟨g, cap, cur, rfl, h1, (hb.block g hlt).trans hg, h2⟩
def nmsOf (m : Mn) : List ByteArray := m.segs ++ [m.log]
set_option maxHeartbeats 4000000 in
set_option maxRecDepth 100000 in
theorem mayBe_any (m : Mn) (v : Value) (w : World) (hv : MnAt w v m) (hm : Small m) (G : Gh w) :
    Calls Tryz.prog 67 #[v] w fun e w' => e = .returned (.bool (may m)) ∧ Below w.heap.size w w' := by
  obtain ⟨p, c, rfl, ht⟩ := hv
  obtain ⟨A, l, nx, sq⟩ := m
  obtain ⟨m1, m2, m3, m4, m5, m6, m7⟩ := hm
  dsimp only at *
  obtain ⟨R, hR⟩ : ∃ R, R = may ⟨A, l, nx, sq⟩ := ⟨_, rfl⟩
  rw [← hR]
  rw [may_eq] at hR
  dsimp only at hR
  have HR := Lib.hid hR
  have HT := Lib.hid ht
  have HG := Lib.hid G
  have HM : Hid (A.length ≤ 1048576 ∧ l.size ≤ 16777215 ∧ ∀ s ∈ A, s.size ≤ 16777215) := Lib.hid ⟨m1, m2, m3⟩
  obtain ⟨n, hn⟩ : ∃ n, n = A.length := ⟨_, rfl⟩
  rw [← hn] at HT ⊢
  have HN := Lib.hid hn
  clear hR ht G m1 m2 m3 m4 m6 m7 hn
  obtain ⟨d0, d1, d2, d3⟩ := cells4 w (.slice p n c) (.string l) (.int .i64 nx) (.int .i64 sq) 61
  have HB := Lib.hid (below_new w (.cells #[.slice p n c, .string l, .int .i64 nx, .int .i64 sq] 61))
  have HZ : Hid ((w.alloc (.cells #[.slice p n c, .string l, .int .i64 nx, .int .i64 sq] 61)).heap[w.heap.size]? = some (.cells #[.slice p n c, .string l, .int .i64 nx, .int .i64 sq] 61 (0, 0))) := Lib.hid (heap_new w _)
  go_enter Tryz.func67, Tryz.ntmps67
  have no : ∀ (b : Bool), b = false → Hid (R = false) → Ending.returned (Value.bool b) = .returned (.bool R) := fun b h1 h2 => by rw [h2.out, h1]
  by_cases q1 : nx < 1
  · have HX : Hid (R = false) := Lib.hid (by rw [HR.out, decide_eq_false (show ¬ 1 ≤ nx by omega)]; rfl)
    go_wp2_with fail
    go_ret
    rw [HX.out]; exact ⟨rfl, HB.out⟩
  by_cases q2 : 4503599627370496 < nx
  · have HX : Hid (R = false) := Lib.hid (by rw [HR.out, decide_eq_false (show ¬ nx ≤ 4503599627370496 by omega)]; simp)
    go_wp2_with fail
    go_ret
    rw [HX.out]; exact ⟨rfl, HB.out⟩
  by_cases q3 : sq < 0
  · have HX : Hid (R = false) := Lib.hid (by rw [HR.out, decide_eq_false (show ¬ 0 ≤ sq by omega)]; simp)
    go_wp2_with fail
    go_ret
    rw [HX.out]; exact ⟨rfl, HB.out⟩
  by_cases q4 : 4503599627370496 < sq
  · have HX : Hid (R = false) := Lib.hid (by rw [HR.out, decide_eq_false (show ¬ sq ≤ 4503599627370496 by omega)]; simp)
    go_wp2_with fail
    go_ret
    rw [HX.out]; exact ⟨rfl, HB.out⟩
  by_cases q5 : (1024 : Int) < (n : Int)
  · have HX : Hid (R = false) := Lib.hid (by rw [HR.out, decide_eq_false (show ¬ A.length ≤ 1024 by have := HN.out; omega)]; simp)
    go_wp2_with fail
    go_ret
    rw [HX.out]; exact ⟨rfl, HB.out⟩
  have HR2 : Hid (R = ((A ++ [l]).all (fun s => isNm nx (bl s)) && decide ((A ++ [l]).map bl).Nodup)) := Lib.hid (by
    rw [HR.out, decide_eq_true (show 1 ≤ nx by omega), decide_eq_true (show nx ≤ 4503599627370496 by omega), decide_eq_true (show 0 ≤ sq by omega), decide_eq_true (show sq ≤ 4503599627370496 by omega), decide_eq_true (show A.length ≤ 1024 by have := HN.out; omega)]
    rfl)
  clear HR
  have HZC : Hid (w.heap.size < (w.alloc (.cells #[.slice p n c, .string l, .int .i64 nx, .int .i64 sq] 61)).heap.size) := Lib.hid (by simp)
  have HK : Hid (∀ (W : World), Below (w.alloc (.cells #[.slice p n c, .string l, .int .i64 nx, .int .i64 sq] 61)).heap.size (w.alloc (.cells #[.slice p n c, .string l, .int .i64 nx, .int .i64 sq] 61)) W → W.cell? ⟨w.heap.size, 2, none⟩ = some (.int .i64 nx)) := Lib.hid (fun W hW => by
    rw [Lib.cell_of_heap ((hW.block _ HZC.out).trans HZ.out)]; rfl)
  have HC2 := Lib.hid (concat_two (.slice p n c) A l (w.alloc (.cells #[.slice p n c, .string l, .int .i64 nx, .int .i64 sq] 61)) (HT.out.below HB.out) HM.out.1)
  have hW0 : (w.alloc (.cells #[.slice p n c, .string l, .int .i64 nx, .int .i64 sq] 61)).heap.size = w.heap.size + 1 := by simp
  have HW0 := Lib.hid hW0
  rw [hW0] at HC2 HK
  clear hW0 HZC
  go_wp2_with fail
  generalize w.alloc (.cells #[.slice p n c, .string l, .int .i64 nx, .int .i64 sq] 61) = W0 at *
  clear d0 d1 d2 d3
  refine HC2.out.mono ?_
  clear HC2
  rintro e w1 ⟨u, rfl, ho, hb⟩
  obtain ⟨pu, cu, rfl⟩ := ho.at.form
  have hlen : (A ++ [l]).length = n + 1 := by have := HN.out; simp; omega
  have hns : ∀ x ∈ A ++ [l], x.size ≤ 16777215 := fun x hx => by
    rcases List.mem_append.1 hx with h | h
    · exact HM.out.2.2 x h
    · have : x = l := by simpa using h
      rw [this]; exact HM.out.2.1
  have HLN := Lib.hid hlen
  have HNS := Lib.hid hns
  have HO := Lib.hid ho
  have HB1 := Lib.hid hb
  have HG1 := Lib.hid (HG.out.below (HB.out.trans (hb.mono (by omega))))
  have HBW : Hid (Below w.heap.size w w1) := Lib.hid (HB.out.trans (hb.mono (by omega)))
  have hnb : n ≤ 1024 := by omega
  clear ho hb hlen hns q5
  generalize A ++ [l] = L at *
  obtain ⟨N, hN⟩ : ∃ N, N = L.length := ⟨_, rfl⟩
  rw [← hN] at HLN HO ⊢
  have HNL := Lib.hid hN
  have hN1 : N ≤ 1025 := by rw [HLN.out]; omega
  clear hN hnb
  have HIN : Hid (∀ (x : ByteArray) (W : World), x.size ≤ 16777215 → Gh W → Calls Tryz.prog 102 #[.string x, .int .i64 nx] W fun e w' => e = .returned (.bool (isNm nx (bl x))) ∧ Below W.heap.size W w') := Lib.hid (fun x W hx G => by
    rw [← nm_prog nx (by omega)]
    exact isName_any x nx W hx (by omega) G)
  go_wp2_with fail
  go_loopw [39] (fun i wr => ∃ k : Nat, k ≤ N ∧ i = .int .i64 k ∧ Hid ((L.take k).all (fun s => isNm nx (bl s)) = true) ∧ Below w1.heap.size w1 wr) (fun i _ => N - (intOf i).toNat)
  case atStart => exact ⟨0, Nat.zero_le _, rfl, Lib.hid (by simp), Below.refl _ _⟩
  case round =>
    obtain ⟨k, hk, rfl, HA, hb2⟩ := hrel
    have HB2 := Lib.hid hb2
    clear hb2
    obtain ⟨wo, rfl⟩ : ∃ wo : World, wo = wr := ⟨_, rfl⟩
    by_cases hlt : k < N
    · have hlt' : k < L.length := by rw [← HNL.out]; exact hlt
      have hta := HO.out.at
      obtain ⟨g, off, rfl, hc⟩ := txs_cell hta hlt'
      have hcell := hc wo HB2.out
      have hx : L[k]? = some L[k] := List.getElem?_eq_getElem hlt'
      have hxs := HNS.out L[k] (List.getElem_mem hlt')
      have hcw : wo.cell? ⟨w.heap.size, 2, none⟩ = some (.int .i64 nx) := HK.out wo (HB1.out.trans (HB2.out.mono (by have := HB1.out.size; have := HW0.out; omega)))
      generalize L[k] = x at hcell hx hxs
      have HC := Lib.hid (HIN.out x wo hxs (HG1.out.below HB2.out))
      have HNX : Hid ((L.take (k + 1)).all (fun s => isNm nx (bl s)) = isNm nx (bl x)) := Lib.hid (by
        rw [List.take_add_one, hx, List.all_append, HA.out]; simp)
      have HFX : Hid (isNm nx (bl x) = false → R = false) := Lib.hid (fun h => by
        rw [HR2.out]
        have : L.all (fun s => isNm nx (bl s)) = false := by
          rw [← Bool.not_eq_true, List.all_eq_true]
          intro h'
          rw [h' x (List.mem_of_getElem? hx)] at h
          cases h
        rw [this]; rfl)
      generalize isNm nx (bl x) = b at *
      clear hta hc hx hxs
      cases b with
      | true =>
        go_wp2_with fail
        refine HC.out.mono ?_
        rintro e w2 ⟨rfl, hb3⟩
        have HB3 := Lib.hid (below_then HB2.out hb3)
        clear hb3 HC
        go_wp2_with fail
        go_roundw
        case rel => exact ⟨k + 1, by omega, congrArg _ (show (k : Int) + 1 = ((k + 1 : Nat) : Int) by omega), HNX, HB3.out⟩
        case measure =>
          simp only [intOf]; omega
      | false =>
        go_wp2_with fail
        refine HC.out.mono ?_
        rintro e w2 ⟨rfl, hb3⟩
        have HB3 := Lib.hid (below_then HB2.out hb3)
        clear hb3 HC
        go_wp2_with fail
        go_ret
        exact ⟨no _ rfl (Lib.hid (HFX.out trivial)), HBW.out.trans (HB3.out.mono HBW.out.size)⟩
    · obtain rfl : k = N := by omega
      have HR3 : Hid (R = decide (L.map bl).Nodup) := Lib.hid (by
        rw [HR2.out]
        have := HA.out
        rw [HNL.out, List.take_length] at this
        rw [this]; rfl)
      have hsz : w.heap.size + 1 ≤ wo.heap.size := by have := HB1.out.size; have := HW0.out; have := HB2.out.size; omega
      have hln : (L.map bl).length = k := by rw [List.length_map, HNL.out]
      have HS := Lib.hid (sort_own (L.map bl) _ (w.heap.size + 1) wo (ownT_kept HO.out HB2.out).bytes hsz (by rw [hln]; omega))
      have HSZ := Lib.hid hsz
      have HLL := Lib.hid hln
      clear hsz hln
      go_wp2_with fail
      refine HS.out.mono ?_
      clear HS
      rintro e w3 ⟨rfl, ho3, hb3⟩
      have HC3 := Lib.hid (compact_own (srtB (L.map bl)) _ (w.heap.size + 1) w3 ho3 (by have := hb3.size; have := HSZ.out; omega) (by rw [srtB_len, HLL.out]; omega))
      have HB3 := Lib.hid hb3
      clear ho3 hb3
      go_wp2_with fail
      refine HC3.out.mono ?_
      clear HC3
      rintro e w4 ⟨p4, c4, rfl, hb4⟩
      have HB4 := Lib.hid (HB3.out.trans hb4)
      have HNU : Hid ((Lib.compact (srtB (L.map bl))).length = k ↔ (L.map bl).Nodup) := Lib.hid (by
        have := compact_len (L.map bl)
        rw [HLL.out] at this; exact this)
      have hle : (Lib.compact (srtB (L.map bl))).length ≤ k := by
        have := Lib.compact_length_le (srtB (L.map bl))
        rw [srtB_len, HLL.out] at this; exact this
      clear hb4
      generalize (Lib.compact (srtB (L.map bl))).length = q at *
      have hqm : (q : Int) ≤ 9223372036854775807 := by omega
      have HFIN : Hid (((q : Int) == (k : Int)) = R) := Lib.hid (by
        rw [HR3.out, Bool.eq_iff_iff, beq_iff_eq, decide_eq_true_eq, ← HNU.out]
        omega)
      have HBF : Hid (Below w.heap.size w w4) := Lib.hid (HBW.out.trans ((HB2.out.mono HBW.out.size).trans (HB4.out.mono (by omega))))
      go_wp2_with fail
      go_ret
      exact ⟨congrArg (fun b => Ending.returned (Value.bool b)) HFIN.out, HBF.out⟩
end Mf
end Go.Proofs.YtkbdokakoapooaaGreatDoor
