/- The walk of ManifestBack. Conditions: those that each theorem names. -/
import Derived.Test.YtgpedeagaghpfaaDoorMfT
import Derived.Lib.ConvBytes
namespace Go.Proofs.YtgpedeagaghpfaaDoor
set_option linter.unusedVariables false
open Go Go.RowKit Go.Shelf Go.Sort
namespace Mf
/-- The text s with the byte x at the place j. -/
def turned (s : ByteArray) (j : Nat) (x : UInt8) : ByteArray := ⟨s.data.setIfInBounds j x⟩
theorem turned_size (s : ByteArray) (j : Nat) (x : UInt8) : (turned s j x).size = s.size := by
  show (s.data.setIfInBounds j x).size = s.data.size
  simp
theorem turned_bl (s : ByteArray) (j : Nat) (x : UInt8) : bl (turned s j x) = (bl s).set j x := by
  show (s.data.setIfInBounds j x).toList = s.data.toList.set j x
  simp
theorem turned_at (s : ByteArray) (j : Nat) (x : UInt8) (i : Nat) : byN (turned s j x) i = if i = j ∧ i < s.size then x.toNat else byN s i := by
  have hs := turned_size s j x
  by_cases h : i < s.size
  · have e0 : byN (turned s j x) i = ((turned s j x)[i]'(by rw [hs]; exact h)).toNat := by unfold byN; rw [dif_pos (by rw [hs]; exact h)]
    have e1 : byN s i = (s[i]'h).toNat := by unfold byN; rw [dif_pos h]
    have e : (turned s j x)[i]'(by rw [hs]; exact h) = (s.data.setIfInBounds j x)[i]'(by simpa using h) := rfl
    rw [e0, e1, e, Array.getElem_setIfInBounds]
    by_cases hj : j = i
    · rw [if_pos hj, if_pos ⟨hj.symm, h⟩]
    · rw [if_neg hj, if_neg (fun c => hj c.1.symm)]; rfl
  · have e0 : byN (turned s j x) i = 0 := by unfold byN; rw [dif_neg (by rw [hs]; exact h)]
    have e1 : byN s i = 0 := by unfold byN; rw [dif_neg h]
    rw [e0, e1, if_neg (fun c => h c.2)]
theorem byN_bl (s : ByteArray) (j : Nat) (hj : j < s.size) (x : UInt8) (hx : x.toNat ≠ byN s j) : (bl s)[j]? ≠ some x := by
  intro e
  have h := Lib.data_getElem? s j hj
  rw [show s.data.toList = bl s from rfl, e] at h
  injection h with h
  apply hx
  unfold byN
  rw [dif_pos hj, ← h]
theorem setCell_cell (w : World) (g i k : Nat) (cs : Array Value) (t : TypeId) (fr : Nat × Nat) (v : Value) (h : w.heap[g]? = some (.cells cs t fr)) :
    (w.setCell ⟨g, i, none⟩ v).cell? ⟨g, k, none⟩ = (cs.setIfInBounds i v)[k]? := by
  simp [World.cell?, World.setCell, h, Array.getElem?_modify]
/-- What stands behind a conversion of a text into bytes, one of which is written, and back. -/
theorem bytes_turn (w : World) (s : ByteArray) (j : Nat) (x : UInt8) (hj : j < s.size) :
    ∃ cap W, (convert 9 33 (.string s)).run Tryd.prog w = .ok (.slice (some ⟨w.heap.size, 0, none⟩) s.size cap) W ∧
      W.cell? ⟨w.heap.size, j, none⟩ = some (.int .u8 (byN s j : Int)) ∧ W.frozen? ⟨w.heap.size, j, none⟩ = false ∧
      Below w.heap.size w (W.setCell ⟨w.heap.size, j, none⟩ (.int .u8 (x.toNat : Int))) ∧
      (convert 33 9 (.slice (some ⟨w.heap.size, 0, none⟩) s.size cap)).run Tryd.prog (W.setCell ⟨w.heap.size, j, none⟩ (.int .u8 (x.toNat : Int))) = .ok (.string (turned s j x)) (W.setCell ⟨w.heap.size, j, none⟩ (.int .u8 (x.toNat : Int))) := by
  have hrow := Lib.bytesWorld_at_new w 5 s
  have hget : ∀ i, i < s.size → (Lib.bytesCells w 5 s)[i]? = some (.int .u8 (byN s i : Int)) := by
    intro i hi
    have h1 := Lib.bytesWorld_cell w 5 s i hi
    rw [cell_of_row _ _ _ _ _ _ hrow] at h1
    rw [h1]
    unfold byN
    rw [dif_pos hi]
    have : s.data.toList.getD i 0 = s[i]'hi := by simp [List.getD, hi]; rfl
    rw [this]
  have hsz : s.size ≤ (Lib.bytesCells w 5 s).size := by simp [Lib.bytesCells]
  refine ⟨_, _, Lib.run_convert_string_bytes (P := Tryd.prog) w 9 33 5 s Tryd.underlying9 Tryd.underlying33 Tryd.underlying5, ?_, ?_, ?_, ?_⟩
  · rw [cell_of_row _ _ _ _ _ _ hrow, hget j hj]
  · simp [World.frozen?, hrow]; omega
  · refine Below.setCell ⟨?_, ?_, ?_, ?_, fun k hk => Lib.bytesWorld_at_old w 5 s k hk⟩ (Nat.le_refl _) _
    · rfl
    · rfl
    · rfl
    · rw [Lib.bytesWorld_size]; omega
  · have hl : (turned s j x).data.toList.length = s.size := by rw [← turned_size s j x]; simp
    have := run_convert_bytes_back (P := Tryd.prog) ((Lib.bytesWorld w 5 s).setCell ⟨w.heap.size, j, none⟩ (.int .u8 (x.toNat : Int))) 33 9 5 ⟨w.heap.size, 0, none⟩ (grownCap w s.size 0 5) (turned s j x).data.toList Tryd.underlying33 Tryd.underlying5 Tryd.underlying9
      (fun i hi => by
        have ha : (⟨w.heap.size, 0, none⟩ : Addr).add i = ⟨w.heap.size, i, none⟩ := by unfold Addr.add; split <;> simp_all
        have hi' : i < s.size := by rw [hl] at hi; exact hi
        rw [ha, setCell_cell _ _ _ _ _ _ _ _ hrow, Array.getElem?_setIfInBounds]
        have e : (turned s j x).data.toList[i].toNat = byN (turned s j x) i := by
          unfold byN; rw [dif_pos (by rw [turned_size]; exact hi')]; simp; rfl
        rw [e, turned_at]
        by_cases c : j = i
        · subst c; rw [if_pos rfl, if_pos (by omega), if_pos ⟨rfl, hj⟩]
        · rw [if_neg c, hget i hi', if_neg (fun c' => c c'.1.symm)])
    rw [hl] at this
    exact this
theorem nm_len {next : Int} {s : Bs} (h : isNm next s = true) : s.length ≤ 17 := by
  obtain ⟨c, n, rfl, _, _, _, h4⟩ := nm_parts h
  have := dec_len 15 n (by omega)
  simp; omega
theorem flat_len {α : Type} (f : α → Bs) (q : Nat) : ∀ (L : List α), (∀ x ∈ L, (f x).length ≤ q) → (L.flatMap f).length ≤ L.length * q
  | [], _ => by simp
  | x :: L, h => by
    have h1 := flat_len f q L (fun y hy => h y (by simp [hy]))
    have h2 := h x (by simp)
    rw [List.flatMap_cons, List.length_append, List.length_cons, Nat.add_mul]
    omega
theorem enc_small {m : Mn} (h : may m = true) : (encB m).length ≤ 40000 := by
  obtain ⟨h1, h2, h3, h4, h5, h6, h7, _⟩ := (may_iff m).1 h
  obtain ⟨a, ha⟩ := Int.eq_ofNat_of_zero_le (show 0 ≤ m.next by omega)
  obtain ⟨b, hb⟩ := Int.eq_ofNat_of_zero_le h3
  have l1 := dec_len 15 a (by omega)
  have l2 := dec_len 15 b (by omega)
  have l3 := nm_len h6
  have l4 := dec_len 9 (Wl.crcL (bodyB m)) (by have := Wl.crcL_lt (bodyB m); omega)
  have l5 := flat_len (fun s => lineB wSeg (bl s)) 26 m.segs (fun x hx => by
    have := nm_len (h7 x hx)
    simp [lineB, wSeg] at *; omega)
  have e : (bodyB m).length ≤ 39000 := by
    rw [body_eq, ha, hb, itoa_nat, itoa_nat]
    simp only [List.length_append, lineB, List.length_cons, List.length_nil] at l5 ⊢
    simp only [wLode, wNext, wSeq, wLog, List.length_cons, List.length_nil]
    have := Nat.mul_le_mul_right 26 h5
    omega
  unfold encB
  rw [List.length_append]
  have : (tailB (bodyB m)).length ≤ 20 := by
    unfold tailB lineB wSum
    simp; omega
  omega
theorem dec_more {m : Mn} (t : ByteArray) (ht : bl t = encB m ++ [10]) : dec t = none := by
  cases h : dec t with
  | none => rfl
  | some n => exact absurd ((dec_some.1 h).2.trans ht) (one_more m n)
theorem dec_turned {m : Mn} (t : ByteArray) (c : Nat) (x : UInt8) (hc : c < (encB m).length) (hx : (encB m)[c]? ≠ some x) (ht : bl t = (encB m).set c x) : dec t = none := by
  cases h : dec t with
  | none => rfl
  | some n => exact absurd ((dec_some.1 h).2.trans ht) (one_turned m n c x hc hx)
theorem decE_none {t : ByteArray} (h : dec t = none) : decE t = 110 := by unfold decE; rw [h]; rfl
theorem kept_cells {w : World} {K : Nat} {a b c d : Value} {T : TypeId} (h : w.heap[K]? = some (.cells #[a, b, c, d] T (0, 0))) : (∀ o, (w.alloc o).cell? ⟨K, 0, none⟩ = some a) ∧ (∀ o, (w.alloc o).cell? ⟨K, 1, none⟩ = some b) ∧ (∀ o, (w.alloc o).cell? ⟨K, 2, none⟩ = some c) ∧ (∀ o, (w.alloc o).cell? ⟨K, 3, none⟩ = some d) := by
  have hk : K < w.heap.size := (Array.getElem?_eq_some_iff.1 h).1
  refine ⟨fun o => ?_, fun o => ?_, fun o => ?_, fun o => ?_⟩ <;> rw [Lib.cell_of_heap ((heap_old w o hk).trans h)] <;> rfl
set_option maxHeartbeats 4000000 in
set_option maxRecDepth 100000 in
theorem back_walk (m : Mn) (v : Value) (at_ ch : Int) (w : World) (hv : MnAt w v m) (hm : Small m) (hch : (Lit.int .u8 ch).wf = true) (G : Gh w) :
    Calls Tryd.prog 3 #[v, .int .i64 at_, .int .u8 ch] w fun e w' => e = .returned (.bool true) ∧ Below w.heap.size w w' := by
  have hc : 0 ≤ ch ∧ ch ≤ 255 := by simpa [Lit.wf, show IntKind.u8.min = 0 from rfl, show IntKind.u8.max = 255 from rfl] using hch
  have HE := Lib.hid (fun W (hW : Below w.heap.size w W) => encode_any m v W (hv.below hW) hm (G.below hW))
  have HMY := Lib.hid (fun W (hW : Below w.heap.size w W) => rmay_any m v W (hv.below hW) hm)
  have HD := Lib.hid (fun t W (ht : t.size ≤ 16777215) (G : Gh W) => decode_any t W ht G)
  have HSM := Lib.hid (fun x W (hx : MnAt W x m) (hW : Below w.heap.size w W) => same_any m m x v W hx (hv.below hW) hm hm)
  rw [sameM_self] at HSM
  have HAW := Lib.hid (fun W (hW : Below w.heap.size w W) => awake_yes W (G.below hW))
  have HG := Lib.hid G
  obtain ⟨p, c, rfl, ht⟩ := hv
  obtain ⟨n, hn⟩ : ∃ n, n = m.segs.length := ⟨_, rfl⟩
  obtain ⟨l, hl⟩ : ∃ l, l = m.log := ⟨_, rfl⟩
  obtain ⟨nx, hnx⟩ : ∃ n, n = m.next := ⟨_, rfl⟩
  obtain ⟨sq, hsq⟩ : ∃ n, n = m.seq := ⟨_, rfl⟩
  rw [← hn, ← hl, ← hnx, ← hsq] at HE HMY HSM ⊢
  clear hn hl hnx hsq G hch ht hm
  have hb0 := below_new w (.cells #[.slice p n c, .string l, .int .i64 nx, .int .i64 sq] 24)
  have hz0 := heap_new w (.cells #[.slice p n c, .string l, .int .i64 nx, .int .i64 sq] 24)
  have hss : (w.alloc (.cells #[.slice p n c, .string l, .int .i64 nx, .int .i64 sq] 24)).heap.size = w.heap.size + 1 := by simp
  obtain ⟨d0, d1, d2, d3⟩ := of_cells4 hz0
  have HW : Hid (∀ W : World, Below (w.heap.size + 1) (w.alloc (.cells #[.slice p n c, .string l, .int .i64 nx, .int .i64 sq] 24)) W → W.heap[w.heap.size]? = some (.cells #[.slice p n c, .string l, .int .i64 nx, .int .i64 sq] 24 (0, 0)) ∧ Below w.heap.size w W) := Lib.hid (fun W hW => ⟨(hW.block _ (by omega)).trans hz0, hb0.trans (hW.mono (by omega))⟩)
  have HB0 := Lib.hid hb0
  have HSS := Lib.hid hss
  clear hb0 hz0 hss
  go_enter Tryd.func3, Tryd.ntmps3
  go_wp2_with fail
  generalize w.alloc (.cells #[.slice p n c, .string l, .int .i64 nx, .int .i64 sq] 24) = W0 at *
  refine (HE.out W0 HB0.out).mono ?_
  clear HE d0 d1 d2 d3
  rintro e w1 ⟨rfl, hb1⟩
  rw [HSS.out] at hb1
  obtain ⟨hz1, hB1⟩ := HW.out w1 hb1
  obtain ⟨d0, d1, d2, d3⟩ := of_cells4 hz1
  have HB1 := Lib.hid hb1
  have HBW1 := Lib.hid hB1
  clear hb1 hz1 hB1
  cases hmay : may m with
  | false =>
    have h1 : encS m = ⟨#[]⟩ := by unfold encS; rw [hmay]; rfl
    have h2 : encE m = 110 := by unfold encE; rw [hmay]; rfl
    rw [h1, h2]
    rw [hmay] at HMY
    clear h1 h2 hmay
    go_wp2_with fail
    refine (HMY.out w1 HBW1.out).mono ?_
    rintro e w2 ⟨rfl, hb2⟩
    have HB2 := Lib.hid (below_then HBW1.out hb2)
    clear hb2 d0 d1 d2 d3
    go_wp2_with fail
    refine (HAW.out w2 HB2.out).mono ?_
    rintro e w3 ⟨rfl, hb3⟩
    have HB3 := Lib.hid (below_then HB2.out hb3)
    clear hb3
    go_wp2_with fail
    go_ret
    exact ⟨rfl, HB3.out⟩
  | true =>
    obtain ⟨s, hs⟩ : ∃ s, s = tx (encB m) := ⟨_, rfl⟩
    have h1 : encS m = s := by unfold encS; rw [hmay, hs]; rfl
    have h2 : encE m = 0 := by unfold encE; rw [hmay]; rfl
    rw [h1, h2]
    have hbl : bl s = encB m := by rw [hs]; exact tx_list _
    have hsz : s.size = (encB m).length := by rw [hs, tx_size]
    have hsm := enc_small hmay
    have hel := enc_len m
    have hlo : (linesOf m).length = 4 + m.segs.length := by simp [linesOf, heads]; omega
    have hdec : dec s = some m := dec_some.2 ⟨hmay, hbl.symm⟩
    have hdm : decM s = m := by unfold decM; rw [hdec]; rfl
    have hde : decE s = 0 := by unfold decE; rw [hdec]; rfl
    have hne : s.toList.isEmpty = false := by
      rw [Go.ByteArray.toList_eq]
      cases h : s.data.toList with
      | nil =>
        have h2 := ln s
        rw [h] at h2
        simp at h2
        omega
      | cons _ _ => rfl
    have s1 : s.size ≤ 40000 := by omega
    have s0 : 0 < s.size := by omega
    have HD1 := Lib.hid (fun W (G : Gh W) => HD.out s W (by omega) G)
    rw [hdm, hde] at HD1
    have hn10 : (⟨#[10]⟩ : ByteArray).size = 1 := rfl
    have HM1 : Hid (decE (s ++ ⟨#[10]⟩) = 110) := Lib.hid (decE_none (dec_more (m := m) _ (by show (s ++ ⟨#[10]⟩).data.toList = _; rw [app_list, show s.data.toList = bl s from rfl, hbl])))
    have HD2 := Lib.hid (fun W (G : Gh W) => HD.out (s ++ ⟨#[10]⟩) W (by rw [ByteArray.size_append]; omega) G)
    rw [HM1.out] at HD2
    have hadd : s.size + 1 ≤ 9223372036854775807 := by omega
    have HBL := Lib.hid hbl
    have HSZ := Lib.hid hsz
    clear h1 h2 hs hbl hsz hsm hel hlo hdec hdm hde hmay hn10 HM1
    go_wp2_with fail
    refine (HD1.out w1 (HG.out.below HBW1.out)).mono ?_
    clear HD1
    rintro e w2 ⟨x, rfl, ⟨p2, c2, rfl, ho2⟩, hb2⟩
    have hbb : Below (w.heap.size + 1) W0 w2 := HB1.out.trans (hb2.mono (by have := HB1.out.size; have := HSS.out; omega))
    have HO2 := Lib.hid ho2
    have HB2 := Lib.hid hbb
    obtain ⟨e0, e1, e2, e3⟩ := kept_cells (HW.out w2 hbb).1
    clear hb2 hbb ho2 d0 d1 d2 d3
    go_wp2_with fail
    have hb3 := below_new w2 (.cells #[.slice p2 m.segs.length c2, .string m.log, .int .i64 m.next, .int .i64 m.seq] 24)
    generalize w2.alloc (.cells #[.slice p2 m.segs.length c2, .string m.log, .int .i64 m.next, .int .i64 m.seq] 24) = W3 at *
    have hbb3 : Below (w.heap.size + 1) W0 W3 := HB2.out.trans (hb3.mono (by have := HB2.out.size; have := HSS.out; omega))
    refine (HSM.out _ W3 ⟨p2, c2, rfl, HO2.out.at.below hb3⟩ (HW.out W3 hbb3).2).mono ?_
    clear HSM e0 e1 e2 e3 HO2 hb3
    rintro e w4 ⟨rfl, hb4⟩
    have HB4 : Hid (Below (w.heap.size + 1) W0 w4) := Lib.hid (hbb3.trans (hb4.mono (by have := hbb3.size; have := HSS.out; omega)))
    clear hbb3 hb4
    go_wp2_with fail
    refine (HD2.out w4 (HG.out.below (HW.out w4 HB4.out).2)).mono ?_
    clear HD2
    rintro e w5 ⟨x, rfl, ⟨p5, c5, rfl, ho5⟩, hb5⟩
    have HB5 : Hid (Below (w.heap.size + 1) W0 w5) := Lib.hid (HB4.out.trans (hb5.mono (by have := HB4.out.size; have := HSS.out; omega)))
    clear hb5 ho5
    generalize decM (s ++ ⟨#[10]⟩) = m5 at *
    by_cases h0 : ch = 0
    · subst h0
      go_wp2_with fail
      have hb6 := below_new w5 (.cells #[.slice p5 m5.segs.length c5, .string m5.log, .int .i64 m5.next, .int .i64 m5.seq] 24)
      generalize w5.alloc (.cells #[.slice p5 m5.segs.length c5, .string m5.log, .int .i64 m5.next, .int .i64 m5.seq] 24) = W6 at *
      have hbb6 : Below (w.heap.size + 1) W0 W6 := HB5.out.trans (hb6.mono (by have := HB5.out.size; have := HSS.out; omega))
      refine (HAW.out W6 (HW.out W6 hbb6).2).mono ?_
      rintro e w7 ⟨rfl, hb7⟩
      have HF := Lib.hid (below_then (HW.out W6 hbb6).2 hb7)
      clear hb6 hbb6 hb7
      go_wp2_with fail
      go_ret
      exact ⟨rfl, HF.out⟩
    · obtain ⟨C, rfl⟩ := Int.eq_ofNat_of_zero_le hc.1
      have hC : ((C : Int) == 0) = false := by rw [beq_eq_false_iff_ne]; exact h0
      have hn0 : (s.size : Int) ≠ 0 := by omega
      have r0 : -(s.size : Int) < at_.tmod s.size ∧ at_.tmod s.size < s.size := by
        have h1 : (at_.tmod s.size).natAbs < (s.size : Int).natAbs := by rw [Int.natAbs_tmod]; exact Nat.mod_lt _ (by omega)
        omega
      obtain ⟨r1, r2⟩ := r0
      obtain ⟨j, hje⟩ : ∃ j : Nat, (j : Int) = (at_.tmod s.size + s.size) % s.size := ⟨((at_.tmod s.size + s.size) % s.size).toNat, Int.toNat_of_nonneg (Int.emod_nonneg _ hn0)⟩
      have hj : j < s.size := by have := Int.emod_lt_of_pos (at_.tmod s.size + s.size) (by omega : (0 : Int) < s.size); omega
      have hby := byN_lt s j
      obtain ⟨x, hx⟩ : ∃ x : UInt8, x = UInt8.ofNat (byN s j ^^^ C) := ⟨_, rfl⟩
      have hxn : x.toNat = byN s j ^^^ C := by
        rw [hx, UInt8.toNat_ofNat']
        have e8 : (2 : Nat) ^ 8 = 256 := by decide
        have := Nat.xor_lt_two_pow (n := 8) (x := byN s j) (y := C) (by omega) (by omega)
        omega
      have hxv : bits .xor .u8 (byN s j : Int) (C : Int) = (x.toNat : Int) := by rw [hxn]; exact u8_xor_nat _ _ hby (by omega)
      have hxd : x.toNat ≠ byN s j := by
        rw [hxn]; intro e
        have e2 : C = 0 := by
          have := congrArg (fun z => byN s j ^^^ z) e
          simp only [← Nat.xor_assoc, Nat.xor_self, Nat.zero_xor] at this
          exact this
        omega
      have hdn : dec (turned s j x) = none := dec_turned (m := m) _ j x (by rw [← HSZ.out]; exact hj) (by rw [← HBL.out]; exact byN_bl s j hj x hxd) (by rw [turned_bl, HBL.out])
      have HD3 := Lib.hid (fun W (G : Gh W) => HD.out (turned s j x) W (by rw [turned_size]; omega) G)
      rw [decE_none hdn] at HD3
      have hjj : (at_.tmod s.size + s.size) % s.size = (j : Int) := hje.symm
      have HT := Lib.hid (fun W => bytes_turn W s j x hj)
      obtain ⟨t, ht⟩ : ∃ t, t = turned s j x := ⟨_, rfl⟩
      rw [← ht] at HD3 HT
      obtain ⟨y, hy⟩ : ∃ y : Int, y = (x.toNat : Int) := ⟨_, rfl⟩
      rw [← hy] at hxv HT
      clear hje hxd hxn hx hy ht hc h0 hn0 hdn hby
      have hb6 := below_new w5 (.cells #[.slice p5 m5.segs.length c5, .string m5.log, .int .i64 m5.next, .int .i64 m5.seq] 24)
      obtain ⟨cap, W1, k1, k2, k3, k4, k5⟩ := HT.out (w5.alloc (.cells #[.slice p5 m5.segs.length c5, .string m5.log, .int .i64 m5.next, .int .i64 m5.seq] 24))
      have hbb6 : Below (w.heap.size + 1) W0 (w5.alloc (.cells #[.slice p5 m5.segs.length c5, .string m5.log, .int .i64 m5.next, .int .i64 m5.seq] 24)) := HB5.out.trans (hb6.mono (by have := HB5.out.size; have := HSS.out; omega))
      have hbb7 := hbb6.trans (k4.mono (by have := hbb6.size; have := HSS.out; omega))
      have hs5 : (w5.alloc (.cells #[.slice p5 m5.segs.length c5, .string m5.log, .int .i64 m5.next, .int .i64 m5.seq] 24)).heap.size = w5.heap.size + 1 := by simp
      rw [hs5] at k1 k2 k3 k5 hbb7
      have HB7 := Lib.hid hbb7
      clear HT hb6 hbb6 hbb7 k4 hs5
      go_wp2_with fail
      refine (HD3.out _ (HG.out.below (HW.out _ HB7.out).2)).mono ?_
      clear HD3 k1 k2 k3 k5
      rintro e w8 ⟨x8, rfl, ⟨p8, c8, rfl, ho8⟩, hb8⟩
      have HB8 : Hid (Below (w.heap.size + 1) W0 w8) := Lib.hid (HB7.out.trans (hb8.mono (by have := HB7.out.size; have := HSS.out; omega)))
      clear hb8 ho8
      generalize decM t = m8 at *
      go_wp2_with fail
      have hb9 := below_new w8 (.cells #[.slice p8 m8.segs.length c8, .string m8.log, .int .i64 m8.next, .int .i64 m8.seq] 24)
      generalize w8.alloc (.cells #[.slice p8 m8.segs.length c8, .string m8.log, .int .i64 m8.next, .int .i64 m8.seq] 24) = W9 at *
      have hbb9 : Below (w.heap.size + 1) W0 W9 := HB8.out.trans (hb9.mono (by have := HB8.out.size; have := HSS.out; omega))
      refine (HAW.out W9 (HW.out W9 hbb9).2).mono ?_
      rintro e w10 ⟨rfl, hb10⟩
      have HF := Lib.hid (below_then (HW.out W9 hbb9).2 hb10)
      clear hb9 hbb9 hb10
      go_wp2_with fail
      go_ret
      exact ⟨rfl, HF.out⟩
end Mf
end Go.Proofs.YtgpedeagaghpfaaDoor
