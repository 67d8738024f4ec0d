/- The document's Add. Conditions: those that each theorem names. -/
import Derived.Test.YtbgminlajcmomabTkG
namespace Go.Proofs.Ytbgminlajcmomab
set_option linter.unusedVariables false
open Go Go.RowKit Go.Shelf Go.Sort Tk
/-- A row of hits in a block of which F holds. -/
def HsF (F : Nat → Prop) (w : World) (v : Value) (L : List Ht) : Prop :=
  (L = [] ∧ ∃ p c, v = .slice p 0 c) ∨ ∃ g off c, v = .slice (some ⟨g, off, none⟩) L.length c ∧ F g ∧ g < w.heap.size ∧
    ∀ W : World, W.heap[g]? = w.heap[g]? → ∀ j (h : j < L.length), W.cell? ⟨g, off + j * 2, none⟩ = some (.int .i64 (L[j]).1) ∧ W.cell? ⟨g, off + j * 2 + 1, none⟩ = some (.int .i64 (L[j]).2)
theorem HsF.hs {F : Nat → Prop} {w : World} {v : Value} {L : List Ht} (h : HsF F w v L) : HsAt w v L := by
  rcases h with h | ⟨g, off, c, h1, _, h2, h3⟩
  · exact .inl h
  · exact .inr ⟨g, off, c, h1, h2, h3⟩
theorem HsF.mono {F F' : Nat → Prop} {w : World} {v : Value} {L : List Ht} (h : HsF F w v L) (hf : ∀ g, g < w.heap.size → F g → F' g) : HsF F' w v L := by
  rcases h with h | ⟨g, off, c, h1, h0, h2, h3⟩
  · exact .inl h
  · exact .inr ⟨g, off, c, h1, hf g h2 h0, h2, h3⟩
theorem HsF.kept {F : Nat → Prop} {w w' : World} {v : Value} {L : List Ht} (h : HsF F w v L) (hs : w.heap.size ≤ w'.heap.size) (hb : ∀ g, g < w.heap.size → F g → w'.heap[g]? = w.heap[g]?) : HsF F w' v L := by
  rcases h with h | ⟨g, off, c, h1, h0, h2, h3⟩
  · exact .inl h
  · exact .inr ⟨g, off, c, h1, h0, Nat.lt_of_lt_of_le h2 hs, fun W hW => h3 W (hW.trans (hb g h2 h0))⟩
theorem HsF.below {F : Nat → Prop} {w w' : World} {v : Value} {L : List Ht} (h : HsF F w v L) (g : RowKit.Below w.heap.size w w') : HsF F w' v L := h.kept g.size (fun k hk _ => g.block k hk)
theorem HsF.nil (F : Nat → Prop) (w : World) : HsF F w (.slice none 0 0) [] := .inl ⟨rfl, none, 0, rfl⟩
/-- An own row, cut to its first hits. -/
theorem own_cut {w : World} {base : Nat} {v : Value} {L : List Ht} (h : OwnH w base v L) (k : Nat) (hk : k ≤ L.length) : ∃ p c, v = .slice p L.length c ∧ L.length ≤ c ∧ c ≤ maxLen ∧ HsF (fun g => base ≤ g) w (.slice p k c) (L.take k) := by
  have hl : (L.take k).length = k := by rw [List.length_take]; omega
  rcases h.2 with ⟨rfl, h0⟩ | ⟨g, cap, cur, rfl, hb, hg, h1, h2, h3, h4⟩
  · have : L = [] := List.length_eq_zero_iff.mp h0
    subst this
    obtain rfl : k = 0 := by simpa using hk
    exact ⟨none, 0, rfl, Nat.le_refl _, Nat.zero_le _, .inl ⟨by simp, none, 0, rfl⟩⟩
  · refine ⟨_, cap, rfl, h1, h2, .inr ⟨g, 0, cap, by rw [hl], hb, (h.lt g rfl).2, fun W hW j hj => ?_⟩⟩
    have hj' : j < L.length := by omega
    obtain ⟨c0, c1⟩ := hCells_at L j hj'
    have e : (L.take k)[j] = L[j] := by simp
    rw [e, Nat.zero_add]
    have key : ∀ i u, i < L.length * 2 → (hCells L)[i]? = some u → W.cell? ⟨g, i, none⟩ = some u := fun i u hi hu => by
      rw [Lib.cell_of_heap (hW.trans hg), ← hu, ← h4, List.getElem?_take, if_pos hi, Array.getElem?_toList]
    exact ⟨key _ _ (by omega) c0, key _ _ (by omega) c1⟩
theorem own_hsF {w : World} {base : Nat} {v : Value} {L : List Ht} (h : OwnH w base v L) : HsF (fun g => base ≤ g) w v L := by
  obtain ⟨p, c, rfl, _, _, hf⟩ := own_cut h L.length (Nat.le_refl _)
  rwa [List.take_length] at hf
set_option maxHeartbeats 4000000 in
set_option maxRecDepth 100000 in
theorem radd_any (F : Nat → Prop) (m : Int) (K : Nat) (L : List Ht) (v : Value) (h : Ht) (w : World) (hL : HsF F w v L) (hl : (L.length + 1) * 16 ≤ 140737488355328) (hK : K ≤ 9223372036854775807) :
    Calls Try.prog 15 #[.int .i64 m, .int .i64 K, v, hv h] w fun e w' => ∃ u, e = .returned (.tuple #[u, .bool (addW m K L h).2]) ∧ HsF (fun g => F g ∨ w.heap.size ≤ g) w' u (addW m K L h).1 ∧ RowKit.Below w.heap.size w w' := by
  have mixed : Try.prog.follows .mixedOrders = true := by kernel_rfl
  have HB0 := Lib.hid (fresh_alloc w (hobj h))
  obtain ⟨c0, c1⟩ := two_cells (heap_last w (hobj h))
  have HLF := Lib.hid (hL.below HB0.out)
  have HC0 := Lib.hid c0
  have HC1 := Lib.hid c1
  have hsz : (w.alloc (hobj h)).heap.size = w.heap.size + 1 := by simp
  have HSZ := Lib.hid hsz
  have HN := Lib.hid hl
  have HKK := Lib.hid hK
  have hm : L.length ≤ maxLen := by unfold maxLen; omega
  have HM := Lib.hid hm
  obtain ⟨pp, cc, rfl⟩ := hL.hs.form
  clear hL hl c0 c1 hsz hm
  obtain ⟨hi, hs⟩ := h
  obtain ⟨R, hR⟩ : ∃ R, R = addW m K L (hi, hs) := ⟨_, rfl⟩
  rw [← hR]
  have HR := Lib.hid hR
  clear hR
  go_enter Try.func15, Try.ntmps15
  go_wp2_with fail
  generalize hW : w.alloc (hobj (hi, hs)) = W at *
  go_loopw [10] (fun i wr => ∃ (k : Nat), k ≤ L.length ∧ i = .int .i64 k ∧ Hid ((hi, hs) ∉ L.take k) ∧ Hid (Gn W wr)) (fun i _ => L.length - (intOf i).toNat)
  case atStart => exact ⟨0, Nat.zero_le _, rfl, Lib.hid (by simp), Gn.refl _⟩
  case round =>
    obtain ⟨k, hk, rfl, HNM, HG⟩ := hrel
    have b0 := (HG.out.below.cell (p := ⟨w.heap.size, 0, none⟩) (by show w.heap.size < W.heap.size; have := HSZ.out; omega)).trans HC0.out
    have b1 := (HG.out.below.cell (p := ⟨w.heap.size, 1, none⟩) (by show w.heap.size < W.heap.size; have := HSZ.out; omega)).trans HC1.out
    by_cases hlt : k < L.length
    · obtain ⟨g, off, c, e, hg, hc⟩ := HLF.out.hs.at hlt
      injection e with e1 _ e3
      subst e1
      subst e3
      obtain ⟨a0, a1⟩ := hc wr (HG.out.block hg)
      have HX := Lib.hid (List.getElem?_eq_getElem hlt)
      clear hc hg
      generalize L[k] = x at *
      obtain ⟨xi, xs⟩ := x
      have HE := fun W => eqlH_run (xi, xs) (hi, hs) W
      simp only at HE
      by_cases hxy : ((xi, xs) : Ht) = (hi, hs)
      · rw [decide_eq_true hxy] at HE
        have HD : Hid (R = (L, false)) := Lib.hid (by
          rw [HR.out]; unfold addW; rw [if_pos (by rw [← hxy]; exact List.mem_of_getElem? HX.out)])
        have HLL := Lib.hid (HLF.out.below HG.out.below)
        clear hxy
        go_wp2_with fail
        go_quiet (fail)
        go_wp2_with fail
        go_ret2
        refine ⟨_, by rw [HD.out]; rfl, ?_, HB0.out.trans ((HG.out.drewN _).below.mono HB0.out.size)⟩
        rw [HD.out]
        exact (HLL.out.kept (Nat.le_refl _) (fun _ _ _ => rfl)).mono (fun g _ hf => .inl hf)
      · rw [decide_eq_false hxy] at HE
        have HX2 := Lib.hid hxy
        clear hxy
        go_wp2_with fail
        go_quiet (fail)
        go_wp2_with fail
        go_roundw
        case rel => exact ⟨k + 1, by omega, congrArg _ (wrap_s HM.out hlt), Lib.hid (by rw [mem_take_next HX.out]; exact fun z => z.elim HNM.out HX2.out), HG.out.drewN _⟩
        case measure =>
          rw [wrap_s HM.out hlt]
          exact int_less hlt
    · obtain rfl : k = L.length := by omega
      have HNN : Hid ((hi, hs) ∉ L) := Lib.hid (by have := HNM.out; rwa [List.take_length] at this)
      have HI := Lib.hid (insert_any m (hi, hs) L _ wr (HLF.out.below HG.out.below).hs HN.out)
      go_wp2_with fail
      refine HI.out.mono ?_
      rintro e w2 ⟨u, rfl, ho, hb⟩
      obtain ⟨o, hoo⟩ : ∃ o, o = insR m (hi, hs) L := ⟨_, rfl⟩
      have hol : o.length = L.length + 1 := by rw [hoo, insR_length]
      rw [← hoo] at ho
      have HO := Lib.hid ho
      have HBW := Lib.hid hb
      have d0 := (hb.cell (p := ⟨w.heap.size, 0, none⟩) (by have := HSZ.out; have := HG.out.size; show w.heap.size < wr.heap.size; omega)).trans b0
      have d1 := (hb.cell (p := ⟨w.heap.size, 1, none⟩) (by have := HSZ.out; have := HG.out.size; show w.heap.size < wr.heap.size; omega)).trans b1
      have HBT : Hid (RowKit.Below w.heap.size w w2) := Lib.hid ((HB0.out.trans (HG.out.below.mono HB0.out.size)).trans (hb.mono (Nat.le_trans HB0.out.size HG.out.size)))
      have hws : w.heap.size ≤ wr.heap.size := Nat.le_trans HB0.out.size HG.out.size
      have HWS := Lib.hid hws
      have HOO := Lib.hid hoo
      have HOL := Lib.hid hol
      clear hb b0 b1 hws hoo
      obtain ⟨p, c, rfl, hc1, hc2, -⟩ := own_cut ho 0 (Nat.zero_le _)
      by_cases hle : L.length + 1 ≤ K
      · have hz : (o.length : Int) ≤ (K : Int) := by omega
        have HD : Hid (R = (o, true)) := Lib.hid (by
          rw [HR.out]; unfold addW; rw [if_neg HNN.out, ← HOO.out, if_pos (by rw [HOL.out]; exact hle)])
        have HF := Lib.hid (own_hsF HO.out)
        clear ho d0 d1 hol hc1 hc2
        generalize o.length = n at *
        go_wp2_with fail
        go_ret2
        refine ⟨_, by rw [HD.out]; rfl, ?_, HBT.out⟩
        rw [HD.out]
        exact HF.out.mono (fun g _ hf => .inr (Nat.le_trans HWS.out hf))
      · have hKo : K < o.length := by omega
        obtain ⟨g, off, c', e, hg, hcell⟩ := (own_hits ho).at hKo
        injection e with e1 _ e3
        subst e1
        subst e3
        obtain ⟨a0, a1⟩ := hcell w2 rfl
        obtain ⟨p', c'', e', hc1', hc2', hcut⟩ := own_cut ho K (by omega)
        injection e' with e1' _ e3'
        subst e1'
        subst e3'
        have hz : ¬ (o.length : Int) ≤ (K : Int) := by omega
        have HX := Lib.hid (List.getElem?_eq_getElem hKo)
        have HD : Hid (R = (o.take K, decide (o[K]? ≠ some (hi, hs)))) := Lib.hid (by
          rw [HR.out]; unfold addW; rw [if_neg HNN.out, ← HOO.out, if_neg (by rw [HOL.out]; exact hle)])
        have HCUT := Lib.hid hcut
        have hKc : (K : Int) ≤ (c : Int) := by omega
        have hKo' : (K : Int) < (o.length : Int) := by omega
        have hK0 : (0 : Int) ≤ (K : Int) := by omega
        clear ho hcut hcell hol hc1 hc1' hle
        generalize o[K] = x at *
        obtain ⟨xi, xs⟩ := x
        have HE := fun W => neqH_run (xi, xs) (hi, hs) W
        simp only at HE
        obtain ⟨r, hr⟩ : ∃ r, r = !decide (((xi, xs) : Ht) = (hi, hs)) := ⟨_, rfl⟩
        rw [← hr] at HE
        have HRR : Hid (R = (o.take K, r)) := Lib.hid (by rw [HD.out, HX.out, hr]; simp)
        clear hr
        have HDL : Hid ((o.take K).length = K) := Lib.hid (by rw [List.length_take]; omega)
        generalize ho2 : o.length = n at *
        clear ho2
        go_wp2_with fail
        go_quiet (fail)
        go_wp2_with fail
        go_ret2
        refine ⟨_, by rw [HRR.out]; rfl, ?_, HBT.out.trans (((Gn.refl _).drewN _).below.mono HBT.out.size)⟩
        rw [HRR.out]
        exact (HCUT.out.kept (Nat.le_refl _) (fun _ _ _ => rfl)).mono (fun g _ hf => .inr (Nat.le_trans HWS.out hf))
end Go.Proofs.Ytbgminlajcmomab
