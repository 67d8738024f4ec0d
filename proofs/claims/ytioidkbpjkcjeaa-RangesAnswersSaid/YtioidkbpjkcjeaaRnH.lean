/- The program's index: Build, all, Len, what lies between two numbers, Count. Conditions: those that each theorem names. -/
import Derived.Test.YtioidkbpjkcjeaaRnG
namespace Go.Proofs.Ytioidkbpjkcjeaa
set_option linter.unusedVariables false
open Go Go.RowKit Go.Shelf Go.Sort
namespace Rn
/-- An index in memory of one's own. -/
def IxO (w : World) (B K : Nat) (L : List En) : Prop := B ≤ K ∧ ∃ p c, w.heap[K]? = some (.cells #[cmpV, .slice p L.length c] 46 (0, 0)) ∧ OwnH w B (.slice p L.length c) L
section
variable {w w' : World} {B K : Nat} {L : List En}
theorem own_below {v : Value} (h : OwnH w B v L) (g : Below w.heap.size w w') : OwnH w' B v L := by
  refine ⟨h.1, ?_⟩
  rcases h.2 with x | ⟨g', cap', cur, e, hb, hg, r⟩
  · exact .inl x
  · refine .inr ⟨g', cap', cur, e, hb, ?_, r⟩
    have hlt : g' < w.heap.size := by
      rcases Nat.lt_or_ge g' w.heap.size with c | c
      · exact c
      · rw [Array.getElem?_eq_none c] at hg; cases hg
    rw [g.block _ hlt]; exact hg
theorem IxO.lt (h : IxO w B K L) : K < w.heap.size := by
  obtain ⟨_, p, c, hk, _⟩ := h
  rcases Nat.lt_or_ge K w.heap.size with e | e
  · exact e
  · rw [Array.getElem?_eq_none e] at hk; cases hk
theorem IxO.below (h : IxO w B K L) (g : Below w.heap.size w w') : IxO w' B K L := by
  have hl := h.lt
  obtain ⟨hB, p, c, hk, ho⟩ := h
  exact ⟨hB, p, c, (g.block K hl).trans hk, own_below ho g⟩
theorem IxO.same (h : IxO w B K L) (hs : ∀ k, B ≤ k → w'.heap[k]? = w.heap[k]?) : IxO w' B K L := by
  obtain ⟨hB, p, c, hk, ho⟩ := h
  exact ⟨hB, p, c, (hs K hB).trans hk, own_same ho hs⟩
theorem IxO.lower (h : IxO w B K L) {B' : Nat} (hB : B' ≤ B) : IxO w B' K L := by
  obtain ⟨h1, p, c, hk, ho⟩ := h
  exact ⟨Nat.le_trans hB h1, p, c, hk, Go.Joins.ownsRow_le ho hB⟩
end
set_option maxHeartbeats 2000000 in
set_option maxRecDepth 100000 in
theorem build_any (l : List En) (v : Value) (w : World) (h : HsAt w v l) (hl : l.length * 16 ≤ 140737488355328) :
    Calls Try.prog 7 #[v] w fun e w' => ∃ K, e = .returned (.pointer (some ⟨K, 0, none⟩)) ∧ IxO w' w.heap.size K (can l) ∧ Below w.heap.size w w' := by
  have HC := Lib.hid (rising_any l v w h hl)
  clear h hl
  unfold cmpV at HC
  go_enter Try.func7, Try.ntmps7
  go_wp2_with fail
  refine HC.out.mono ?_
  rintro e w1 ⟨u, rfl, ho, hb⟩
  obtain ⟨p, c, rfl⟩ := (own_entries ho).form
  have HF : Hid (IxO (w1.alloc (.cells #[.func (.func 21) #[] #[], .slice p (can l).length c] 46)) w.heap.size w1.heap.size (can l) ∧ Below w.heap.size w (w1.alloc (.cells #[.func (.func 21) #[] #[], .slice p (can l).length c] 46))) := Lib.hid
    ⟨⟨hb.size, p, c, heap_last _ _, own_below ho (fresh_alloc _ _)⟩, hb.alloc hb.size _⟩
  clear ho hb HC
  go_wp2_with fail
  go_ret
  exact ⟨_, rfl, HF.out⟩
set_option maxHeartbeats 2000000 in
set_option maxRecDepth 100000 in
theorem all_some (K : Nat) (p : Option Addr) (n c : Nat) (w : World) (h : w.heap[K]? = some (.cells #[cmpV, .slice p n c] 46 (0, 0))) :
    Calls Try.prog 23 #[.pointer (some ⟨K, 0, none⟩)] w fun e w' => e = .returned (.agg #[cmpV, .slice p n c]) ∧ Gn w w' := by
  have hlt : K < w.heap.size := by
    rcases Nat.lt_or_ge K w.heap.size with e | e
    · exact e
    · rw [Array.getElem?_eq_none e] at h; cases h
  have hk := (heap_old w (rowO .nilFunc (.slice none 0 0)) hlt).trans h
  obtain ⟨k0, k1⟩ := two_cells hk
  obtain ⟨d0, d1⟩ := two_cells (heap_last w (rowO (.func (.func 21) #[] #[]) (.slice p n c)))
  clear h hk hlt
  unfold cmpV at *
  go_enter Try.func23, Try.ntmps23
  go_wp2_with fail
  refine bodyPost_ret (v := .agg #[(.func (.func 21) #[] #[]), .slice p n c]) (by simp [results, Try.results23, go_sem, d0, d1]) rfl ?_
  exact ⟨rfl, (Gn.refl w).alloc _⟩
set_option maxHeartbeats 2000000 in
set_option maxRecDepth 100000 in
theorem all_none (w : World) : Calls Try.prog 23 #[.pointer none] w fun e w' => e = .returned (.agg #[.nilFunc, .slice none 0 0]) ∧ Gn w w' := by
  obtain ⟨d0, d1⟩ := two_cells (heap_last w (rowO .nilFunc (.slice none 0 0)))
  go_enter Try.func23, Try.ntmps23
  go_wp2_with fail
  refine bodyPost_ret (v := .agg #[.nilFunc, .slice none 0 0]) (by simp [results, Try.results23, go_sem, d0, d1]) rfl ?_
  exact ⟨rfl, (Gn.refl w).alloc _⟩
/-- The row's values, out of its two cells. -/
theorem field1 (f v : Value) (w : World) : (Instr.field 43 (.agg #[f, v]) 1).run Try.prog w = .ok v w := by
  simp [Instr.field, go_sem, part, asAgg, run_underlying Try.underlying43]
set_option maxHeartbeats 2000000 in
set_option maxRecDepth 100000 in
theorem len_any {B K : Nat} {L : List En} (w : World) (h : IxO w B K L) : Calls Try.prog 13 #[.pointer (some ⟨K, 0, none⟩)] w fun e w' => e = .returned (.int .i64 L.length) ∧ Gn w w' := by
  obtain ⟨_, p, c, hk, _⟩ := h
  have HC := Lib.hid (all_some K p L.length c w hk)
  have hfd := field1
  clear hk
  unfold cmpV at HC
  generalize L.length = n at *
  go_enter Try.func13, Try.ntmps13
  go_wp2_with fail
  refine HC.out.mono ?_
  rintro e w1 ⟨rfl, hg⟩
  have HG := Lib.hid hg
  clear hg HC
  go_wp2_with fail
  go_ret
  exact ⟨rfl, HG.out⟩
set_option maxHeartbeats 2000000 in
set_option maxRecDepth 100000 in
theorem len_none (w : World) : Calls Try.prog 13 #[.pointer none] w fun e w' => e = .returned (.int .i64 0) ∧ Gn w w' := by
  have HC := Lib.hid (all_none w)
  have hfd := field1
  go_enter Try.func13, Try.ntmps13
  go_wp2_with fail
  refine HC.out.mono ?_
  rintro e w1 ⟨rfl, hg⟩
  have HG := Lib.hid hg
  clear hg HC
  go_wp2_with fail
  go_ret
  exact ⟨rfl, HG.out⟩
/-! ### What lies between two entries -/
theorem frm_le (x : En) (L : List En) : frm x L ≤ L.length := List.countP_le_length
theorem upto_le (x : En) (L : List En) : upto x L ≤ L.length := by
  have := frm_le x L
  unfold upto
  split
  · next h => simp only [Bool.and_eq_true, decide_eq_true_eq] at h; omega
  · omega
theorem hs_cut {w : World} {L : List En} {g off c F T : Nat} (hg : g < w.heap.size) (hc : ∀ W : World, W.heap[g]? = w.heap[g]? → ∀ j (h : j < L.length), W.cell? ⟨g, off + j * 2, none⟩ = some (.int .i64 (L[j]).1) ∧ W.cell? ⟨g, off + j * 2 + 1, none⟩ = some (.int .i64 (L[j]).2)) (hFT : F < T) (hT : T ≤ L.length) (c' : Nat) :
    HsAt w (.slice (some ⟨g, off + F * 2, none⟩) (T - F) c') ((L.take T).drop F) := by
  have hl : ((L.take T).drop F).length = T - F := by simp; omega
  refine .inr ⟨g, off + F * 2, c', by rw [hl], hg, fun W hW j hj => ?_⟩
  have hj' : F + j < L.length := by omega
  have e : ((L.take T).drop F)[j] = L[F + j] := by rw [List.getElem_drop, List.getElem_take]
  rw [e, show off + F * 2 + j * 2 = off + (F + j) * 2 by omega]
  exact hc W hW (F + j) hj'
/-- The row of two cells, then two entries in boxes. -/
theorem three_boxes (w : World) (a b : Value) (x y : En) :
    (((w.alloc (rowO a b)).alloc (hobj x)).alloc (hobj y)).heap[w.heap.size]? = some (rowO a b) ∧ (((w.alloc (rowO a b)).alloc (hobj x)).alloc (hobj y)).heap[w.heap.size + 1]? = some (hobj x) ∧
    (((w.alloc (rowO a b)).alloc (hobj x)).alloc (hobj y)).heap[w.heap.size + 2]? = some (hobj y) ∧ Gn w (((w.alloc (rowO a b)).alloc (hobj x)).alloc (hobj y)) := by
  have h1 : (w.alloc (rowO a b)).heap.size = w.heap.size + 1 := by simp
  have h2 : ((w.alloc (rowO a b)).alloc (hobj x)).heap.size = w.heap.size + 2 := by simp
  refine ⟨(heap_old _ _ (by omega)).trans ((heap_old _ _ (by omega)).trans (heap_last _ _)), (heap_old _ _ (by omega)).trans ?_, ?_, (((Gn.refl w).alloc _).alloc _).alloc _⟩
  · have := heap_last (w.alloc (rowO a b)) (hobj x)
    rw [h1] at this; exact this
  · have := heap_last ((w.alloc (rowO a b)).alloc (hobj x)) (hobj y)
    rw [h2] at this; exact this
set_option maxHeartbeats 4000000 in
set_option maxRecDepth 100000 in
theorem rbetween_any (L : List En) (x y : En) (p : Option Addr) (c : Nat) (w : World) (hL : HsAt w (.slice p L.length c) L) (hr : Ris L) (hsz : L.length ≤ 1125899906842624) (hcap : L.length ≤ c) :
    Calls Try.prog 33 #[.agg #[cmpV, .slice p L.length c], hv x, hv y] w fun e w' => ∃ u, e = .returned u ∧ HsAt w' u ((L.take (upto y L)).drop (frm x L)) ∧ Gn w w' := by
  obtain ⟨t1, t2, t3, t4⟩ := three_boxes w cmpV (.slice p L.length c) x y
  have HS := Lib.hid (fun (z : En) (W : World) (hW : Gn w W) => search_any L z (.slice p L.length c) W (hL.below hW.below) hr hsz)
  have HB : Hid (∀ W, Gn (((w.alloc (rowO cmpV (.slice p L.length c))).alloc (hobj x)).alloc (hobj y)) W → (W.cell? ⟨w.heap.size, 0, none⟩ = some (.func (.func 21) #[] #[]) ∧ W.cell? ⟨w.heap.size, 1, none⟩ = some (.slice p L.length c)) ∧ (W.cell? ⟨w.heap.size + 1, 0, none⟩ = some (.int .i64 x.1) ∧ W.cell? ⟨w.heap.size + 1, 1, none⟩ = some (.int .i64 x.2)) ∧ W.cell? ⟨w.heap.size + 2, 0, none⟩ = some (.int .i64 y.1) ∧ W.cell? ⟨w.heap.size + 2, 1, none⟩ = some (.int .i64 y.2)) := Lib.hid (fun W hW =>
    ⟨two_cells ((hW.block (by simp <;> omega)).trans t1), two_cells ((hW.block (by simp <;> omega)).trans t2), two_cells ((hW.block (by simp <;> omega)).trans t3)⟩)
  have HT := Lib.hid t4
  have HL := Lib.hid hL
  have HF := Lib.hid (frm_le x L)
  have HU := Lib.hid (upto_le y L)
  have HUE : Hid (upto y L = frm y L + if (decide (frm y L < L.length) && decide (cfE L.toArray[frm y L]! y = 0)) = true then 1 else 0) := Lib.hid rfl
  have HCAP := Lib.hid hcap
  have HSZ := Lib.hid hsz
  clear t1 t2 t3 t4 hL hr hsz hcap
  obtain ⟨F, hF⟩ : ∃ F, F = frm x L := ⟨_, rfl⟩
  obtain ⟨G, hG⟩ : ∃ G, G = frm y L := ⟨_, rfl⟩
  obtain ⟨T, hT⟩ : ∃ T, T = upto y L := ⟨_, rfl⟩
  obtain ⟨n, hn⟩ : ∃ n, n = L.length := ⟨_, rfl⟩
  obtain ⟨b, hb⟩ : ∃ b, b = (decide (frm y L < L.length) && decide (cfE L.toArray[frm y L]! y = 0)) := ⟨_, rfl⟩
  have H1 := Lib.hid (fun W hW => HS.out x W hW)
  have H2 := Lib.hid (fun W hW => HS.out y W hW)
  rw [← hT, ← hb, ← hG] at HUE
  rw [← hb, ← hG] at H2
  obtain ⟨bx, hbx⟩ : ∃ bx, bx = (decide (frm x L < L.length) && decide (cfE L.toArray[frm x L]! x = 0)) := ⟨_, rfl⟩
  rw [← hbx, ← hF] at H1
  rw [← hF] at HF
  rw [← hT] at HU
  rw [← hF, ← hT]
  rw [← hn] at HF HU HB HT HCAP HSZ H1 H2 ⊢
  have HN := Lib.hid hn
  clear hF hG hT hb hbx HS hn
  obtain ⟨⟨r0, r1⟩, ⟨x0, x1⟩, y0, y1⟩ := HB.out _ (Gn.refl _)
  have HG1 : Hid (Gn w (((w.alloc (rowO cmpV (.slice p n c))).alloc (hobj x)).alloc (hobj y))) := HT
  unfold cmpV at *
  go_enter Try.func33, Try.ntmps33
  go_wp2_with fail
  refine (H1.out _ HG1.out).mono ?_
  rintro e w1 ⟨rfl, g1⟩
  obtain ⟨⟨r0, r1⟩, ⟨x0, x1⟩, y0, y1⟩ := HB.out _ g1
  have HG2 := Lib.hid (HG1.out.trans g1)
  have HG2' := Lib.hid g1
  clear g1 HG1 H1
  go_wp2_with fail
  refine (H2.out _ HG2.out).mono ?_
  rintro e w2 ⟨rfl, g2⟩
  obtain ⟨⟨r0, r1⟩, ⟨x0, x1⟩, y0, y1⟩ := HB.out _ (HG2'.out.trans g2)
  have HG3 := Lib.hid (HG2.out.trans g2)
  clear g2 HG2 HG2' HT H2 HB
  have HFIN : Hid (F < T → ∃ g off, p = some ⟨g, off, none⟩ ∧ HsAt w2 (.slice (some ⟨g, off + F * 2, none⟩) (T - F) (c - F)) ((L.take T).drop F)) := Lib.hid (fun hFT => by
    have hL2 := HL.out.below HG3.out.below
    rcases hL2 with ⟨rfl, _⟩ | ⟨g, off, c', e, hg, hc⟩
    · have := HU.out; have := HN.out; simp at this; omega
    · injection e with e1 e2 e3
      exact ⟨g, off, e1, hs_cut (c := c) hg hc hFT (by rw [← HN.out]; exact HU.out) _⟩)
  have HNIL : Hid (¬ F < T → (L.take T).drop F = []) := Lib.hid (fun h => by rw [List.drop_eq_nil_iff]; simp; omega)
  have hG : G + 1 ≤ 1125899906842626 := by
    have := HU.out; have := HUE.out; have := HSZ.out
    split at * <;> omega
  cases hb : b with
  | false =>
    rw [hb] at HUE
    have hTG : T = G := by have := HUE.out; simpa using this
    subst hTG
    clear HUE hb
    by_cases hFT : F < T
    · obtain ⟨g, off, rfl, hs⟩ := HFIN.out hFT
      have HSS := Lib.hid hs
      have h1 : ¬ (F : Int) ≥ (T : Int) := by omega
      have h2 : (F : Int) ≤ (T : Int) := by omega
      have h3 : (T : Int) ≤ (n : Int) := by have := HU.out; omega
      have h4 : n ≤ c := HCAP.out
      clear hs HFIN HNIL
      go_wp2_with fail
      go_ret
      exact ⟨_, rfl, HSS.out, HG3.out⟩
    · have h1 : (F : Int) ≥ (T : Int) := by omega
      have HE : Hid (HsAt w2 (.slice none 0 0) ((L.take T).drop F)) := Lib.hid (.inl ⟨HNIL.out hFT, _, _, rfl⟩)
      clear HFIN HNIL
      go_wp2_with fail
      go_ret
      exact ⟨_, rfl, HE.out, HG3.out⟩
  | true =>
    rw [hb] at HUE
    have hTG : T = G + 1 := by have := HUE.out; simpa using this
    have hwr : wrap64 ((G : Int) + 1) = (T : Int) := by unfold wrap64; omega
    have HHW := Lib.hid hwr
    clear HUE hb hwr hG
    by_cases hFT : F < T
    · obtain ⟨g, off, rfl, hs⟩ := HFIN.out hFT
      have HSS := Lib.hid hs
      have h1 : ¬ (F : Int) ≥ (T : Int) := by omega
      have h2 : (F : Int) ≤ (T : Int) := by omega
      have h3 : (T : Int) ≤ (n : Int) := by have := HU.out; omega
      have h4 : n ≤ c := HCAP.out
      have hwr := HHW.out
      clear hs HFIN HNIL hTG
      go_wp2_with fail
      go_ret
      exact ⟨_, rfl, HSS.out, HG3.out⟩
    · have h1 : (F : Int) ≥ (T : Int) := by omega
      have HE : Hid (HsAt w2 (.slice none 0 0) ((L.take T).drop F)) := Lib.hid (.inl ⟨HNIL.out hFT, _, _, rfl⟩)
      have hwr := HHW.out
      clear HFIN HNIL hTG
      go_wp2_with fail
      go_ret
      exact ⟨_, rfl, HE.out, HG3.out⟩
end Rn
end Go.Proofs.Ytioidkbpjkcjeaa
