/- The document's Train. Conditions: those that each theorem names. -/
import Derived.Test.YtfgmkdghpdpdkaaScL
namespace Go.Proofs.Ytfgmkdghpdpdkaa
set_option linter.unusedVariables false
open Go Go.RowKit Vc Rk
namespace Sc
section
variable {P : Program} {md : Region.Mode} {ops : Array Oper} {Q : Exit → Act → World → Prop} {S : World → Prop} {last : Nat}
theorem L_two {i j : Nat} {oi oj : Oper} {ri rj : List Oper} {n : Nat} {l : Array Bool} {a : Act} {w : World} (hdi : ops.toList.drop i = oi :: ri) (hdj : ops.toList.drop j = oj :: rj) (hr : Region.ready md ops l = [i, j])
    (hi : ∀ K : Act → World → Prop, (∀ a' w', (i ≠ last → S w') → wpAnyL P md ops Q S last n (l.setIfInBounds i true) a' w' → K a' w') →
      if Region.wanted oi (yielded ops a.tmps) = true then Oper.wp P oi a w K Q else K (a.put oi.dst undef) w)
    (hj : ∀ K : Act → World → Prop, (∀ a' w', (j ≠ last → S w') → wpAnyL P md ops Q S last n (l.setIfInBounds j true) a' w' → K a' w') →
      if Region.wanted oj (yielded ops a.tmps) = true then Oper.wp P oj a w K Q else K (a.put oj.dst undef) w) : wpAnyL P md ops Q S last (n + 1) l a w := by
  have at_ : ∀ {k : Nat} {o : Oper} {r : List Oper}, ops.toList.drop k = o :: r → ops[k]? = some o := fun {k o r} hd => by
    have e : (ops.toList.drop k)[0]? = some o := by rw [hd]; rfl
    rw [List.getElem?_drop, Nat.add_zero, Array.getElem?_toList] at e
    exact e
  refine ⟨fun h0 => (by rw [h0] at hr; cases hr), fun k hk => ?_⟩
  rw [hr] at hk
  rcases List.mem_cons.1 hk with rfl | hk
  · exact wpOp_step (at_ hdi) (fun K' hK => hi K' fun a w p q => hK a w ⟨p, q⟩)
  · obtain rfl := List.mem_singleton.1 hk
    exact wpOp_step (at_ hdj) (fun K' hK => hj K' fun a w p q => hK a w ⟨p, q⟩)
end
/-- What the document's Train begins with: two copies of the first row, and a quantizer that holds them. -/
def TR (w1 : World) (n : Nat) (lo hi : List Int) (v : Value) (W : World) : Prop :=
  ∃ (q g1 c1 g2 c2 : Nat), v = .pointer (some ⟨q, 0, none⟩) ∧ w1.heap.size ≤ q ∧ W.heap[q]? = some (.cells #[.slice (some ⟨g1, 0, none⟩) n c1, .slice (some ⟨g2, 0, none⟩) n c2] 25 (0, 0)) ∧
    OwnN W w1.heap.size (.slice (some ⟨g1, 0, none⟩) n c1) lo ∧ OwnN W w1.heap.size (.slice (some ⟨g2, 0, none⟩) n c2) hi ∧ g1 ≠ g2 ∧ g1 ≠ q ∧ g2 ≠ q ∧ Below w1.heap.size w1 W
theorem tr_set {w1 W : World} {n q g1 c1 g2 c2 : Nat} {lo hi : List Int} {x y : Value} (hq : w1.heap.size ≤ q) (hz : W.heap[q]? = some (.cells #[x, y] 25 (0, 0))) (h1 : OwnN W w1.heap.size (.slice (some ⟨g1, 0, none⟩) n c1) lo) (h2 : OwnN W w1.heap.size (.slice (some ⟨g2, 0, none⟩) n c2) hi)
    (h12 : g1 ≠ g2) (h1q : g1 ≠ q) (h2q : g2 ≠ q) (hb : Below w1.heap.size w1 W) :
    TR w1 n lo hi (.pointer (some ⟨q, 0, none⟩)) ((W.setCell ⟨q, 0, none⟩ (.slice (some ⟨g1, 0, none⟩) n c1)).setCell ⟨q, 1, none⟩ (.slice (some ⟨g2, 0, none⟩) n c2)) := by
  have hp : ∀ j, j ≠ q → ((W.setCell ⟨q, 0, none⟩ (.slice (some ⟨g1, 0, none⟩) n c1)).setCell ⟨q, 1, none⟩ (.slice (some ⟨g2, 0, none⟩) n c2)).heap[j]? = W.heap[j]? := fun j hj => by
    rw [heap_setCell_other _ _ _ _ (by simpa using hj), heap_setCell_other _ _ _ _ (by simpa using hj)]
  refine ⟨q, g1, c1, g2, c2, rfl, hq, two_set1 (two_set0 hz), own_keep h1 (fun g hg _ => hp g ?_), own_keep h2 (fun g hg _ => hp g ?_), h12, h1q, h2q, (hb.setCell (p := ⟨q, 0, none⟩) hq _).setCell (p := ⟨q, 1, none⟩) hq _⟩
  · have e : g1 = g := by simpa [Value.ownBlock] using hg
    omega
  · have e : g2 = g := by simpa [Value.ownBlock] using hg
    omega
/-- A row half way: the first j parts are mixed with v's. -/
def mixI (f : Int → Int → Int) (S : List Int) (v : List Int) (j : Nat) : List Int := (List.zipWith f S v).take j ++ S.drop j
section
variable {f : Int → Int → Int}
theorem mixI_len {S v : List Int} (h : S.length = v.length) {j : Nat} (hj : j ≤ S.length) : (mixI f S v j).length = S.length := by simp [mixI]; omega
theorem mixI_at {S v : List Int} (h : S.length = v.length) {j : Nat} (hj : j < S.length) : (mixI f S v j)[j]? = S[j]? := by
  unfold mixI
  have : ((List.zipWith f S v).take j).length = j := by simp; omega
  rw [List.getElem?_append_right (by omega), this, Nat.sub_self, List.getElem?_drop, Nat.add_zero]
theorem mixI_set {S v : List Int} (h : S.length = v.length) {j : Nat} {s x : Int} (hs : S[j]? = some s) (hx : v[j]? = some x) : (mixI f S v j).set j (f s x) = mixI f S v (j + 1) := by
  obtain ⟨hj, rfl⟩ := List.getElem?_eq_some_iff.1 hs
  have ht : ((List.zipWith f S v).take j).length = j := by simp; omega
  unfold mixI
  rw [List.set_append_right _ _ (by omega), ht, Nat.sub_self, List.take_add_one]
  have e : (List.zipWith f S v)[j]? = some (f S[j] x) := by simp [List.getElem?_zipWith, hs, hx]
  rw [e, List.drop_eq_getElem_cons hj, List.set_cons_zero]
  simp
theorem mixI_end {S v : List Int} (h : S.length = v.length) : mixI f S v S.length = List.zipWith f S v := by
  unfold mixI
  rw [List.drop_length, List.append_nil, List.take_of_length_le (by simp; omega)]
theorem mixI_zero (S v : List Int) : mixI f S v 0 = S := by simp [mixI]
end
theorem lows_next {r : List Int} {M : List (List Int)} {k : Nat} {v : List Int} (h : M[k]? = some v) : lowsL r (M.take (k + 1)) = List.zipWith min (lowsL r (M.take k)) v := by
  unfold lowsL
  rw [List.take_add_one, h, List.foldl_append]
  rfl
theorem highs_next {r : List Int} {M : List (List Int)} {k : Nat} {v : List Int} (h : M[k]? = some v) : highsL r (M.take (k + 1)) = List.zipWith max (highsL r (M.take k)) v := by
  unfold highsL
  rw [List.take_add_one, h, List.foldl_append]
  rfl
/-- The document's quantizer under way: a block of two rows. -/
def TQ (w1 W : World) (q g1 c1 g2 c2 n : Nat) (A B : List Int) : Prop :=
  W.heap[q]? = some (.cells #[.slice (some ⟨g1, 0, none⟩) n c1, .slice (some ⟨g2, 0, none⟩) n c2] 25 (0, 0)) ∧
    OwnN W w1.heap.size (.slice (some ⟨g1, 0, none⟩) n c1) A ∧ OwnN W w1.heap.size (.slice (some ⟨g2, 0, none⟩) n c2) B ∧ Below w1.heap.size w1 W
theorem TQ.drew {w1 W : World} {q g1 c1 g2 c2 n : Nat} {A B : List Int} (h : TQ w1 W q g1 c1 g2 c2 n A B) : TQ w1 W.drew q g1 c1 g2 c2 n A B :=
  ⟨h.1, own_below h.2.1 (Below.refl _ W).drew, own_below h.2.2.1 (Below.refl _ W).drew, h.2.2.2.drew⟩
theorem tq_set1 {w1 W : World} {q g1 c1 g2 c2 n : Nat} {A B : List Int} (h : TQ w1 W q g1 c1 g2 c2 n A B) (h1 : w1.heap.size ≤ g1) (h12 : g1 ≠ g2) (h1q : g1 ≠ q) {j : Nat} (hj : j < A.length) (x : Int) :
    TQ w1 (W.setCell ⟨g1, j, none⟩ (.int .i64 x)) q g1 c1 g2 c2 n (A.set j x) B := by
  refine ⟨?_, (put_int h.2.1 j hj).2 x, own_keep h.2.2.1 fun g hg _ => ?_, h.2.2.2.setCell (p := ⟨g1, j, none⟩) h1 _⟩
  · rw [heap_setCell_other _ _ _ _ (by simpa using fun e => h1q e.symm)]; exact h.1
  · have e : g2 = g := by simpa [Value.ownBlock] using hg
    exact heap_setCell_other _ _ _ _ (by simp; omega)
theorem tq_set2 {w1 W : World} {q g1 c1 g2 c2 n : Nat} {A B : List Int} (h : TQ w1 W q g1 c1 g2 c2 n A B) (h2 : w1.heap.size ≤ g2) (h12 : g1 ≠ g2) (h2q : g2 ≠ q) {j : Nat} (hj : j < B.length) (x : Int) :
    TQ w1 (W.setCell ⟨g2, j, none⟩ (.int .i64 x)) q g1 c1 g2 c2 n A (B.set j x) := by
  refine ⟨?_, own_keep h.2.1 fun g hg _ => ?_, (put_int h.2.2.1 j hj).2 x, h.2.2.2.setCell (p := ⟨g2, j, none⟩) h2 _⟩
  · rw [heap_setCell_other _ _ _ _ (by simpa using fun e => h2q e.symm)]; exact h.1
  · have e : g1 = g := by simpa [Value.ownBlock] using hg
    exact heap_setCell_other _ _ _ _ (by simp; omega)
theorem tq_cells {w1 W : World} {q g1 c1 g2 c2 n : Nat} {A B : List Int} (h : TQ w1 W q g1 c1 g2 c2 n A B) {j : Nat} {a b : Int} (ha : A[j]? = some a) (hb : B[j]? = some b) :
    (W.cell? ⟨q, 0, none⟩ = some (.slice (some ⟨g1, 0, none⟩) n c1) ∧ W.cell? ⟨q, 1, none⟩ = some (.slice (some ⟨g2, 0, none⟩) n c2)) ∧ (W.cell? ⟨g1, j, none⟩ = some (.int .i64 a) ∧ W.frozen? ⟨g1, j, none⟩ = false) ∧ (W.cell? ⟨g2, j, none⟩ = some (.int .i64 b) ∧ W.frozen? ⟨g2, j, none⟩ = false) := by
  obtain ⟨⟨d0, _⟩, d1, _⟩ := two_at h.1
  obtain ⟨hj, rfl⟩ := List.getElem?_eq_some_iff.1 ha
  obtain ⟨hj2, rfl⟩ := List.getElem?_eq_some_iff.1 hb
  have k0 := Rk.own_cell flatI h.2.1 j hj (i := 0) (u := .int .i64 A[j]) rfl
  have k1 := Rk.own_cell flatI h.2.2.1 j hj2 (i := 0) (u := .int .i64 B[j]) rfl
  rw [Nat.mul_one] at k0 k1
  exact ⟨⟨d0, d1⟩, k0, k1⟩
set_option maxHeartbeats 8000000 in
set_option maxRecDepth 100000 in
theorem trainR_any (M : List (List Int)) (v : Value) (w : World) (h : RowsAt w v M) (hl : ∀ u ∈ M, u.length ≤ maxLen) (hm : M.length ≤ maxLen) :
    Calls Try.prog 8 #[v] w fun e w' => ∃ a b, e = .returned (.tuple #[.agg #[a, b], .int .i64 (if rowsB M = true then 0 else 170)]) ∧
      OwnN w' w.heap.size a (if rowsB M = true then trainLo M else []) ∧ OwnN w' w.heap.size b (if rowsB M = true then trainHi M else []) ∧ Below w.heap.size w w' := by
  obtain ⟨W1, hW1⟩ : ∃ W1, W1 = w.alloc (.cells #[.slice none 0 0, .slice none 0 0] 25) := ⟨_, rfl⟩
  have hz : W1.heap[w.heap.size]? = some (.cells #[.slice none 0 0, .slice none 0 0] 25 (0, 0)) := by rw [hW1]; exact heap_last _ _
  have hb1 : Below w.heap.size w W1 := by rw [hW1]; exact fresh_alloc _ _
  have hs1 : W1.heap.size = w.heap.size + 1 := by rw [hW1]; simp
  have HB1 := Lib.hid hb1
  have HS1 := Lib.hid hs1
  have HZ := Lib.hid hz
  have HNO : Hid (∀ W : World, W.heap[w.heap.size]? = some (.cells #[.slice none 0 0, .slice none 0 0] 25 (0, 0)) → ((W.setCell ⟨w.heap.size, 0, none⟩ (.slice none 0 0)).setCell ⟨w.heap.size, 1, none⟩ (.slice none 0 0)).cell? ⟨w.heap.size, 0, none⟩ = some (.slice none 0 0) ∧
      ((W.setCell ⟨w.heap.size, 0, none⟩ (.slice none 0 0)).setCell ⟨w.heap.size, 1, none⟩ (.slice none 0 0)).cell? ⟨w.heap.size, 1, none⟩ = some (.slice none 0 0)) := Lib.hid (fun W hW => by
    obtain ⟨⟨a, _⟩, b, _⟩ := two_at (two_set1 (x := .slice none 0 0) (two_set0 (x := .slice none 0 0) hW))
    exact ⟨a, b⟩)
  have C1 := Lib.hid (rows_any M v W1 (h.below hb1) hl hm)
  have HROW := Lib.hid (h.below hb1)
  have HL := Lib.hid hl
  have HM := Lib.hid hm
  have hfrm := h
  obtain ⟨p, c, rfl, _, _⟩ := hfrm
  clear h hl hm hz hb1 hs1
  cases hB : rowsB M with
  | false =>
    rw [hB] at C1
    go_enter Try.func8, Try.ntmps8
    go_upto_region 1 with fail
    rw [← hW1]
    clear hW1
    go_wp2_with fail
    refine C1.out.mono ?_
    rintro e w1 ⟨rfl, hb⟩
    have hz1 := (hb.block w.heap.size (by have := HS1.out; omega)).trans HZ.out
    obtain ⟨⟨c0, e0⟩, c1, e1⟩ := two_at hz1
    have HF := Lib.hid (HB1.out.trans (hb.mono (by have := HS1.out; omega)))
    obtain ⟨q0, q1⟩ := HNO.out _ hz1
    clear hb hz1
    go_wp2_with fail
    refine bodyPost_ret (v := .tuple #[.agg #[.slice none 0 0, .slice none 0 0], .int .i64 170]) (by simp [results, Try.results8, go_sem, q0, q1]) rfl ⟨_, _, rfl, own_none _ _, own_none _ _, (HF.out.setCell (p := ⟨w.heap.size, 0, none⟩) (Nat.le_refl _) _).setCell (p := ⟨w.heap.size, 1, none⟩) (Nat.le_refl _) _⟩
  | true =>
    rw [hB] at C1
    obtain ⟨r, R, hM, hvr, hall⟩ := rows_of hB
    obtain ⟨n1, n64, n3⟩ := parts_of hvr
    clear n3
    obtain ⟨bb, off, p0, ck0, hpp, hbb, hx0, hi0⟩ := rows_cell HROW.out (k := 0) (u := r) (by rw [hM]; rfl)
    rw [Nat.add_zero] at hx0
    subst hpp
    have HX0 := Lib.hid hx0
    have HI0 := Lib.hid hi0
    obtain ⟨n, hn⟩ : ∃ n, n = r.length := ⟨_, rfl⟩
    have HN := Lib.hid hn
    rw [← hn] at HX0 HI0
    have HN1 : Hid (1 ≤ n ∧ n ≤ 64) := Lib.hid ⟨by omega, by omega⟩
    obtain ⟨m, hmm⟩ : ∃ m, m = M.length := ⟨_, rfl⟩
    have HMM := Lib.hid hmm
    have hm1 : (0 : Int) < (m : Int) := by rw [hmm, hM, List.length_cons]; omega
    have hm0 : 0 < m := by omega
    rw [← hmm] at HROW C1 ⊢
    have HB := Lib.hid hB
    have HMR := Lib.hid hM
    have HALL := Lib.hid hall
    clear hx0 hi0 n1 n64 hn hmm hB hM hall hvr hbb
    go_enter Try.func8, Try.ntmps8
    go_upto_region 1 with fail
    rw [← hW1]
    clear hW1
    go_wp2_with fail
    refine C1.out.mono ?_
    rintro e w1 ⟨rfl, hb⟩
    have H1 := Lib.hid hb
    have HX1 : Hid (∀ W, Below w1.heap.size w1 W → W.cell? ⟨bb, off, none⟩ = some (.slice p0 n ck0)) := Lib.hid (fun W hW => HX0.out W (H1.out.trans (hW.mono H1.out.size)))
    have APP : Hid (∀ W, Below w1.heap.size w1 W → ∃ g c w', (∀ ty, (Builtin.append_ #[23, 23] ty #[.slice none 0 0, .slice p0 n ck0]).run Try.prog W = .ok (.slice (some ⟨g, 0, none⟩) n c) w') ∧ OwnN w' W.heap.size (.slice (some ⟨g, 0, none⟩) n c) r ∧ Below W.heap.size W w') := Lib.hid (fun W hW => by
      obtain ⟨v', w', hr, ho, hg⟩ := append_ints (base := W.heap.size) (A := []) (v := .slice none 0 0) (World.ownsRow_nil _ _ _ _) (HI0.out.below (H1.out.trans (hW.mono H1.out.size))) (by have := HN.out; have := HN1.out; simp; omega) (Nat.le_refl _)
      rw [List.nil_append] at ho
      obtain ⟨g, c, e, _, _⟩ := own_form (own_ownN ho) (by have := HN.out; have := HN1.out; omega)
      rw [← HN.out] at e
      subst e
      exact ⟨g, c, w', hr, own_ownN ho, (Below.refl W.heap.size W).grown hg (Nat.le_refl _) (fun k hk => by cases hk)⟩)
    have mixed : Try.prog.follows .mixedOrders = true := by kernel_rfl
    have x0 := HX1.out w1 (Below.refl _ _)
    clear hb C1
    go_wp2_with fail
    go_cut [4] from 11 to 19 (fun v wx => TR w1 n r r v wx)
    case first =>
      have S0 := HX1.out w1.drew (Below.refl _ w1).drew
      refine wp_region_L 10 (fun X => X.cell? ⟨bb, off, none⟩ = some (.slice p0 n ck0)) (by kernel_rfl) S0 fun hSS => ?_
      have HD : Hid (Below w1.heap.size w1 w1.drew) := Lib.hid (Below.refl _ w1).drew
      have hS0 : w1.drew.heap.size = w1.heap.size := rfl
      generalize w1.drew = wd at *
      -- what the three orders lead to
      have hbA : Below w1.heap.size w1 (wd.alloc (.cells #[.slice none 0 0, .slice none 0 0] 25)) := HD.out.alloc HD.out.size _
      obtain ⟨gA1, cA1, wA1, hrA1, hoA1, hbA1⟩ := APP.out _ hbA
      have hbA1' := hbA.trans (hbA1.mono hbA.size)
      obtain ⟨gA2, cA2, wA2, hrA2, hoA2, hbA2⟩ := APP.out _ hbA1'
      have hbA2' := hbA1'.trans (hbA2.mono hbA1'.size)
      obtain ⟨gB1, cB1, wB1, hrB1, hoB1, hbB1⟩ := APP.out _ HD.out
      have hbB1' := HD.out.trans (hbB1.mono HD.out.size)
      have hbBZ : Below w1.heap.size w1 (wB1.alloc (.cells #[.slice none 0 0, .slice none 0 0] 25)) := hbB1'.alloc hbB1'.size _
      obtain ⟨gB2, cB2, wB2, hrB2, hoB2, hbB2⟩ := APP.out _ hbBZ
      have hbB2' := hbBZ.trans (hbB2.mono hbBZ.size)
      obtain ⟨gC2, cC2, wC2, hrC2, hoC2, hbC2⟩ := APP.out _ hbB1'
      have hbC2' := hbB1'.trans (hbC2.mono hbB1'.size)
      have hbCZ : Below w1.heap.size w1 (wC2.alloc (.cells #[.slice (some ⟨gB1, 0, none⟩) n cB1, .slice (some ⟨gC2, 0, none⟩) n cC2] 25)) := hbC2'.alloc hbC2'.size _
      have sA := HX1.out _ hbA
      have sA1 := HX1.out _ hbA1'
      have sA2 := HX1.out _ hbA2'
      have sB1 := HX1.out _ hbB1'
      have sBZ := HX1.out _ hbBZ
      have sB2 := HX1.out _ hbB2'
      have sC2 := HX1.out _ hbC2'
      have hbCZ0 : Below w1.heap.size w1 (wC2.alloc (.cells #[.slice none 0 0, .slice none 0 0] 25)) := hbC2'.alloc hbC2'.size _
      have sCZ := HX1.out _ hbCZ0
      have lA : wd.heap.size < (wd.alloc (.cells #[.slice none 0 0, .slice none 0 0] 25)).heap.size := by simp
      have lB : wB1.heap.size < (wB1.alloc (.cells #[.slice none 0 0, .slice none 0 0] 25)).heap.size := by simp
      have lA1 := (own_block hoA1 gA1 rfl)
      have lA2 := (own_block hoA2 gA2 rfl)
      have lB1 := (own_block hoB1 gB1 rfl)
      have lB2 := (own_block hoB2 gB2 rfl)
      have lC2 := (own_block hoC2 gC2 rfl)
      have kA : wA2.heap[wd.heap.size]? = some (.cells #[.slice none 0 0, .slice none 0 0] 25) := (hbA2.block _ (Nat.lt_of_lt_of_le lA hbA1.size)).trans ((hbA1.block _ lA).trans (heap_last wd _))
      have kB : wB2.heap[wB1.heap.size]? = some (.cells #[.slice none 0 0, .slice none 0 0] 25) := (hbB2.block _ lB).trans (heap_last wB1 _)
      have kC : (wC2.alloc (.cells #[.slice (some ⟨gB1, 0, none⟩) n cB1, .slice (some ⟨gC2, 0, none⟩) n cC2] 25)).heap[wC2.heap.size]? = some (.cells #[.slice (some ⟨gB1, 0, none⟩) n cB1, .slice (some ⟨gC2, 0, none⟩) n cC2] 25 (0, 0)) := heap_last wC2 _
      have hds := HD.out.size
      have TA := Lib.hid (tr_set (lo := r) (hi := r) (n := n) (by omega) kA (own_le (own_below hoA1 hbA2) (by have := hbA.size; omega)) (own_le hoA2 (by have := hbA1'.size; omega)) (by have := hbA2.size; omega) (by omega) (by have := hbA1.size; omega) hbA2')
      have TB := Lib.hid (tr_set (lo := r) (hi := r) (n := n) (by have := hbB1.size; omega) kB (own_le (own_below (own_below hoB1 (fresh_alloc wB1 (.cells #[.slice none 0 0, .slice none 0 0] 25))) hbB2) hds) (own_le hoB2 (by have := hbBZ.size; omega)) (by omega) (by omega) (by omega) hbB2')
      have TC : Hid (TR w1 n r r (.pointer (some ⟨wC2.heap.size, 0, none⟩)) (wC2.alloc (.cells #[.slice (some ⟨gB1, 0, none⟩) n cB1, .slice (some ⟨gC2, 0, none⟩) n cC2] 25))) := Lib.hid ⟨_, _, _, _, _, rfl, by have := hbB1.size; have := hbC2.size; omega, kC, own_le (own_below (own_below hoB1 hbC2) (fresh_alloc wC2 (.cells #[.slice (some ⟨gB1, 0, none⟩) n cB1, .slice (some ⟨gC2, 0, none⟩) n cC2] 25))) hds, own_le (own_below hoC2 (fresh_alloc wC2 (.cells #[.slice (some ⟨gB1, 0, none⟩) n cB1, .slice (some ⟨gC2, 0, none⟩) n cC2] 25))) (by have := hbB1'.size; omega), by omega, by have := hbC2.size; omega, by omega, hbCZ⟩
      obtain ⟨⟨dA0, fA0⟩, dA1, fA1⟩ := two_at kA
      obtain ⟨⟨dB0, fB0⟩, dB1, fB1⟩ := two_at kB
      clear hbA hbA1' hbA2' hbB1' hbBZ hbB2' hbC2' hbCZ hbCZ0 hoA1 hoA2 hoB1 hoB2 hoC2 hbA1 hbA2 hbB1 hbB2 hbC2 lA lB lA1 lA2 lB1 lB2 lC2 kA kB kC hds hS0 APP
      refine L_take' (i := 0) (v := ?vv0) rfl (by kernel_rfl) (by kernel_rfl) (by kernel_rfl) (by kernel_rfl) (fun _ _ _ h => h) (Or.inl ⟨by rfl, ?hy0⟩) (by assumption) ?rest0
      case hy0 =>
        intro wy hSx
        go_simp
        all_goals with_reducible rfl
      try simp only [Act.put, List.setIfInBounds_toArray, List.set_cons_zero, List.set_cons_succ]
      refine L_take' (i := 1) (v := ?vv1) rfl (by kernel_rfl) (by kernel_rfl) (by kernel_rfl) (by kernel_rfl) (fun _ _ _ h => h) (Or.inl ⟨by rfl, ?hy1⟩) (by assumption) ?rest1
      case hy1 =>
        intro wy hSx
        go_simp
        all_goals with_reducible rfl
      try simp only [Act.put, List.setIfInBounds_toArray, List.set_cons_zero, List.set_cons_succ]
      refine L_take' (i := 2) (v := ?vv2) rfl (by kernel_rfl) (by kernel_rfl) (by kernel_rfl) (by kernel_rfl) (fun _ _ _ h => h) (Or.inl ⟨by rfl, ?hy2⟩) (by assumption) ?rest2
      case hy2 =>
        intro wy hSx
        go_simp
        all_goals with_reducible rfl
      try simp only [Act.put, List.setIfInBounds_toArray, List.set_cons_zero, List.set_cons_succ]
      refine L_take' (i := 4) (v := ?vv4) rfl (by kernel_rfl) (by kernel_rfl) (by kernel_rfl) (by kernel_rfl) (fun _ _ _ h => h) (Or.inl ⟨by rfl, ?hy4⟩) (by assumption) ?rest4
      case hy4 =>
        intro wy hSx
        go_simp
        all_goals with_reducible rfl
      try simp only [Act.put, List.setIfInBounds_toArray, List.set_cons_zero, List.set_cons_succ]
      refine L_take' (i := 5) (v := ?vv5) rfl (by kernel_rfl) (by kernel_rfl) (by kernel_rfl) (by kernel_rfl) (fun _ _ _ h => h) (Or.inl ⟨by rfl, ?hy5⟩) (by assumption) ?rest5
      case hy5 =>
        intro wy hSx
        go_simp
        all_goals with_reducible rfl
      try simp only [Act.put, List.setIfInBounds_toArray, List.set_cons_zero, List.set_cons_succ]
      refine L_take' (i := 6) (v := ?vv6) rfl (by kernel_rfl) (by kernel_rfl) (by kernel_rfl) (by kernel_rfl) (fun _ _ _ h => h) (Or.inl ⟨by rfl, ?hy6⟩) (by assumption) ?rest6
      case hy6 =>
        intro wy hSx
        go_simp
        all_goals with_reducible rfl
      try simp only [Act.put, List.setIfInBounds_toArray, List.set_cons_zero, List.set_cons_succ]
      refine L_two (i := 3) (j := 9) rfl rfl (by kernel_rfl) (fun K hK => ?_) (fun K hK => ?_)
      · refine step_append_run (by rfl) _ _ _ _ (by rfl) _ _ (.slice (some ⟨gB1, 0, none⟩) n cB1) wB1 (by rfl) (by rfl) hrB1 ?_
        refine hK _ _ (fun _ => sB1) ?_
        clear K hK
        try simp only [Act.put, List.setIfInBounds_toArray, List.set_cons_zero, List.set_cons_succ]
        refine L_two (i := 7) (j := 9) rfl rfl (by kernel_rfl) (fun K hK => ?_) (fun K hK => ?_)
        · refine step_append_run (by rfl) _ _ _ _ (by rfl) _ _ (.slice (some ⟨gC2, 0, none⟩) n cC2) wC2 (by rfl) (by rfl) hrC2 ?_
          refine hK _ _ (fun _ => sC2) ?_
          clear K hK
          try simp only [Act.put, List.setIfInBounds_toArray, List.set_cons_zero, List.set_cons_succ]
          refine L_take' (i := 8) (v := ?vv8_1) rfl (by kernel_rfl) (by kernel_rfl) (by kernel_rfl) (by kernel_rfl) (fun _ _ _ h => h) (Or.inl ⟨by rfl, ?hy8_1⟩) (by assumption) ?rest8_1
          case hy8_1 =>
            intro wy hSx
            go_simp
            all_goals with_reducible rfl
          try simp only [Act.put, List.setIfInBounds_toArray, List.set_cons_zero, List.set_cons_succ]
          refine L_one' (i := 9) rfl (by kernel_rfl) fun K hK => ?_
          go_simp
          refine hK _ _ (fun _ => sCZ) ?_
          clear K hK
          try simp only [Act.put, List.setIfInBounds_toArray, List.set_cons_zero, List.set_cons_succ]
          refine L_one' (i := 10) rfl (by kernel_rfl) fun K hK => ?_
          go_simp
          refine hK _ _ (fun h => absurd rfl h) ?_
          clear K hK
          try simp only [Act.put, List.setIfInBounds_toArray, List.set_cons_zero, List.set_cons_succ]
          refine L_done (by kernel_rfl) ?_ _
          go_wp2_with fail
          go_meet
          exact TC.out
        · go_simp
          refine hK _ _ (fun _ => sBZ) ?_
          clear K hK
          try simp only [Act.put, List.setIfInBounds_toArray, List.set_cons_zero, List.set_cons_succ]
          refine L_one' (i := 7) rfl (by kernel_rfl) fun K hK => ?_
          refine step_append_run (by rfl) _ _ _ _ (by rfl) _ _ (.slice (some ⟨gB2, 0, none⟩) n cB2) wB2 (by rfl) (by rfl) hrB2 ?_
          refine hK _ _ (fun _ => sB2) ?_
          clear K hK
          try simp only [Act.put, List.setIfInBounds_toArray, List.set_cons_zero, List.set_cons_succ]
          refine L_take' (i := 8) (v := ?vv8_2) rfl (by kernel_rfl) (by kernel_rfl) (by kernel_rfl) (by kernel_rfl) (fun _ _ _ h => h) (Or.inl ⟨by rfl, ?hy8_2⟩) (by assumption) ?rest8_2
          case hy8_2 =>
            intro wy hSx
            go_simp
            all_goals with_reducible rfl
          try simp only [Act.put, List.setIfInBounds_toArray, List.set_cons_zero, List.set_cons_succ]
          refine L_one' (i := 10) rfl (by kernel_rfl) fun K hK => ?_
          go_simp
          refine hK _ _ (fun h => absurd rfl h) ?_
          clear K hK
          try simp only [Act.put, List.setIfInBounds_toArray, List.set_cons_zero, List.set_cons_succ]
          refine L_done (by kernel_rfl) ?_ _
          go_wp2_with fail
          go_meet
          exact TB.out
      · go_simp
        refine hK _ _ (fun _ => sA) ?_
        clear K hK
        try simp only [Act.put, List.setIfInBounds_toArray, List.set_cons_zero, List.set_cons_succ]
        refine L_one' (i := 3) rfl (by kernel_rfl) fun K hK => ?_
        refine step_append_run (by rfl) _ _ _ _ (by rfl) _ _ (.slice (some ⟨gA1, 0, none⟩) n cA1) wA1 (by rfl) (by rfl) hrA1 ?_
        refine hK _ _ (fun _ => sA1) ?_
        clear K hK
        try simp only [Act.put, List.setIfInBounds_toArray, List.set_cons_zero, List.set_cons_succ]
        refine L_one' (i := 7) rfl (by kernel_rfl) fun K hK => ?_
        refine step_append_run (by rfl) _ _ _ _ (by rfl) _ _ (.slice (some ⟨gA2, 0, none⟩) n cA2) wA2 (by rfl) (by rfl) hrA2 ?_
        refine hK _ _ (fun _ => sA2) ?_
        clear K hK
        try simp only [Act.put, List.setIfInBounds_toArray, List.set_cons_zero, List.set_cons_succ]
        refine L_take' (i := 8) (v := ?vv8_3) rfl (by kernel_rfl) (by kernel_rfl) (by kernel_rfl) (by kernel_rfl) (fun _ _ _ h => h) (Or.inl ⟨by rfl, ?hy8_3⟩) (by assumption) ?rest8_3
        case hy8_3 =>
          intro wy hSx
          go_simp
          all_goals with_reducible rfl
        try simp only [Act.put, List.setIfInBounds_toArray, List.set_cons_zero, List.set_cons_succ]
        refine L_one' (i := 10) rfl (by kernel_rfl) fun K hK => ?_
        go_simp
        refine hK _ _ (fun h => absurd rfl h) ?_
        clear K hK
        try simp only [Act.put, List.setIfInBounds_toArray, List.set_cons_zero, List.set_cons_succ]
        refine L_done (by kernel_rfl) ?_ _
        go_wp2_with fail
        go_meet
        exact TA.out
    case rest =>
      obtain ⟨q, g1, c1, g2, c2, rfl, hq, hz, ho1, ho2, h12, h1q, h2q, hb⟩ := hcut
      have HT0 : Hid (TQ w1 wc q g1 c1 g2 c2 n r r) := Lib.hid ⟨hz, ho1, ho2, hb⟩
      have HQ : Hid (w1.heap.size ≤ q ∧ w1.heap.size ≤ g1 ∧ w1.heap.size ≤ g2 ∧ g1 ≠ g2 ∧ g1 ≠ q ∧ g2 ≠ q) := Lib.hid ⟨hq, (own_block ho1 g1 rfl).1, (own_block ho2 g2 rfl).1, h12, h1q, h2q⟩
      have HRW : Hid (∀ k u, M[k]? = some u → u.length = n ∧ ∃ bk ok ck, (∀ wr, Below w1.heap.size w1 wr → wr.cell? ⟨bb, off + k, none⟩ = some (.slice (some ⟨bk, ok, none⟩) n ck)) ∧ ∀ wr, Below w1.heap.size w1 wr → ∀ j x, u[j]? = some x → wr.cell? ⟨bk, ok + j, none⟩ = some (.int .i64 x)) := Lib.hid (fun k u hu => by
        obtain ⟨b', off', pk, ck, e, _, hc, hi⟩ := rows_cell HROW.out hu
        injection e with e
        injection e with e1 e2
        subst e1; subst e2
        have hul := (HALL.out u (List.mem_of_getElem? hu)).2
        rw [← HN.out] at hul
        obtain ⟨bk, ok, ck', e, _, hx⟩ := at_cells hi (by have := HN1.out; omega)
        injection e with e1 e2 e3
        subst e1; subst e3
        refine ⟨hul, bk, ok, ck, fun wr hw => ?_, fun wr hw j x hj => ?_⟩
        · have := hc wr (H1.out.trans (hw.mono H1.out.size)); rw [hul] at this; exact this
        · obtain ⟨hj', rfl⟩ := List.getElem?_eq_some_iff.1 hj
          exact hx wr (H1.out.trans (hw.mono H1.out.size)) j hj')
      have HAB : Hid (∀ k, (lowsL r (M.take k)).length = n ∧ (highsL r (M.take k)).length = n) := Lib.hid (fun k => by
        have h : ∀ v ∈ M.take k, v.length = n := fun v hv => by rw [HN.out]; exact (HALL.out v (List.mem_of_mem_take hv)).2
        exact ⟨lows_len _ _ HN.out.symm h, highs_len _ _ HN.out.symm h⟩)
      clear hq hz ho1 ho2 h12 h1q h2q hb x0 APP HX1 HX0 HI0
      go_wp2_with fail
      go_loopw [5] (fun i wr => ∃ k : Nat, k ≤ m ∧ i = .int .i64 k ∧ TQ w1 wr q g1 c1 g2 c2 n (lowsL r (M.take k)) (highsL r (M.take k))) (fun i _ => m - (intOf i).toNat)
      case atStart => exact ⟨0, Nat.zero_le _, rfl, by simpa [lowsL, highsL] using HT0.out⟩
      case round =>
        obtain ⟨k, hk, rfl, ht⟩ := hrel
        obtain ⟨wq, rfl⟩ : ∃ wq : World, wq = wr := ⟨_, rfl⟩
        by_cases hlt : k < m
        · obtain ⟨u, hu⟩ : ∃ u, M[k]? = some u := ⟨_, List.getElem?_eq_getElem (by rw [← HMM.out]; exact hlt)⟩
          obtain ⟨hul, bk, okk, ck, hcell, hxs⟩ := HRW.out k u hu
          have HKLT := Lib.hid hlt
          have hki : (k : Int) < (m : Int) := by omega
          have hk9 : (k : Int) + 1 ≤ 9223372036854775807 := by (have := HM.out; have := HMM.out; unfold maxLen at *; omega)
          have wK : wrap64 ((k : Int) + 1) = (k : Int) + 1 := wrap_in _ (by omega)
          have wK' : IntKind.i64.wrap ((k : Int) + 1) = (k : Int) + 1 := kw_in _ (by omega)
          clear hk9
          obtain ⟨A, hA⟩ : ∃ A, A = lowsL r (M.take k) := ⟨_, rfl⟩
          obtain ⟨B, hB'⟩ : ∃ B, B = highsL r (M.take k) := ⟨_, rfl⟩
          have HAN : Hid (List.zipWith min A u = lowsL r (M.take (k + 1)) ∧ List.zipWith max B u = highsL r (M.take (k + 1))) := Lib.hid ⟨by rw [hA]; exact (lows_next hu).symm, by rw [hB']; exact (highs_next hu).symm⟩
          have HAL : Hid (A.length = n ∧ B.length = n ∧ u.length = n) := Lib.hid ⟨by rw [hA]; exact (HAB.out k).1, by rw [hB']; exact (HAB.out k).2, hul⟩
          rw [← hA, ← hB'] at ht
          have HTA := Lib.hid ht
          have HCL := Lib.hid hcell
          have HXS := Lib.hid hxs
          clear hA hB' ht hcell hxs hul hu
          go_wp2_with fail
          go_loopw [6] (fun i wr => ∃ j : Nat, j ≤ n ∧ i = .int .i64 j ∧ TQ w1 wr q g1 c1 g2 c2 n (mixI min A u j) (mixI max B u j)) (fun i _ => n - (intOf i).toNat)
          case atStart => exact ⟨0, Nat.zero_le _, rfl, by simpa [mixI] using HTA.out⟩
          case round =>
            obtain ⟨j, hj, rfl, ht⟩ := hrel
            obtain ⟨wj, rfl⟩ : ∃ wj : World, wj = wr := ⟨_, rfl⟩
            have HTJ := Lib.hid ht
            have hcl := HCL.out wj ht.2.2.2
            by_cases hlt : j < n
            · have hji : (j : Int) < (n : Int) := by omega
              have wJ : wrap64 ((j : Int) + 1) = (j : Int) + 1 := wrap_in _ (by have := HN1.out; omega)
              have wJ' : IntKind.i64.wrap ((j : Int) + 1) = (j : Int) + 1 := kw_in _ (by have := HN1.out; omega)
              have HJLT := Lib.hid hlt
              obtain ⟨x, hx⟩ : ∃ x, u[j]? = some x := ⟨_, List.getElem?_eq_getElem (by rw [HAL.out.2.2]; exact hlt)⟩
              obtain ⟨a, ha⟩ : ∃ a, A[j]? = some a := ⟨_, List.getElem?_eq_getElem (by rw [HAL.out.1]; exact hlt)⟩
              obtain ⟨b, hb⟩ : ∃ b, B[j]? = some b := ⟨_, List.getElem?_eq_getElem (by rw [HAL.out.2.1]; exact hlt)⟩
              have ha' : (mixI min A u j)[j]? = some a := by rw [mixI_at (by rw [HAL.out.1, HAL.out.2.2]) (by rw [HAL.out.1]; exact hlt)]; exact ha
              have hb' : (mixI max B u j)[j]? = some b := by rw [mixI_at (by rw [HAL.out.2.1, HAL.out.2.2]) (by rw [HAL.out.2.1]; exact hlt)]; exact hb
              have sA := mixI_set (f := min) (by rw [HAL.out.1, HAL.out.2.2]) ha hx
              have sB := mixI_set (f := max) (by rw [HAL.out.2.1, HAL.out.2.2]) hb hx
              have lA : j < (mixI min A u j).length := by rw [mixI_len (by rw [HAL.out.1, HAL.out.2.2]) (by rw [HAL.out.1]; exact hj), HAL.out.1]; exact hlt
              have lB : j < (mixI max B u j).length := by rw [mixI_len (by rw [HAL.out.2.1, HAL.out.2.2]) (by rw [HAL.out.2.1]; exact hj), HAL.out.2.1]; exact hlt
              have t0 := ht.drew
              have t1 := tq_set1 t0 HQ.out.2.1 HQ.out.2.2.2.1 HQ.out.2.2.2.2.1 lA (min a x)
              have t2 := t1.drew
              have t3 := tq_set2 t2 HQ.out.2.2.1 HQ.out.2.2.2.1 HQ.out.2.2.2.2.2 lB (max b x)
              rw [sA, sB] at t3
              have HT3 := Lib.hid t3
              have c0 := tq_cells t0 ha' hb'
              have ha2 : ((mixI min A u j).set j (min a x))[j]? = some (min a x) := List.getElem?_set_self lA
              have c2' := tq_cells t2 ha2 hb'
              have d0 := And.intro (HCL.out _ t0.2.2.2) (HXS.out _ t0.2.2.2 j x hx)
              have d2 := And.intro (HCL.out _ t2.2.2.2) (HXS.out _ t2.2.2.2 j x hx)
              have S0 := And.intro c0.1 (And.intro d0 c0.2)
              have S2 := And.intro c2'.1 (And.intro d2 c2'.2)
              have mixed : Try.prog.follows .mixedOrders = true := by kernel_rfl
              clear ha hb ha' hb' sA sB lA lB t0 t1 t2 t3 c0 ha2 c2' d0 d2 hx ht
              go_wp2_with fail
              refine wp_region_L 17 (fun X => (X.cell? ⟨q, 0, none⟩ = some (.slice (some ⟨g1, 0, none⟩) n c1) ∧ X.cell? ⟨q, 1, none⟩ = some (.slice (some ⟨g2, 0, none⟩) n c2)) ∧ (X.cell? ⟨bb, off + k, none⟩ = some (.slice (some ⟨bk, okk, none⟩) n ck) ∧ X.cell? ⟨bk, okk + j, none⟩ = some (.int .i64 x)) ∧ (X.cell? ⟨g1, j, none⟩ = some (.int .i64 a) ∧ X.frozen? ⟨g1, j, none⟩ = false) ∧ (X.cell? ⟨g2, j, none⟩ = some (.int .i64 b) ∧ X.frozen? ⟨g2, j, none⟩ = false)) (by kernel_rfl) S0 fun hSS => ?_
              refine L_take' (i := 0) (v := ?vv_S0_0) rfl (by kernel_rfl) (by kernel_rfl) (by kernel_rfl) (by kernel_rfl) (fun _ _ _ h => h) (Or.inl ⟨by rfl, ?hy_S0_0⟩) (by assumption) ?rest_S0_0
              case hy_S0_0 =>
                intro wy hSx
                obtain ⟨⟨s0, s1⟩, ⟨s2, s3⟩, ⟨s4, f4⟩, ⟨s5, f5⟩⟩ := hSx
                go_simp
                all_goals with_reducible rfl
              try simp only [Act.put, List.setIfInBounds_toArray, List.set_cons_zero, List.set_cons_succ]
              refine L_take' (i := 1) (v := ?vv_S0_1) rfl (by kernel_rfl) (by kernel_rfl) (by kernel_rfl) (by kernel_rfl) (fun _ _ _ h => h) (Or.inl ⟨by rfl, ?hy_S0_1⟩) (by assumption) ?rest_S0_1
              case hy_S0_1 =>
                intro wy hSx
                obtain ⟨⟨s0, s1⟩, ⟨s2, s3⟩, ⟨s4, f4⟩, ⟨s5, f5⟩⟩ := hSx
                go_simp
                all_goals with_reducible rfl
              try simp only [Act.put, List.setIfInBounds_toArray, List.set_cons_zero, List.set_cons_succ]
              refine L_take' (i := 2) (v := ?vv_S0_2) rfl (by kernel_rfl) (by kernel_rfl) (by kernel_rfl) (by kernel_rfl) (fun _ _ _ h => h) (Or.inl ⟨by rfl, ?hy_S0_2⟩) (by assumption) ?rest_S0_2
              case hy_S0_2 =>
                intro wy hSx
                obtain ⟨⟨s0, s1⟩, ⟨s2, s3⟩, ⟨s4, f4⟩, ⟨s5, f5⟩⟩ := hSx
                go_simp
                all_goals with_reducible rfl
              try simp only [Act.put, List.setIfInBounds_toArray, List.set_cons_zero, List.set_cons_succ]
              refine L_take' (i := 3) (v := ?vv_S0_3) rfl (by kernel_rfl) (by kernel_rfl) (by kernel_rfl) (by kernel_rfl) (fun _ _ _ h => h) (Or.inl ⟨by rfl, ?hy_S0_3⟩) (by assumption) ?rest_S0_3
              case hy_S0_3 =>
                intro wy hSx
                obtain ⟨⟨s0, s1⟩, ⟨s2, s3⟩, ⟨s4, f4⟩, ⟨s5, f5⟩⟩ := hSx
                go_simp
                all_goals with_reducible rfl
              try simp only [Act.put, List.setIfInBounds_toArray, List.set_cons_zero, List.set_cons_succ]
              refine L_take' (i := 4) (v := ?vv_S0_4) rfl (by kernel_rfl) (by kernel_rfl) (by kernel_rfl) (by kernel_rfl) (fun _ _ _ h => h) (Or.inl ⟨by rfl, ?hy_S0_4⟩) (by assumption) ?rest_S0_4
              case hy_S0_4 =>
                intro wy hSx
                obtain ⟨⟨s0, s1⟩, ⟨s2, s3⟩, ⟨s4, f4⟩, ⟨s5, f5⟩⟩ := hSx
                go_simp
                all_goals with_reducible rfl
              try simp only [Act.put, List.setIfInBounds_toArray, List.set_cons_zero, List.set_cons_succ]
              refine L_take' (i := 5) (v := ?vv_S0_5) rfl (by kernel_rfl) (by kernel_rfl) (by kernel_rfl) (by kernel_rfl) (fun _ _ _ h => h) (Or.inl ⟨by rfl, ?hy_S0_5⟩) (by assumption) ?rest_S0_5
              case hy_S0_5 =>
                intro wy hSx
                obtain ⟨⟨s0, s1⟩, ⟨s2, s3⟩, ⟨s4, f4⟩, ⟨s5, f5⟩⟩ := hSx
                go_simp
                all_goals with_reducible rfl
              try simp only [Act.put, List.setIfInBounds_toArray, List.set_cons_zero, List.set_cons_succ]
              refine L_take' (i := 6) (v := ?vv_S0_6) rfl (by kernel_rfl) (by kernel_rfl) (by kernel_rfl) (by kernel_rfl) (fun _ _ _ h => h) (Or.inl ⟨by rfl, ?hy_S0_6⟩) (by assumption) ?rest_S0_6
              case hy_S0_6 =>
                intro wy hSx
                obtain ⟨⟨s0, s1⟩, ⟨s2, s3⟩, ⟨s4, f4⟩, ⟨s5, f5⟩⟩ := hSx
                go_simp
                all_goals with_reducible rfl
              try simp only [Act.put, List.setIfInBounds_toArray, List.set_cons_zero, List.set_cons_succ]
              refine L_take' (i := 7) (v := ?vv_S0_7) rfl (by kernel_rfl) (by kernel_rfl) (by kernel_rfl) (by kernel_rfl) (fun _ _ _ h => h) (Or.inl ⟨by rfl, ?hy_S0_7⟩) (by assumption) ?rest_S0_7
              case hy_S0_7 =>
                intro wy hSx
                obtain ⟨⟨s0, s1⟩, ⟨s2, s3⟩, ⟨s4, f4⟩, ⟨s5, f5⟩⟩ := hSx
                go_simp
                all_goals with_reducible rfl
              try simp only [Act.put, List.setIfInBounds_toArray, List.set_cons_zero, List.set_cons_succ]
              refine L_take' (i := 8) (v := ?vv_S0_8) rfl (by kernel_rfl) (by kernel_rfl) (by kernel_rfl) (by kernel_rfl) (fun _ _ _ h => h) (Or.inl ⟨by rfl, ?hy_S0_8⟩) (by assumption) ?rest_S0_8
              case hy_S0_8 =>
                intro wy hSx
                obtain ⟨⟨s0, s1⟩, ⟨s2, s3⟩, ⟨s4, f4⟩, ⟨s5, f5⟩⟩ := hSx
                go_simp
                all_goals with_reducible rfl
              try simp only [Act.put, List.setIfInBounds_toArray, List.set_cons_zero, List.set_cons_succ]
              refine L_take' (i := 9) (v := ?vv_S0_9) rfl (by kernel_rfl) (by kernel_rfl) (by kernel_rfl) (by kernel_rfl) (fun _ _ _ h => h) (Or.inl ⟨by rfl, ?hy_S0_9⟩) (by assumption) ?rest_S0_9
              case hy_S0_9 =>
                intro wy hSx
                obtain ⟨⟨s0, s1⟩, ⟨s2, s3⟩, ⟨s4, f4⟩, ⟨s5, f5⟩⟩ := hSx
                go_simp
                all_goals with_reducible rfl
              try simp only [Act.put, List.setIfInBounds_toArray, List.set_cons_zero, List.set_cons_succ]
              refine L_take' (i := 10) (v := ?vv_S0_10) rfl (by kernel_rfl) (by kernel_rfl) (by kernel_rfl) (by kernel_rfl) (fun _ _ _ h => h) (Or.inl ⟨by rfl, ?hy_S0_10⟩) (by assumption) ?rest_S0_10
              case hy_S0_10 =>
                intro wy hSx
                obtain ⟨⟨s0, s1⟩, ⟨s2, s3⟩, ⟨s4, f4⟩, ⟨s5, f5⟩⟩ := hSx
                go_simp
                all_goals with_reducible rfl
              try simp only [Act.put, List.setIfInBounds_toArray, List.set_cons_zero, List.set_cons_succ]
              refine L_take' (i := 11) (v := ?vv_S0_11) rfl (by kernel_rfl) (by kernel_rfl) (by kernel_rfl) (by kernel_rfl) (fun _ _ _ h => h) (Or.inl ⟨by rfl, ?hy_S0_11⟩) (by assumption) ?rest_S0_11
              case hy_S0_11 =>
                intro wy hSx
                obtain ⟨⟨s0, s1⟩, ⟨s2, s3⟩, ⟨s4, f4⟩, ⟨s5, f5⟩⟩ := hSx
                go_simp
                all_goals with_reducible rfl
              try simp only [Act.put, List.setIfInBounds_toArray, List.set_cons_zero, List.set_cons_succ]
              refine L_take' (i := 12) (v := ?vv_S0_12) rfl (by kernel_rfl) (by kernel_rfl) (by kernel_rfl) (by kernel_rfl) (fun _ _ _ h => h) (Or.inl ⟨by rfl, ?hy_S0_12⟩) (by assumption) ?rest_S0_12
              case hy_S0_12 =>
                intro wy hSx
                obtain ⟨⟨s0, s1⟩, ⟨s2, s3⟩, ⟨s4, f4⟩, ⟨s5, f5⟩⟩ := hSx
                go_simp
                all_goals with_reducible rfl
              try simp only [Act.put, List.setIfInBounds_toArray, List.set_cons_zero, List.set_cons_succ]
              refine L_take' (i := 13) (v := ?vv_S0_13) rfl (by kernel_rfl) (by kernel_rfl) (by kernel_rfl) (by kernel_rfl) (fun _ _ _ h => h) (Or.inl ⟨by rfl, ?hy_S0_13⟩) (by assumption) ?rest_S0_13
              case hy_S0_13 =>
                intro wy hSx
                obtain ⟨⟨s0, s1⟩, ⟨s2, s3⟩, ⟨s4, f4⟩, ⟨s5, f5⟩⟩ := hSx
                go_simp
                all_goals with_reducible rfl
              try simp only [Act.put, List.setIfInBounds_toArray, List.set_cons_zero, List.set_cons_succ]
              refine L_take' (i := 14) (v := ?vv_S0_14) rfl (by kernel_rfl) (by kernel_rfl) (by kernel_rfl) (by kernel_rfl) (fun _ _ _ h => h) (Or.inl ⟨by rfl, ?hy_S0_14⟩) (by assumption) ?rest_S0_14
              case hy_S0_14 =>
                intro wy hSx
                obtain ⟨⟨s0, s1⟩, ⟨s2, s3⟩, ⟨s4, f4⟩, ⟨s5, f5⟩⟩ := hSx
                go_simp
                all_goals with_reducible rfl
              try simp only [Act.put, List.setIfInBounds_toArray, List.set_cons_zero, List.set_cons_succ]
              refine L_take' (i := 15) (v := ?vv_S0_15) rfl (by kernel_rfl) (by kernel_rfl) (by kernel_rfl) (by kernel_rfl) (fun _ _ _ h => h) (Or.inl ⟨by rfl, ?hy_S0_15⟩) (by assumption) ?rest_S0_15
              case hy_S0_15 =>
                intro wy hSx
                obtain ⟨⟨s0, s1⟩, ⟨s2, s3⟩, ⟨s4, f4⟩, ⟨s5, f5⟩⟩ := hSx
                go_simp
                all_goals with_reducible rfl
              try simp only [Act.put, List.setIfInBounds_toArray, List.set_cons_zero, List.set_cons_succ]
              refine L_take' (i := 16) (v := ?vv_S0_16) rfl (by kernel_rfl) (by kernel_rfl) (by kernel_rfl) (by kernel_rfl) (fun _ _ _ h => h) (Or.inl ⟨by rfl, ?hy_S0_16⟩) (by assumption) ?rest_S0_16
              case hy_S0_16 =>
                intro wy hSx
                obtain ⟨⟨s0, s1⟩, ⟨s2, s3⟩, ⟨s4, f4⟩, ⟨s5, f5⟩⟩ := hSx
                go_simp
                all_goals with_reducible rfl
              try simp only [Act.put, List.setIfInBounds_toArray, List.set_cons_zero, List.set_cons_succ]
              refine L_one' (i := 17) rfl (by kernel_rfl) fun K hK => ?_
              obtain ⟨⟨s0, s1⟩, ⟨s2, s3⟩, ⟨s4, f4⟩, ⟨s5, f5⟩⟩ := S0
              go_simp
              refine hK _ _ (fun h => absurd rfl h) ?_
              clear K hK
              try simp only [Act.put, List.setIfInBounds_toArray, List.set_cons_zero, List.set_cons_succ]
              refine L_done (by kernel_rfl) ?_ _
              go_wp2_with fail
              refine wp_region_L 17 (fun X => (X.cell? ⟨q, 0, none⟩ = some (.slice (some ⟨g1, 0, none⟩) n c1) ∧ X.cell? ⟨q, 1, none⟩ = some (.slice (some ⟨g2, 0, none⟩) n c2)) ∧ (X.cell? ⟨bb, off + k, none⟩ = some (.slice (some ⟨bk, okk, none⟩) n ck) ∧ X.cell? ⟨bk, okk + j, none⟩ = some (.int .i64 x)) ∧ (X.cell? ⟨g1, j, none⟩ = some (.int .i64 (min a x)) ∧ X.frozen? ⟨g1, j, none⟩ = false) ∧ (X.cell? ⟨g2, j, none⟩ = some (.int .i64 b) ∧ X.frozen? ⟨g2, j, none⟩ = false)) (by kernel_rfl) S2 fun hSS => ?_
              refine L_take' (i := 0) (v := ?vv_S2_0) rfl (by kernel_rfl) (by kernel_rfl) (by kernel_rfl) (by kernel_rfl) (fun _ _ _ h => h) (Or.inl ⟨by rfl, ?hy_S2_0⟩) (by assumption) ?rest_S2_0
              case hy_S2_0 =>
                intro wy hSx
                obtain ⟨⟨s0, s1⟩, ⟨s2, s3⟩, ⟨s4, f4⟩, ⟨s5, f5⟩⟩ := hSx
                go_simp
                all_goals with_reducible rfl
              try simp only [Act.put, List.setIfInBounds_toArray, List.set_cons_zero, List.set_cons_succ]
              refine L_take' (i := 1) (v := ?vv_S2_1) rfl (by kernel_rfl) (by kernel_rfl) (by kernel_rfl) (by kernel_rfl) (fun _ _ _ h => h) (Or.inl ⟨by rfl, ?hy_S2_1⟩) (by assumption) ?rest_S2_1
              case hy_S2_1 =>
                intro wy hSx
                obtain ⟨⟨s0, s1⟩, ⟨s2, s3⟩, ⟨s4, f4⟩, ⟨s5, f5⟩⟩ := hSx
                go_simp
                all_goals with_reducible rfl
              try simp only [Act.put, List.setIfInBounds_toArray, List.set_cons_zero, List.set_cons_succ]
              refine L_take' (i := 2) (v := ?vv_S2_2) rfl (by kernel_rfl) (by kernel_rfl) (by kernel_rfl) (by kernel_rfl) (fun _ _ _ h => h) (Or.inl ⟨by rfl, ?hy_S2_2⟩) (by assumption) ?rest_S2_2
              case hy_S2_2 =>
                intro wy hSx
                obtain ⟨⟨s0, s1⟩, ⟨s2, s3⟩, ⟨s4, f4⟩, ⟨s5, f5⟩⟩ := hSx
                go_simp
                all_goals with_reducible rfl
              try simp only [Act.put, List.setIfInBounds_toArray, List.set_cons_zero, List.set_cons_succ]
              refine L_take' (i := 3) (v := ?vv_S2_3) rfl (by kernel_rfl) (by kernel_rfl) (by kernel_rfl) (by kernel_rfl) (fun _ _ _ h => h) (Or.inl ⟨by rfl, ?hy_S2_3⟩) (by assumption) ?rest_S2_3
              case hy_S2_3 =>
                intro wy hSx
                obtain ⟨⟨s0, s1⟩, ⟨s2, s3⟩, ⟨s4, f4⟩, ⟨s5, f5⟩⟩ := hSx
                go_simp
                all_goals with_reducible rfl
              try simp only [Act.put, List.setIfInBounds_toArray, List.set_cons_zero, List.set_cons_succ]
              refine L_take' (i := 4) (v := ?vv_S2_4) rfl (by kernel_rfl) (by kernel_rfl) (by kernel_rfl) (by kernel_rfl) (fun _ _ _ h => h) (Or.inl ⟨by rfl, ?hy_S2_4⟩) (by assumption) ?rest_S2_4
              case hy_S2_4 =>
                intro wy hSx
                obtain ⟨⟨s0, s1⟩, ⟨s2, s3⟩, ⟨s4, f4⟩, ⟨s5, f5⟩⟩ := hSx
                go_simp
                all_goals with_reducible rfl
              try simp only [Act.put, List.setIfInBounds_toArray, List.set_cons_zero, List.set_cons_succ]
              refine L_take' (i := 5) (v := ?vv_S2_5) rfl (by kernel_rfl) (by kernel_rfl) (by kernel_rfl) (by kernel_rfl) (fun _ _ _ h => h) (Or.inl ⟨by rfl, ?hy_S2_5⟩) (by assumption) ?rest_S2_5
              case hy_S2_5 =>
                intro wy hSx
                obtain ⟨⟨s0, s1⟩, ⟨s2, s3⟩, ⟨s4, f4⟩, ⟨s5, f5⟩⟩ := hSx
                go_simp
                all_goals with_reducible rfl
              try simp only [Act.put, List.setIfInBounds_toArray, List.set_cons_zero, List.set_cons_succ]
              refine L_take' (i := 6) (v := ?vv_S2_6) rfl (by kernel_rfl) (by kernel_rfl) (by kernel_rfl) (by kernel_rfl) (fun _ _ _ h => h) (Or.inl ⟨by rfl, ?hy_S2_6⟩) (by assumption) ?rest_S2_6
              case hy_S2_6 =>
                intro wy hSx
                obtain ⟨⟨s0, s1⟩, ⟨s2, s3⟩, ⟨s4, f4⟩, ⟨s5, f5⟩⟩ := hSx
                go_simp
                all_goals with_reducible rfl
              try simp only [Act.put, List.setIfInBounds_toArray, List.set_cons_zero, List.set_cons_succ]
              refine L_take' (i := 7) (v := ?vv_S2_7) rfl (by kernel_rfl) (by kernel_rfl) (by kernel_rfl) (by kernel_rfl) (fun _ _ _ h => h) (Or.inl ⟨by rfl, ?hy_S2_7⟩) (by assumption) ?rest_S2_7
              case hy_S2_7 =>
                intro wy hSx
                obtain ⟨⟨s0, s1⟩, ⟨s2, s3⟩, ⟨s4, f4⟩, ⟨s5, f5⟩⟩ := hSx
                go_simp
                all_goals with_reducible rfl
              try simp only [Act.put, List.setIfInBounds_toArray, List.set_cons_zero, List.set_cons_succ]
              refine L_take' (i := 8) (v := ?vv_S2_8) rfl (by kernel_rfl) (by kernel_rfl) (by kernel_rfl) (by kernel_rfl) (fun _ _ _ h => h) (Or.inl ⟨by rfl, ?hy_S2_8⟩) (by assumption) ?rest_S2_8
              case hy_S2_8 =>
                intro wy hSx
                obtain ⟨⟨s0, s1⟩, ⟨s2, s3⟩, ⟨s4, f4⟩, ⟨s5, f5⟩⟩ := hSx
                go_simp
                all_goals with_reducible rfl
              try simp only [Act.put, List.setIfInBounds_toArray, List.set_cons_zero, List.set_cons_succ]
              refine L_take' (i := 9) (v := ?vv_S2_9) rfl (by kernel_rfl) (by kernel_rfl) (by kernel_rfl) (by kernel_rfl) (fun _ _ _ h => h) (Or.inl ⟨by rfl, ?hy_S2_9⟩) (by assumption) ?rest_S2_9
              case hy_S2_9 =>
                intro wy hSx
                obtain ⟨⟨s0, s1⟩, ⟨s2, s3⟩, ⟨s4, f4⟩, ⟨s5, f5⟩⟩ := hSx
                go_simp
                all_goals with_reducible rfl
              try simp only [Act.put, List.setIfInBounds_toArray, List.set_cons_zero, List.set_cons_succ]
              refine L_take' (i := 10) (v := ?vv_S2_10) rfl (by kernel_rfl) (by kernel_rfl) (by kernel_rfl) (by kernel_rfl) (fun _ _ _ h => h) (Or.inl ⟨by rfl, ?hy_S2_10⟩) (by assumption) ?rest_S2_10
              case hy_S2_10 =>
                intro wy hSx
                obtain ⟨⟨s0, s1⟩, ⟨s2, s3⟩, ⟨s4, f4⟩, ⟨s5, f5⟩⟩ := hSx
                go_simp
                all_goals with_reducible rfl
              try simp only [Act.put, List.setIfInBounds_toArray, List.set_cons_zero, List.set_cons_succ]
              refine L_take' (i := 11) (v := ?vv_S2_11) rfl (by kernel_rfl) (by kernel_rfl) (by kernel_rfl) (by kernel_rfl) (fun _ _ _ h => h) (Or.inl ⟨by rfl, ?hy_S2_11⟩) (by assumption) ?rest_S2_11
              case hy_S2_11 =>
                intro wy hSx
                obtain ⟨⟨s0, s1⟩, ⟨s2, s3⟩, ⟨s4, f4⟩, ⟨s5, f5⟩⟩ := hSx
                go_simp
                all_goals with_reducible rfl
              try simp only [Act.put, List.setIfInBounds_toArray, List.set_cons_zero, List.set_cons_succ]
              refine L_take' (i := 12) (v := ?vv_S2_12) rfl (by kernel_rfl) (by kernel_rfl) (by kernel_rfl) (by kernel_rfl) (fun _ _ _ h => h) (Or.inl ⟨by rfl, ?hy_S2_12⟩) (by assumption) ?rest_S2_12
              case hy_S2_12 =>
                intro wy hSx
                obtain ⟨⟨s0, s1⟩, ⟨s2, s3⟩, ⟨s4, f4⟩, ⟨s5, f5⟩⟩ := hSx
                go_simp
                all_goals with_reducible rfl
              try simp only [Act.put, List.setIfInBounds_toArray, List.set_cons_zero, List.set_cons_succ]
              refine L_take' (i := 13) (v := ?vv_S2_13) rfl (by kernel_rfl) (by kernel_rfl) (by kernel_rfl) (by kernel_rfl) (fun _ _ _ h => h) (Or.inl ⟨by rfl, ?hy_S2_13⟩) (by assumption) ?rest_S2_13
              case hy_S2_13 =>
                intro wy hSx
                obtain ⟨⟨s0, s1⟩, ⟨s2, s3⟩, ⟨s4, f4⟩, ⟨s5, f5⟩⟩ := hSx
                go_simp
                all_goals with_reducible rfl
              try simp only [Act.put, List.setIfInBounds_toArray, List.set_cons_zero, List.set_cons_succ]
              refine L_take' (i := 14) (v := ?vv_S2_14) rfl (by kernel_rfl) (by kernel_rfl) (by kernel_rfl) (by kernel_rfl) (fun _ _ _ h => h) (Or.inl ⟨by rfl, ?hy_S2_14⟩) (by assumption) ?rest_S2_14
              case hy_S2_14 =>
                intro wy hSx
                obtain ⟨⟨s0, s1⟩, ⟨s2, s3⟩, ⟨s4, f4⟩, ⟨s5, f5⟩⟩ := hSx
                go_simp
                all_goals with_reducible rfl
              try simp only [Act.put, List.setIfInBounds_toArray, List.set_cons_zero, List.set_cons_succ]
              refine L_take' (i := 15) (v := ?vv_S2_15) rfl (by kernel_rfl) (by kernel_rfl) (by kernel_rfl) (by kernel_rfl) (fun _ _ _ h => h) (Or.inl ⟨by rfl, ?hy_S2_15⟩) (by assumption) ?rest_S2_15
              case hy_S2_15 =>
                intro wy hSx
                obtain ⟨⟨s0, s1⟩, ⟨s2, s3⟩, ⟨s4, f4⟩, ⟨s5, f5⟩⟩ := hSx
                go_simp
                all_goals with_reducible rfl
              try simp only [Act.put, List.setIfInBounds_toArray, List.set_cons_zero, List.set_cons_succ]
              refine L_take' (i := 16) (v := ?vv_S2_16) rfl (by kernel_rfl) (by kernel_rfl) (by kernel_rfl) (by kernel_rfl) (fun _ _ _ h => h) (Or.inl ⟨by rfl, ?hy_S2_16⟩) (by assumption) ?rest_S2_16
              case hy_S2_16 =>
                intro wy hSx
                obtain ⟨⟨s0, s1⟩, ⟨s2, s3⟩, ⟨s4, f4⟩, ⟨s5, f5⟩⟩ := hSx
                go_simp
                all_goals with_reducible rfl
              try simp only [Act.put, List.setIfInBounds_toArray, List.set_cons_zero, List.set_cons_succ]
              refine L_one' (i := 17) rfl (by kernel_rfl) fun K hK => ?_
              obtain ⟨⟨s0, s1⟩, ⟨s2, s3⟩, ⟨s4, f4⟩, ⟨s5, f5⟩⟩ := S2
              go_simp
              refine hK _ _ (fun h => absurd rfl h) ?_
              clear K hK
              try simp only [Act.put, List.setIfInBounds_toArray, List.set_cons_zero, List.set_cons_succ]
              refine L_done (by kernel_rfl) ?_ _
              go_wp2_with fail
              go_roundw
              case rel => exact ⟨j + 1, HJLT.out, by first | rfl | go_num, HT3.out⟩
              case measure => have := HJLT.out; simp only [intOf]; omega
            · obtain rfl : j = n := by omega
              have e1 := mixI_end (f := min) (S := A) (v := u) (by rw [HAL.out.1, HAL.out.2.2])
              have e2 := mixI_end (f := max) (S := B) (v := u) (by rw [HAL.out.2.1, HAL.out.2.2])
              rw [HAL.out.1, HAN.out.1] at e1
              rw [HAL.out.2.1, HAN.out.2] at e2
              rw [e1, e2] at ht
              have HT5 := Lib.hid ht
              clear ht e1 e2
              go_wp2_with fail
              go_roundw
              case rel => exact ⟨k + 1, HKLT.out, by first | rfl | go_num, HT5.out⟩
              case measure => have := HKLT.out; simp only [intOf]; omega
        · obtain rfl : k = m := by omega
          have hM1 : M.take k = M := by rw [HMM.out, List.take_length]
          rw [hM1] at ht
          have hrl : r = M.headD [] := by rw [HMR.out]; rfl
          rw [show lowsL r M = trainLo M by rw [trainLo, ← hrl], show highsL r M = trainHi M by rw [trainHi, ← hrl]] at ht
          obtain ⟨hz, ho1, ho2, hb⟩ := ht
          have hw := (hb.block w.heap.size (by have := HS1.out; have := H1.out.size; omega)).trans ((H1.out.block w.heap.size (by have := HS1.out; omega)).trans HZ.out)
          obtain ⟨⟨x0, _⟩, x1, _⟩ := two_at hz
          obtain ⟨⟨d0, f0⟩, d1, f1⟩ := two_at hw
          obtain ⟨⟨q0, _⟩, q1, _⟩ := two_at (two_set1 (x := .slice (some ⟨g2, 0, none⟩) n c2) (two_set0 (x := .slice (some ⟨g1, 0, none⟩) n c1) hw))
          have hsz : w.heap.size < w1.heap.size := by have := HS1.out; have := H1.out.size; omega
          have hp : ∀ j, w1.heap.size ≤ j → ((wq.setCell ⟨w.heap.size, 0, none⟩ (.slice (some ⟨g1, 0, none⟩) n c1)).setCell ⟨w.heap.size, 1, none⟩ (.slice (some ⟨g2, 0, none⟩) n c2)).heap[j]? = wq.heap[j]? := fun j hj => by
            rw [heap_setCell_other _ _ _ _ (by simp; omega), heap_setCell_other _ _ _ _ (by simp; omega)]
          have HFL := Lib.hid (own_le (own_keep ho1 (fun g hg _ => hp g (own_block ho1 g hg).1)) (Nat.le_of_lt hsz))
          have HFH := Lib.hid (own_le (own_keep ho2 (fun g hg _ => hp g (own_block ho2 g hg).1)) (Nat.le_of_lt hsz))
          have HFB := Lib.hid (((HB1.out.trans ((H1.out.trans (hb.mono H1.out.size)).mono (by have := HS1.out; omega))).setCell (p := ⟨w.heap.size, 0, none⟩) (Nat.le_refl _) (.slice (some ⟨g1, 0, none⟩) n c1)).setCell (p := ⟨w.heap.size, 1, none⟩) (Nat.le_refl _) (.slice (some ⟨g2, 0, none⟩) n c2))
          clear hz ho1 ho2 hb hw hp hsz hM1 hrl
          go_wp2_with fail
          refine bodyPost_ret (v := .tuple #[.agg #[.slice (some ⟨g1, 0, none⟩) n c1, .slice (some ⟨g2, 0, none⟩) n c2], .int .i64 0]) (by simp [results, Try.results8, go_sem, q0, q1]) rfl ⟨_, _, rfl, HFL.out, HFH.out, HFB.out⟩
end Sc
end Go.Proofs.Ytfgmkdghpdpdkaa
