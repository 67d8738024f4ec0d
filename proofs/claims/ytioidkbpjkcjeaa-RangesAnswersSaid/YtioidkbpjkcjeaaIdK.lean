/- All: what it answers, and what a loop over it is told; the program's pick. Conditions: those that each theorem names. -/
import Derived.Test.YtioidkbpjkcjeaaIdJ
import Derived.Maps.AppendAt
namespace Go.Proofs.Ytioidkbpjkcjeaa
set_option linter.unusedVariables false
open Go Go.RowKit Go.Shelf Ids
attribute [local go_sem] Oper.semAt_some
/-- What a world holds of the two sets that All keeps. -/
structure AllAt (w : World) (m n₀ B1 B2 : Nat) (a b : List Int) : Prop where
  lt1 : m ≤ B1 ∧ B1 < n₀
  lt2 : m ≤ B2 ∧ B2 < n₀
  at1 : ∃ v, w.cell? ⟨B1, 0, none⟩ = some v ∧ Low m n₀ w v (setL a)
  at2 : ∃ v, w.cell? ⟨B2, 0, none⟩ = some v ∧ Low m n₀ w v (setL b)
theorem AllAt.below {w w' : World} {m n₀ B1 B2 : Nat} {a b : List Int} (h : AllAt w m n₀ B1 B2 a b) (hb : Kr m n₀ w w') : AllAt w' m n₀ B1 B2 a b := by
  obtain ⟨h1, h2, ⟨u, h3, h4⟩, v, h5, h6⟩ := h
  exact ⟨h1, h2, ⟨u, (hb.cell (p := ⟨B1, 0, none⟩) h1.1 h1.2).trans h3, h4.below hb⟩, v, (hb.cell (p := ⟨B2, 0, none⟩) h2.1 h2.2).trans h5, h6.below hb⟩
theorem Low.more {m m' n₀ n₁ : Nat} {w : World} {v : Value} {L : List Int} (h : Low m n₀ w v L) (hm : m' ≤ m) (hn : n₀ ≤ n₁) : Low m' n₁ w v L := by
  rcases h with h | ⟨g, off, c, rfl, h1, h2⟩
  · exact .inl h
  · exact .inr ⟨g, off, c, rfl, by omega, h2⟩
def fnAll (B1 B2 : Nat) : Value := .func (.func 52) #[] #[.pointer (some ⟨B1, 0, none⟩), .pointer (some ⟨B2, 0, none⟩)]
set_option maxHeartbeats 1000000 in
theorem all_any (a b : List Int) (u v : Value) (w : World) (hu : IntsAt w u a) (hv : IntsAt w v b) (ha : a.length * 8 ≤ 140737488355328) (hb : b.length * 8 ≤ 140737488355328) :
    Calls Try.prog 39 #[u, v] w fun e w' => ∃ B1 B2, e = .returned (.func (.func 52) #[] #[.pointer (some ⟨B1, 0, none⟩), .pointer (some ⟨B2, 0, none⟩)]) ∧ AllAt w' w.heap.size w'.heap.size B1 B2 a b ∧ Below w.heap.size w w' := by
  have C1 := Lib.hid (rising_any a u w hu ha)
  have C2 := Lib.hid fun wx (hq : Below w.heap.size w wx) => rising_any b v wx (hv.below hq) hb
  clear hu hv ha hb
  go_enter Try.func39, Try.ntmps39
  go_wp2_with (first
    | (go_at_call 51; refine C1.out.mono ?_; clear C1; rintro e w1 ⟨s0, rfl, ho0, hb0⟩; have HO0 := Lib.hid ho0; have HB0 := Lib.hid hb0; clear ho0 hb0)
    | (go_at_call 51; refine (C2.out _ HB0.out).mono ?_; clear C2; rintro e w2 ⟨s1, rfl, ho1, hb1⟩; obtain ⟨p0, c0, hs0⟩ := HO0.out.at.form; obtain ⟨p1, c1, hs1⟩ := ho1.at.form; subst hs0 hs1; have HO1 := Lib.hid ho1; have HB1 := Lib.hid hb1; clear ho1 hb1))
  have hW2 := (below_new w2 (.cells #[.slice p0 (setL a).length c0] 34)).trans ((below_new (w2.alloc (.cells #[.slice p0 (setL a).length c0] 34)) (.cells #[.slice p1 (setL b).length c1] 34)).mono (by simp))
  have bO := (Boxed.new w2 34 (.slice p0 (setL a).length c0)).alloc (.cells #[.slice p1 (setL b).length c1] 34)
  have bN := Boxed.new (w2.alloc (.cells #[.slice p0 (setL a).length c0] 34)) 34 (.slice p1 (setL b).length c1)
  rw [World.size_alloc] at bN
  have hL1 := ((((HO0.out.low (Nat.le_refl _)).below (Kr.of_below HB1.out)).below (Kr.of_below (hW2.mono HB1.out.size))).more (Nat.le_refl _) (Nat.le_trans HB1.out.size hW2.size))
  have hL2 := (((HO1.out.low (Nat.le_refl _)).below (Kr.of_below hW2)).more HB0.out.size hW2.size)
  have hs2 := Nat.le_trans HB0.out.size HB1.out.size
  have hBB := HB0.out.trans ((HB1.out.mono HB0.out.size).trans (hW2.mono (Nat.le_trans HB0.out.size HB1.out.size)))
  go_ret
  exact ⟨_, _, rfl, ⟨⟨hs2, by simp; omega⟩, ⟨by omega, by simp⟩, ⟨_, bO.cell, hL1⟩, ⟨_, bN.cell, hL2⟩⟩, hBB⟩
theorem all_stops (n m n₀ B1 B2 : Nat) (hn : 1 ≤ n) (a b : List Int) (w : World) (h : AllAt w m n₀ B1 B2 a b) (hn₀ : n₀ ≤ w.heap.size) (hsz : (setL a).length + (setL b).length ≤ 9223372036854775807) :
    SeqStopsK Fence.wide n Try.prog 52 #[.pointer (some ⟨B1, 0, none⟩), .pointer (some ⟨B2, 0, none⟩)] enc2 (Kr m n₀) (fun ys => ys = told a b) (fun pre => pre <+: told a b) (told a b).length w := fun l J Jx W hW hJ hJx hY h0 => by
  obtain ⟨_, _, ⟨u, h3, h4⟩, v, h5, h6⟩ := h.below (Kr.of_below (hW.mono hn₀))
  exact all1_in n l B1 B2 m n₀ hn u v (setL a) (setL b) hsz J Jx W (fun s x q hs => hJ s x _ none hs ⟨rfl, rfl, rfl, Nat.le_refl _, fun _ _ _ => rfl⟩ (fun r e => by cases e)) hY h3 h5 h4 h6 h0
theorem pick_snoc (ws : List Int) (pre : List (Int × Int)) (x : Int × Int) : pickL ws (pre ++ [x]) = pickL ws pre ++ (if hasB ws x.2 then [x.1] else []) := by
  unfold pickL hasB
  rw [List.filter_append, List.map_append]
  congr 1
  by_cases h : x.2 ∈ ws
  · rw [List.filter_cons_of_pos (by simpa using h), if_pos (by simpa using h)]; rfl
  · rw [List.filter_cons_of_neg (by simpa using h), if_neg (by simpa using h)]; rfl
theorem pick_le (ws : List Int) (pre : List (Int × Int)) : (pickL ws pre).length ≤ pre.length := by unfold pickL; rw [List.length_map]; exact List.length_filter_le _ _
theorem contains_any (L : List Int) (v : Value) (n : Int) (w : World) (h : IntsAt w v L) (hl : L.length ≤ maxLen) :
    Calls Try.prog 40 #[v, .int .i64 n] w fun e w' => e = .returned (.bool (hasB L n)) ∧ w' = w := by
  rcases h with ⟨rfl, q, c, rfl⟩ | ⟨b, off, c, rfl, hb, hc⟩
  · refine (Try.slices_Contains_int_empty _ _ _ _).mono ?_
    rintro e w' ⟨rfl, rfl⟩
    exact ⟨rfl, rfl⟩
  · have HC := Try.slices_Contains_int b off L.length c L n w (Nat.le_refl _) hl (fun j hj => by rw [hc w rfl j hj]; simp [hj])
    rw [List.take_length] at HC
    exact HC
theorem kr_b {m n₀ : Nat} {w : World} (hn : n₀ ≤ w.heap.size) (W : World) (l : Nat) (o o' : Obj) (hl : w.heap.size ≤ l) (_ : W.heap[l]? = some o) (_ : o.isCells = false) (_ : o.isWalk = false) : Kr m n₀ W (W.putObj l o') :=
  fun k _ hk => World.putObj_heap_other (by omega)
theorem ownsRow_base {w : World} {base b2 n : Nat} {v : Value} {xs : List Value} (h : w.ownsRow base 3 1 v n xs) (hb : b2 ≤ base) : w.ownsRow b2 3 1 v n xs := by
  refine ⟨h.1, ?_⟩
  rcases h.2 with h0 | ⟨g, cap, cur, rfl, h1, h2⟩
  · exact .inl h0
  · exact .inr ⟨g, cap, cur, rfl, Nat.le_trans hb h1, h2⟩
/-- What an append to a row from r on, and the store into its box below m, leave from m up to r. -/
theorem kr_appended {W w1 : World} {m r B n : Nat} {v v' : Value} {xs : List Value} {o : Obj} (hrow : W.ownsRow r 3 1 v n xs) (hr : r ≤ W.heap.size) (hB : B < m) (hg : (W.alloc o).grownBy w1 v.ownBlock) : Kr m r W (w1.setCell ⟨B, 0, none⟩ v') := by
  intro k hk1 hk2
  rw [Below.heap_setCell _ _ _ k (by simp; omega)]
  rw [hg.block k (by simp; omega) (fun e => ?_)]
  · exact Below.heap_alloc W o k (by omega)
  · rcases hrow.2 with ⟨rfl, _⟩ | ⟨g, cap, cur, rfl, hb, _⟩
    · simp [Value.ownBlock] at e
    · simp [Value.ownBlock] at e; omega
set_option maxHeartbeats 4000000 in
set_option maxRecDepth 100000 in
theorem pick_any (a b ws : List Int) (u v s : Value) (w : World) (hu : IntsAt w u a) (hv : IntsAt w v b) (hs : IntsAt w s ws) (hl : a.length + b.length ≤ 17592186044415) (hws : ws.length ≤ maxLen) :
    Calls Try.prog 34 #[u, v, s] w fun e w' => ∃ x, e = .returned x ∧ Own w' w.heap.size x (pickL ws (told a b)) ∧ Below w.heap.size w w' := by
  have hlen : (told a b).length ≤ 17592186044415 := by rw [told_length]; have := uniL_length a b; omega
  have hset : (setL a).length + (setL b).length ≤ 9223372036854775807 := by have := setL_length a; have := setL_length b; omega
  have CA := Lib.hid fun wx (hq : Below w.heap.size w wx) => all_any a b u v wx (hu.below hq) (hv.below hq) (by omega) (by omega)
  obtain ⟨i0, hi, hz0, hz1, hz2⟩ := info_parts infoI
  refine (callsIn_wide (n := 4)).1 ?_
  refine callsIn_of_wp_marks Try.func34 rfl trivial ?_ rfl
  simp only [Try.ntmps34, List.size_toArray, List.length_cons, List.length_nil, Nat.reduceAdd, Nat.reduceSub, Array.replicate_succ, Array.replicate_zero, List.push_toArray, List.append_toArray, List.nil_append, List.cons_append]
  obtain ⟨ps, cs, hss⟩ := hs.form
  subst hss
  have bW := Boxed.new w 34 (.slice ps ws.length cs)
  have bL := Boxed.new (w.alloc (.cells #[.slice ps ws.length cs] 34)) 34 (.slice none 0 0)
  rw [World.size_alloc] at bL
  have bW2 := bW.alloc (.cells #[.slice none 0 0] 34)
  have hB0 : Below w.heap.size w ((w.alloc (.cells #[.slice ps ws.length cs] 34)).alloc (.cells #[.slice none 0 0] 34)) := ((Below.refl _ w).alloc (Nat.le_refl _) _).alloc (by simp) _
  have hsz0 : ((w.alloc (.cells #[.slice ps ws.length cs] 34)).alloc (.cells #[.slice none 0 0] 34)).heap.size = w.heap.size + 2 := by simp
  gi_wp2_with (refine ⟨trivial, ?_⟩; gi_at_call 39; refine (callsIn_wide.2 (CA.out _ hB0)).mono ?_; rintro e w1 ⟨B1, B2, rfl, hAll, hb1⟩)
  clear bW CA
  generalize (w.alloc (.cells #[.slice ps ws.length cs] 34)).alloc (.cells #[.slice none 0 0] 34) = W0 at *
  have bL1 : Boxed w1 (w.heap.size + 1) 34 (.slice none 0 0) := (hb1.block _ (by omega)).trans bL
  have bW1 : Boxed w1 w.heap.size 34 (.slice ps ws.length cs) := (hb1.block _ (by omega)).trans bW2
  have hB1 : Below w.heap.size w w1 := hB0.trans (hb1.mono (by omega))
  rw [hsz0] at hAll
  have hs1 := hb1.size
  rw [hsz0] at hs1
  refine wpIn_rangeFunc_ownG rfl (by omega) (gf := 52) (lb := #[.pointer (some ⟨B1, 0, none⟩), .pointer (some ⟨B2, 0, none⟩)]) rfl trivial (enters_of Try.func52 (by kernel_rfl) rfl)
    (all_stops _ (w.heap.size + 2) w1.heap.size B1 B2 (by omega) a b w1 hAll (Nat.le_refl _) hset) Kr.trans (kr_b (Nat.le_refl _)) (Below.refl _ _) (fun _ => rfl)
    (fun pre W => (∃ v, Boxed W (w.heap.size + 1) 34 v ∧ W.ownsRow w1.heap.size 3 1 v (pickL ws pre).length (ints (pickL ws pre)) ∧ True) ∧ Boxed W w.heap.size 34 (.slice ps ws.length cs) ∧ Below w.heap.size w W ∧ w1.heap.size ≤ W.heap.size)
    (fun _ _ _ => False)
    (OwnFrom.and (Own.from (holdsRow_own w1.heap.size (w.heap.size + 1) 34 3 1 (fun pre => (pickL ws pre).length) (fun pre => ints (pickL ws pre)) (fun _ _ => True)) _) (OwnFrom.and (Own.from (boxed_own w.heap.size 34 (fun _ => .slice ps ws.length cs)) _) (OwnFrom.and (ownFrom_below (Nat.le_refl _) (by omega)) (fun _ _ _ _ hs hg _ => Nat.le_trans hs hg.size))))
    (fun _ _ _ _ _ hs _ _ => hs)
    ⟨⟨_, bL1, World.ownsRow_nil _ _ _ _, trivial⟩, bW1, hB1, Nat.le_refl _⟩
    (fun x => { tmps := #[u, v, .slice ps ws.length cs, undef, undef, .pointer (some ⟨w.heap.size, 0, none⟩), .slice none 0 0, .pointer (some ⟨w.heap.size + 1, 0, none⟩), .int .i64 x.1, .int .i64 x.2, u, v, .func (.func 52) #[] #[.pointer (some ⟨B1, 0, none⟩), .pointer (some ⟨B2, 0, none⟩)], .int .i64 x.1, .int .i64 x.2, undef, undef, undef, undef, undef, undef, undef, undef], defers := [] }) ?assign ?body ?done ?stop
  case assign =>
    intro l x W K hK
    dsimp only [enc2]
    gi_wp2
    exact hK
  case body =>
    rintro l pre x W ⟨⟨vl, hv, hrow, _⟩, hbx, hB, hsz⟩ hlt
    have hc := hv.cell
    have hcw := hbx.cell
    have CC := Lib.hid (contains_any ws (.slice ps ws.length cs) x.2 W (hs.below hB) hws)
    have HSN := Lib.hid (pick_snoc ws pre x)
    have hpl : (pickL ws pre).length ≤ 17592186044415 := by have := pick_le ws pre; omega
    cases hx : hasB ws x.2 with
    | true =>
      rw [hx] at CC HSN
      have hp : pickL ws (pre ++ [x]) = pickL ws pre ++ [x.1] := by rw [HSN.out]; simp
      have HP := Lib.hid hp
      clear hp HSN hx
      gi_wp2_with (first
        | (refine ⟨trivial, ?_⟩; gi_at_call 40; refine (CallsIn.inRound l (callsIn_wide.2 CC.out)).mono ?_; rintro e w2 ⟨rfl, rfl⟩)
        | (gi_at_builtin; refine wpListIn_append_own _ rfl _ _ 34 rfl w1.heap.size 3 i0 (.int .i64 0) 1 8 Try.underlying34 hi hz0 hz1 hz2 rfl (by decide) _ _ _ rfl (hrow.alloc _) ⟨w2.heap.size, 0, none⟩ 1 1 [.int .i64 x.1] rfl rfl (cell_one_new _ _ _) (by simp [Value.oneCell']) (by unfold maxLen; omega) (by omega) (by simp; omega) ?_; intro v' w3 hown' hgrow _; obtain ⟨g', cap', rfl⟩ := ownsRow_succ hown'; obtain ⟨hv1, hv2, hr2, hk2, hb2⟩ := hv.appended (n₀ := w.heap.size) (by decide) (ownsRow_base hrow hB1.size) hB.size (by omega) (ownsRow_base hown' hB1.size) hgrow; have HKR := Lib.hid (kr_appended (m := w.heap.size + 2) (B := w.heap.size + 1) (v' := .slice (some ⟨g', 0, none⟩) ((pickL ws pre).length + 1) cap') hrow hsz (by omega) hgrow); have hc1 := hv1.cell; have hf1 := hv1.frozen; have HOWN := Lib.hid hown'))
      have hr3 := (HOWN.out.kept (grownBy_setCell' w3 (w.heap.size + 1) (.slice (some ⟨g', 0, none⟩) ((pickL ws pre).length + 1) cap')) (.inr (hv1.not_row (by decide) HOWN.out).symm))
      have hbx3 : Boxed w3 w.heap.size 34 (.slice ps ws.length cs) := (hbx.alloc _).kept hgrow (hbx.not_row (by decide) hrow)
      exact ⟨hk2.from _, HKR.out, ⟨_, hv2, by rw [HP.out]; simpa [ints] using hr3, trivial⟩, hbx3.other (by omega) _, hB.trans hb2, by have := hb2.size; have := hgrow.size; simp at *; omega⟩
    | false =>
      rw [hx] at CC HSN
      gi_wp2_with (refine ⟨trivial, ?_⟩; gi_at_call 40; refine (CallsIn.inRound l (callsIn_wide.2 CC.out)).mono ?_; rintro e w2 ⟨rfl, rfl⟩)
      have hp : pickL ws (pre ++ [x]) = pickL ws pre := by rw [HSN.out]; simp
      exact ⟨KeepsFrom.refl _ _, Kr.refl _ _ _, ⟨vl, hv, by rw [hp]; exact hrow, trivial⟩, hbx, hB, hsz⟩
  case done =>
    rintro D ys W hD rfl ⟨⟨v, hv, hrow, _⟩, _, hB, hsz⟩ hK
    have hc := hv.cell
    gi_wp2
    refine ⟨by simp, .inl ⟨_, _, rfl, run_takeDeferred hK, ?_⟩⟩
    have hBD := belowK_b (w := w) (Nat.le_refl _) W D (.deferred (some [])) (.deferred none) (by omega) hK rfl rfl
    exact ⟨_, results_tmp rfl _ _ _, v, rfl, ownsRow_putObj (ownsRow_base hrow hB1.size) _ hK rfl, hB.trans hBD⟩
  case stop =>
    rintro D c pre W _ _ h _
    exact h.elim
end Go.Proofs.Ytioidkbpjkcjeaa
