/- Rows of hits in memory, '==' of hits, appends, the document's Same. Conditions: those that each theorem names. -/
import Derived.Test.YtfgmkdghpdpdkaaTkA
import Derived.Test.YtfgmkdghpdpdkaaRun
import Derived.OwnWalk
import Derived.Maps.AppendAt
import Derived.Lib.SmallJoins
import Derived.Laws.StructEq
import Derived.Deep.QuietTactic
namespace Go.Proofs.Ytfgmkdghpdpdkaa
namespace Tq
set_option linter.unusedVariables false
open Go Go.RowKit Go.Shelf Go.Sort Tk
theorem Gn.drewN {w w' : World} (h : Gn w w') (n : Nat) : Gn w (w'.drewN n) := by
  obtain ⟨q, os, rfl⟩ := h
  exact ⟨q + n, os, by show grow ((w.drewN q).drewN n) os = _; rw [World.drewN_drewN]⟩
theorem Gn.block {w w' : World} (h : Gn w w') {k : Nat} (hk : k < w.heap.size) : w'.heap[k]? = w.heap[k]? := h.below.block k hk
theorem Gn.size {w w' : World} (h : Gn w w') : w.heap.size ≤ w'.heap.size := h.below.size
/-! ### '==' of two hits -/
set_option maxHeartbeats 1000000 in
theorem eqlH_run (x y : Ht) (w : World) : (binOp .eql 53 (.agg #[.int .i64 x.1, .int .i64 x.2]) (.agg #[.int .i64 y.1, .int .i64 y.2])).run Try.prog w = .ok (.bool (decide (x = y))) w := by
  obtain ⟨a, b⟩ := x
  obtain ⟨c, d⟩ := y
  rw [run_eql_struct, run_equalIn_agg _ _ _ _ _ (by kernel_rfl) (by kernel_rfl)]
  have c1 : Try.prog.cellsOf 3 = 1 := by kernel_rfl
  have q1 := fun (d : Nat) (a b : Int) (w : World) => run_equalIn_int (P := Try.prog) w d 3 .i64 .i64 a b Try.underlying3
  simp only [Program.fieldsOf, Try.underlying53]
  by_cases h1 : a = c
  · subst h1
    by_cases h2 : b = d
    · subst h2
      simp [Op.eqFields, go_sem, q1, Try.underlying3]
    · simp [Op.eqFields, go_sem, q1, h2, Try.underlying3]
  · simp [Op.eqFields, go_sem, q1, h1, Try.underlying3]
set_option maxHeartbeats 1000000 in
theorem neqH_run (x y : Ht) (w : World) : (binOp .neq 53 (.agg #[.int .i64 x.1, .int .i64 x.2]) (.agg #[.int .i64 y.1, .int .i64 y.2])).run Try.prog w = .ok (.bool (!decide (x = y))) w := by
  obtain ⟨a, b⟩ := x
  obtain ⟨c, d⟩ := y
  rw [run_neq_struct, run_equalIn_agg _ _ _ _ _ (by kernel_rfl) (by kernel_rfl)]
  have c1 : Try.prog.cellsOf 3 = 1 := by kernel_rfl
  have q1 := fun (d : Nat) (a b : Int) (w : World) => run_equalIn_int (P := Try.prog) w d 3 .i64 .i64 a b Try.underlying3
  simp only [Program.fieldsOf, Try.underlying53]
  by_cases h1 : a = c
  · subst h1
    by_cases h2 : b = d
    · subst h2
      simp [Op.eqFields, go_sem, q1, Try.underlying3]
    · simp [Op.eqFields, go_sem, q1, h2, Try.underlying3]
  · simp [Op.eqFields, go_sem, q1, h1, Try.underlying3]
/-! ### Rows -/
def hCells (L : List Ht) : List Value := L.flatMap fun x => [.int .i64 x.1, .int .i64 x.2]
theorem hCells_len (L : List Ht) : (hCells L).length = L.length * 2 := by
  induction L with
  | nil => rfl
  | cons p r ih => show (hCells r).length + 1 + 1 = _; rw [ih, List.length_cons]; omega
theorem hCells_add (A B : List Ht) : hCells (A ++ B) = hCells A ++ hCells B := by simp [hCells]
theorem hCells_at : ∀ (L : List Ht) (j : Nat) (h : j < L.length), (hCells L)[j * 2]? = some (.int .i64 (L[j]).1) ∧ (hCells L)[j * 2 + 1]? = some (.int .i64 (L[j]).2)
  | x :: r, 0, _ => ⟨rfl, rfl⟩
  | x :: r, j + 1, h => by
    obtain ⟨h0, h1⟩ := hCells_at r j (by simpa using h)
    have e : hCells (x :: r) = [.int .i64 x.1, .int .i64 x.2] ++ hCells r := rfl
    have g : ∀ i, ([Value.int .i64 x.1, .int .i64 x.2] ++ hCells r)[(j + 1) * 2 + i]? = (hCells r)[j * 2 + i]? := fun i => by
      rw [List.getElem?_append_right (by simp; omega)]
      congr 1
      simp; omega
    rw [e]
    exact ⟨(g 0).trans h0, (g 1).trans h1⟩
theorem hCells_one (L : List Ht) : ∀ u ∈ hCells L, u.oneCell' = true := fun u hu => by
  simp only [hCells, List.mem_flatMap] at hu
  obtain ⟨f, _, hf⟩ := hu
  simp at hf
  rcases hf with rfl | rfl <;> rfl
/-- A row of hits. -/
def HsAt (w : World) (v : Value) (L : List Ht) : Prop :=
  (L = [] ∧ ∃ p c, v = .slice p 0 c) ∨ ∃ g off c, v = .slice (some ⟨g, off, none⟩) L.length c ∧ g < w.heap.size ∧
    ∀ W : World, W.heap[g]? = w.heap[g]? → ∀ j (h : j < L.length), W.cell? ⟨g, off + j * 2, none⟩ = some (.int .i64 (L[j]).1) ∧ W.cell? ⟨g, off + j * 2 + 1, none⟩ = some (.int .i64 (L[j]).2)
theorem HsAt.below {w w' : World} {v : Value} {L : List Ht} (h : HsAt w v L) (g : Below w.heap.size w w') : HsAt w' v L := by
  rcases h with h | ⟨b, off, c, rfl, hb, hc⟩
  · exact .inl h
  · exact .inr ⟨b, off, c, rfl, Nat.lt_of_lt_of_le hb g.size, fun W hW => hc W (hW.trans (g.block b hb))⟩
theorem HsAt.form {w : World} {v : Value} {L : List Ht} (h : HsAt w v L) : ∃ p c, v = .slice p L.length c := by
  rcases h with ⟨rfl, p, c, rfl⟩ | ⟨g, off, c, rfl, hg, _⟩
  · exact ⟨p, c, rfl⟩
  · exact ⟨_, c, rfl⟩
/-- A row of hits of one's own. -/
abbrev OwnH (w : World) (base : Nat) (v : Value) (L : List Ht) : Prop := w.ownsRow base 53 2 v L.length (hCells L)
theorem infoH : (Try.prog.info? 53).map (fun i => (i.zero, i.size, i.bytes)) = some (some (.agg #[.int .i64 0, .int .i64 0]), 2, 16) := by kernel_rfl
theorem info_of {P : Program} {e : TypeId} {z : Value} {n b : Nat} (h : (P.info? e).map (fun i => (i.zero, i.size, i.bytes)) = some (some z, n, b)) : ∃ i, P.info? e = some i ∧ i.zero = some z ∧ i.size = n ∧ i.bytes = b := by
  cases hi : P.info? e with
  | none => rw [hi] at h; cases h
  | some i =>
    rw [hi] at h
    simp only [Option.map_some, Option.some.injEq, Prod.mk.injEq] at h
    exact ⟨i, rfl, h.1, h.2.1, h.2.2⟩
/-- What a row of one's own holds at a place. -/
theorem own_at {w : World} {base size n : Nat} {e : TypeId} {v : Value} {xs : List Value} (h : w.ownsRow base e size v n xs) (hn : 0 < n) :
    ∃ g cap, v = .slice (some ⟨g, 0, none⟩) n cap ∧ base ≤ g ∧ g < w.heap.size ∧ ∀ W : World, W.heap[g]? = w.heap[g]? → ∀ i u, i < n * size → xs[i]? = some u → W.cell? ⟨g, i, none⟩ = some u := by
  rcases h.2 with ⟨_, h0⟩ | ⟨g, cap, cur, rfl, hb, hg, h1, h2, h3, h4⟩
  · omega
  · refine ⟨g, cap, rfl, hb, ?_, fun W hW i u hi hu => ?_⟩
    · rcases Nat.lt_or_ge g w.heap.size with c | c
      · exact c
      · rw [Array.getElem?_eq_none c] at hg; cases hg
    · rw [Lib.cell_of_heap (hW.trans hg), ← hu, ← h4, List.getElem?_take, if_pos hi, Array.getElem?_toList]
theorem own_nil {w : World} {base size : Nat} {e : TypeId} {v : Value} {xs : List Value} (h : w.ownsRow base e size v 0 xs) : ∃ p c, v = .slice p 0 c := by
  rcases h.2 with ⟨rfl, _⟩ | ⟨g, cap, cur, rfl, _⟩
  · exact ⟨_, _, rfl⟩
  · exact ⟨_, _, rfl⟩
theorem own_hits {w : World} {base : Nat} {v : Value} {L : List Ht} (h : OwnH w base v L) : HsAt w v L := by
  rcases Nat.eq_zero_or_pos L.length with h0 | h0
  · have h' : w.ownsRow base 53 2 v 0 (hCells L) := h0 ▸ h
    obtain ⟨p, c, rfl⟩ := own_nil h'
    exact .inl ⟨List.length_eq_zero_iff.mp h0, p, c, rfl⟩
  · obtain ⟨g, cap, rfl, hb, hg, hc⟩ := own_at h h0
    refine .inr ⟨g, 0, cap, rfl, hg, fun W hW j hj => ?_⟩
    obtain ⟨c0, c1⟩ := hCells_at L j hj
    rw [Nat.zero_add]
    exact ⟨hc W hW _ _ (by omega) c0, hc W hW _ _ (by omega) c1⟩
theorem addr_at (g off j : Nat) : (⟨g, off, none⟩ : Addr).add j = ⟨g, off + j, none⟩ := by unfold Addr.add; split <;> simp_all
/-- One more hit behind an own row: it lies in a new block of its own. -/
theorem append_hit {w : World} {base g : Nat} {v : Value} {A : List Ht} {x : Ht} (hown : OwnH w base v A) (hg : w.heap[g]? = some (hobj x))
    (hb : (A.length + 1) * 16 ≤ 140737488355328) (hbase : base ≤ w.heap.size) :
    ∃ v' w', (∀ ty, (Builtin.append_ #[47, 47] ty #[v, .slice (some ⟨g, 0, none⟩) 1 1]).run Try.prog w = .ok v' w') ∧ OwnH w' base v' (A ++ [x]) ∧ w.grownBy w' v.ownBlock ∧ (v'.ownBlock = v.ownBlock ∨ v'.ownBlock = some w.heap.size) := by
  obtain ⟨i0, hi, hz0, hz1, hz2⟩ := info_of infoH
  obtain ⟨c0, c1⟩ := two_cells hg
  obtain ⟨v', w', hr, h2, h3, _, h5⟩ := run_append_own_at (P := Try.prog) w base 47 47 53 i0 _ 2 16 Try.underlying47 hi hz0 hz1 hz2 rfl (by decide) v A.length (hCells A) hown ⟨g, 0, none⟩ 1 1 [.int .i64 x.1, .int .i64 x.2] rfl
    (fun j u hj => by
      rw [addr_at, Nat.zero_add]
      match j, hj with
      | 0, hj => rw [← Option.some.inj hj]; exact c0
      | 1, hj => rw [← Option.some.inj hj]; exact c1
      | j + 2, hj => simp at hj)
    (fun u hu => by
      simp at hu
      rcases hu with rfl | rfl <;> rfl) (by unfold maxLen; omega) hb hbase
  have e : hCells (A ++ [x]) = hCells A ++ [.int .i64 x.1, .int .i64 x.2] := by simp [hCells]
  exact ⟨v', w', fun _ => hr, by show w'.ownsRow _ _ _ _ _ _; rw [e, List.length_append]; exact h2, h3, h5⟩
/-- The cells of a row, one by one. -/
theorem hs_cells {w : World} {L : List Ht} {g off : Nat} (hc : ∀ W : World, W.heap[g]? = w.heap[g]? → ∀ j (h : j < L.length), W.cell? ⟨g, off + j * 2, none⟩ = some (.int .i64 (L[j]).1) ∧ W.cell? ⟨g, off + j * 2 + 1, none⟩ = some (.int .i64 (L[j]).2)) :
    ∀ j u, (hCells L)[j]? = some u → w.cell? ⟨g, off + j, none⟩ = some u := by
  intro j u hj
  obtain ⟨q, r, hr, rfl⟩ : ∃ q r, r < 2 ∧ j = q * 2 + r := ⟨j / 2, j % 2, by omega, by omega⟩
  have hq : q < L.length := by
    rcases Nat.lt_or_ge (q * 2 + r) (L.length * 2) with c | c
    · omega
    · rw [List.getElem?_eq_none (by rw [hCells_len]; exact c)] at hj; cases hj
  obtain ⟨a0, a1⟩ := hCells_at L q hq
  obtain ⟨b0, b1⟩ := hc w rfl q hq
  rw [← Nat.add_assoc, ← hj]
  match r, hr with
  | 0, _ => exact b0.trans a0.symm
  | 1, _ => exact b1.trans a1.symm
/-- All of a row behind none. -/
theorem append_hits0 {w : World} {base : Nat} {L : List Ht} {v : Value} (h : HsAt w v L) (hl : L.length * 16 ≤ 140737488355328) (hbase : base ≤ w.heap.size) :
    ∃ v' w', (∀ ty, (Builtin.append_ #[47, 47] ty #[.slice none 0 0, v]).run Try.prog w = .ok v' w') ∧ OwnH w' base v' L ∧ w.grownBy w' none := by
  obtain ⟨i0, hi, hz0, hz1, hz2⟩ := info_of infoH
  have ht := Try.underlying47
  have none_ : L = [] → ∀ p c, v = .slice p 0 c → (p = none) → ∃ v' w', (∀ ty, (Builtin.append_ #[47, 47] ty #[.slice none 0 0, v]).run Try.prog w = .ok v' w') ∧ OwnH w' base v' L ∧ w.grownBy w' none := by
    rintro rfl p c rfl rfl
    refine ⟨.slice none 0 0, w, fun ty => ?_, World.ownsRow_nil _ _ _ _, ⟨rfl, rfl, rfl, Nat.le_refl _, fun _ _ _ => rfl⟩⟩
    simp [Builtin.append_, run_underlying ht, sizeOf, typeInfo, hi, Builtin.lenOf, Builtin.firstCells]
  have some_ : ∀ (ad : Addr) (c : Nat), v = .slice (some ad) L.length c → (∀ j u, (hCells L)[j]? = some u → w.cell? (ad.add j) = some u) → ∃ v' w', (∀ ty, (Builtin.append_ #[47, 47] ty #[.slice none 0 0, v]).run Try.prog w = .ok v' w') ∧ OwnH w' base v' L ∧ w.grownBy w' none := by
    rintro ad c rfl hc
    obtain ⟨v', w', hr, h2, h3, _⟩ := run_append_own_at (P := Try.prog) w base 47 47 53 i0 _ 2 16 ht hi hz0 hz1 hz2 rfl (by decide) (.slice none 0 0) 0 [] (World.ownsRow_nil _ _ _ _) ad L.length c (hCells L) (hCells_len L) hc (hCells_one L) (by unfold maxLen; omega) (by omega) hbase
    exact ⟨v', w', fun _ => hr, by simpa using h2, h3⟩
  rcases h with ⟨rfl, p, c, rfl⟩ | ⟨g, off, c, rfl, hg, hc⟩
  · cases p with
    | none => exact none_ rfl none c rfl rfl
    | some a => exact some_ a c rfl (fun j u hj => by simp [hCells] at hj)
  · exact some_ _ c rfl (fun j u hj => by rw [addr_at]; exact hs_cells hc j u hj)
theorem take_next {α} {a b : List α} {k : Nat} {x y : α} (hx : a[k]? = some x) (hy : b[k]? = some y) (h : a.take k = b.take k) (e : x = y) : a.take (k + 1) = b.take (k + 1) := by
  rw [List.take_add_one, List.take_add_one, h, hx, hy, e]
theorem take_all {α} {a b : List α} (hl : a.length = b.length) (h : a.take a.length = b.take a.length) : a = b := by
  rwa [List.take_length, hl, List.take_length] at h
set_option maxHeartbeats 2000000 in
set_option maxRecDepth 100000 in
theorem same_any (a b : List Ht) (u v : Value) (w : World) (hu : HsAt w u a) (hv : HsAt w v b) (ha : a.length ≤ maxLen) :
    Calls Try.prog 21 #[u, v] w fun e w' => e = .returned (.bool (decide (a = b))) ∧ Gn w w' := by
  by_cases hl : a.length = b.length
  · rcases hu with ⟨rfl, q, c, rfl⟩ | ⟨b1, o1, c1, rfl, hb1, hc1⟩
    · obtain rfl : b = [] := by cases b with | nil => rfl | cons _ _ => simp at hl
      obtain ⟨p2, c2, rfl⟩ := hv.form
      clear hv
      go_enter Try.func21, Try.ntmps21
      go_wp2
      go_loop [5] (fun i => i = .int .i64 0) (fun _ => 0)
      case atStart => rfl
      case round =>
        subst hrel
        go_wp2
        go_ret
        exact ⟨rfl, Gn.refl _⟩
    · rcases hv with ⟨rfl, q, c, rfl⟩ | ⟨b2, o2, c2, rfl, hb2, hc2⟩
      · obtain rfl : a = [] := by cases a with | nil => rfl | cons _ _ => simp at hl
        go_enter Try.func21, Try.ntmps21
        go_wp2
        go_loop [5] (fun i => i = .int .i64 0) (fun _ => 0)
        case atStart => rfl
        case round =>
          subst hrel
          go_wp2
          go_ret
          exact ⟨rfl, Gn.refl _⟩
      · have H1 := Lib.hid hc1
        have H2 := Lib.hid hc2
        have HL := Lib.hid hl
        have HS := Lib.hid ha
        have G1 := Lib.hid hb1
        have G2 := Lib.hid hb2
        obtain ⟨r, hr⟩ : ∃ r, r = decide (a = b) := ⟨_, rfl⟩
        rw [← hr]
        have HR := Lib.hid hr
        clear hc1 hc2 ha hr hb1 hb2
        rw [← hl]
        clear hl
        go_enter Try.func21, Try.ntmps21
        go_wp2
        go_loopw [5] (fun i wr => ∃ k : Nat, k ≤ a.length ∧ i = .int .i64 k ∧ Hid (a.take k = b.take k) ∧ Gn w wr) (fun i _ => a.length - (intOf i).toNat)
        case atStart => exact ⟨0, Nat.zero_le _, rfl, Lib.hid rfl, Gn.refl _⟩
        case round =>
          obtain ⟨k, hk, rfl, HT, hq⟩ := hrel
          have HQ := Lib.hid hq
          clear hq
          obtain ⟨wo, rfl⟩ : ∃ wo : World, wo = wr := ⟨_, rfl⟩
          by_cases hlt : k < a.length
          · have hlt2 : k < b.length := HL.out ▸ hlt
            obtain ⟨g0, g1⟩ := H1.out wo (HQ.out.block G1.out) k hlt
            obtain ⟨h0, h1⟩ := H2.out wo (HQ.out.block G2.out) k hlt2
            have HX := Lib.hid (List.getElem?_eq_getElem hlt)
            have HY := Lib.hid (List.getElem?_eq_getElem hlt2)
            generalize a[k] = x at *
            generalize b[k] = y at *
            have HE := fun W => neqH_run x y W
            obtain ⟨xn, xk⟩ := x
            obtain ⟨yn, yk⟩ := y
            simp only at g0 g1 h0 h1 HE
            by_cases hxy : ((xn, xk) : Ht) = (yn, yk)
            · rw [decide_eq_true hxy] at HE
              go_wp2
              go_quiet (fail)
              go_wp2
              go_roundw
              case rel => exact ⟨k + 1, by omega, congrArg _ (wrap_s HS.out hlt), Lib.hid (take_next HX.out HY.out HT.out hxy), HQ.out.drewN _⟩
              case measure =>
                rw [wrap_s HS.out hlt]
                exact int_less hlt
            · rw [decide_eq_false hxy] at HE
              have HF : Hid (r = false) := Lib.hid (by rw [HR.out]; exact decide_eq_false fun e => by subst e; exact hxy (Option.some.inj (HX.out.symm.trans HY.out)))
              go_wp2
              go_quiet (fail)
              go_wp2
              go_ret
              exact ⟨by rw [HF.out]; rfl, HQ.out.drewN _⟩
          · obtain rfl : k = a.length := by omega
            have HF : Hid (r = true) := Lib.hid (by rw [HR.out]; exact decide_eq_true (take_all HL.out HT.out))
            go_wp2
            go_ret
            exact ⟨by rw [HF.out]; rfl, HQ.out⟩
  · obtain ⟨p1, c1, rfl⟩ := hu.form
    obtain ⟨p2, c2, rfl⟩ := hv.form
    rw [decide_eq_false (fun e : a = b => hl (by rw [e]))]
    have hl' : ((a.length : Int) == (b.length : Int)) = false := by simp; omega
    have hl2 : ((a.length : Int) != (b.length : Int)) = true := by simp; omega
    clear hu hv
    generalize a.length = n at *
    generalize b.length = m at *
    go_enter Try.func21, Try.ntmps21
    go_wp2_with fail
    go_ret
    exact ⟨rfl, Gn.refl _⟩
end Tq
end Go.Proofs.Ytfgmkdghpdpdkaa
