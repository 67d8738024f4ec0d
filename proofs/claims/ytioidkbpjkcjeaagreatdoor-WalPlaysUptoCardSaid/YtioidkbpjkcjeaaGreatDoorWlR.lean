/- Rows of records in memory, '!=' of records, appends, the document's Same. Conditions: those that each theorem names. -/
import Derived.Test.YtioidkbpjkcjeaaGreatDoorWlA
import Derived.Test.YtioidkbpjkcjeaaGreatDoorRowI
import Derived.Deep.DeepAppendWide
import Derived.Lib.SmallJoins
import Derived.Laws.StructEq
import Derived.Deep.QuietTactic
namespace Go.Proofs.YtioidkbpjkcjeaaGreatDoor
set_option linter.unusedVariables false
open Go Go.RowKit Wl
abbrev Rc : Type := Nat × List UInt8
theorem below_drewN {B : Nat} {w w' : World} (h : Below B w w') (n : Nat) : Below B w (w'.drewN n) := ⟨h.os, h.tape, h.output, h.size, h.block⟩
theorem tx_inj {a b : List UInt8} (h : tx a = tx b) : a = b := by rw [← tx_list a, h, tx_list b]
theorem st_eq {a b : ByteArray} : (a.toList == b.toList) = true ↔ a = b := by
  rw [Go.ByteArray.toList_eq, Go.ByteArray.toList_eq]
  constructor
  · intro h
    have h2 : a.data.toList = b.data.toList := by simpa using h
    exact by_ext h2
  · rintro rfl; simp
theorem st_is (a b : ByteArray) : (a.toList == b.toList) = decide (a = b) := by
  by_cases h : a = b
  · rw [decide_eq_true h]; exact st_eq.2 h
  · rw [decide_eq_false h, ← Bool.not_eq_true]; exact fun c => h (st_eq.1 c)
set_option maxHeartbeats 1000000 in
theorem neqR_run (x y : Rc) (w : World) : (binOp .neq 62 (.agg #[.int .i64 (x.1 : Int), .string (tx x.2)]) (.agg #[.int .i64 (y.1 : Int), .string (tx y.2)])).run Tryz.prog w = .ok (.bool (!decide (x = y))) w := by
  obtain ⟨a, b⟩ := x
  obtain ⟨c, d⟩ := y
  rw [run_neq_struct, run_equalIn_agg _ _ _ _ _ (by kernel_rfl) (by kernel_rfl)]
  have c1 : Tryz.prog.cellsOf 3 = 1 := by kernel_rfl
  have c2 : Tryz.prog.cellsOf 9 = 1 := by kernel_rfl
  have q1 := fun (d : Nat) (a b : Int) (w : World) => run_equalIn_int (P := Tryz.prog) w d 3 .i64 .i64 a b Tryz.underlying3
  have q2 := fun (d : Nat) (a b : ByteArray) (w : World) => run_equalIn_string (P := Tryz.prog) w d 9 a b Tryz.underlying9
  simp only [Program.fieldsOf, Tryz.underlying62]
  by_cases h1 : a = c
  · subst h1
    by_cases h2 : b = d
    · subst h2
      simp [Op.eqFields, go_sem, q1, q2, c1, c2, Tryz.underlying3, Tryz.underlying9]
    · have h3 : ¬ tx b = tx d := fun e => h2 (tx_inj e)
      have h4 : ((tx b).toList == (tx d).toList) = false := by rw [st_is]; exact decide_eq_false h3
      simp [Op.eqFields, go_sem, q1, q2, c1, c2, h2, h4, Tryz.underlying3, Tryz.underlying9]
  · have h1' : ¬ (a : Int) = (c : Int) := by omega
    simp [Op.eqFields, go_sem, q1, q2, c1, c2, h1, h1', Tryz.underlying3, Tryz.underlying9]
/-! ### rows -/
def rCells (L : List Rc) : List Value := L.flatMap fun x => [.int .i64 (x.1 : Int), .string (tx x.2)]
theorem rCells_len (L : List Rc) : (rCells L).length = L.length * 2 := by
  induction L with
  | nil => rfl
  | cons p r ih => show (rCells r).length + 1 + 1 = _; rw [ih, List.length_cons]; omega
theorem rCells_add (A B : List Rc) : rCells (A ++ B) = rCells A ++ rCells B := by simp [rCells]
theorem rCells_at : ∀ (L : List Rc) (j : Nat) (h : j < L.length), (rCells L)[j * 2]? = some (.int .i64 ((L[j]).1 : Int)) ∧ (rCells L)[j * 2 + 1]? = some (.string (tx (L[j]).2))
  | x :: r, 0, _ => ⟨rfl, rfl⟩
  | x :: r, j + 1, h => by
    obtain ⟨h0, h1⟩ := rCells_at r j (by simpa using h)
    have e : rCells (x :: r) = [.int .i64 (x.1 : Int), .string (tx x.2)] ++ rCells r := rfl
    have g : ∀ i, ([Value.int .i64 (x.1 : Int), .string (tx x.2)] ++ rCells r)[(j + 1) * 2 + i]? = (rCells r)[j * 2 + i]? := fun i => by
      rw [List.getElem?_append_right (by simp; omega)]
      congr 1
      simp; omega
    rw [e]
    exact ⟨(g 0).trans h0, (g 1).trans h1⟩
theorem rCells_one (L : List Rc) : ∀ u ∈ rCells L, u.oneCell' = true := fun u hu => by
  simp only [rCells, List.mem_flatMap] at hu
  obtain ⟨f, _, hf⟩ := hu
  simp at hf
  rcases hf with rfl | rfl <;> rfl
def RcsAt (w : World) (v : Value) (L : List Rc) : Prop :=
  (L = [] ∧ ∃ p c, v = .slice p 0 c) ∨ ∃ g off c, v = .slice (some ⟨g, off, none⟩) L.length c ∧ g < w.heap.size ∧
    ∀ W : World, W.heap[g]? = w.heap[g]? → ∀ j (h : j < L.length), W.cell? ⟨g, off + j * 2, none⟩ = some (.int .i64 ((L[j]).1 : Int)) ∧ W.cell? ⟨g, off + j * 2 + 1, none⟩ = some (.string (tx (L[j]).2))
theorem RcsAt.below {w w' : World} {v : Value} {L : List Rc} (h : RcsAt w v L) (g : Below w.heap.size w w') : RcsAt w' v L := by
  rcases h with h | ⟨b, off, c, rfl, hb, hc⟩
  · exact .inl h
  · exact .inr ⟨b, off, c, rfl, Nat.lt_of_lt_of_le hb g.size, fun W hW => hc W (hW.trans (g.block b hb))⟩
theorem RcsAt.form {w : World} {v : Value} {L : List Rc} (h : RcsAt w v L) : ∃ p c, v = .slice p L.length c := by
  rcases h with ⟨rfl, p, c, rfl⟩ | ⟨g, off, c, rfl, hg, _⟩
  · exact ⟨p, c, rfl⟩
  · exact ⟨_, c, rfl⟩
abbrev OwnR (w : World) (base : Nat) (v : Value) (L : List Rc) : Prop := w.ownsRow base 62 2 v L.length (rCells L)
theorem infoR : (Tryz.prog.info? 62).map (fun i => (i.zero, i.size, i.bytes)) = some (some (.agg #[.int .i64 0, .string ⟨#[]⟩]), 2, 24) := by kernel_rfl
theorem info_of {P : Program} {e : TypeId} {z : Value} {n b : Nat} (h : (P.info? e).map (fun i => (i.zero, i.size, i.bytes)) = some (some z, n, b)) : ∃ i, P.info? e = some i ∧ i.zero = some z ∧ i.size = n ∧ i.bytes = b := by
  cases hi : P.info? e with
  | none => rw [hi] at h; cases h
  | some i =>
    rw [hi] at h
    simp only [Option.map_some, Option.some.injEq, Prod.mk.injEq] at h
    exact ⟨i, rfl, h.1, h.2.1, h.2.2⟩
/-- What a row of one's own holds at a place. -/
theorem own_at {w : World} {base size n : Nat} {e : TypeId} {v : Value} {xs : List Value} (h : w.ownsRow base e size v n xs) (hn : 0 < n) :
    ∃ g cap, v = .slice (some ⟨g, 0, none⟩) n cap ∧ base ≤ g ∧ g < w.heap.size ∧ ∀ W : World, W.heap[g]? = w.heap[g]? → ∀ i u, i < n * size → xs[i]? = some u → W.cell? ⟨g, i, none⟩ = some u := by
  rcases h.2 with ⟨_, h0⟩ | ⟨g, cap, cur, rfl, hb, hg, h1, h2, h3, h4⟩
  · omega
  · refine ⟨g, cap, rfl, hb, ?_, fun W hW i u hi hu => ?_⟩
    · rcases Nat.lt_or_ge g w.heap.size with c | c
      · exact c
      · rw [Array.getElem?_eq_none c] at hg; cases hg
    · rw [Lib.cell_of_heap (hW.trans hg), ← hu, ← h4, List.getElem?_take, if_pos hi, Array.getElem?_toList]
theorem own_nil0 {w : World} {base size : Nat} {e : TypeId} {v : Value} {xs : List Value} (h : w.ownsRow base e size v 0 xs) : ∃ p c, v = .slice p 0 c := by
  rcases h.2 with ⟨rfl, _⟩ | ⟨g, cap, cur, rfl, _⟩
  · exact ⟨_, _, rfl⟩
  · exact ⟨_, _, rfl⟩
theorem own_rcs {w : World} {base : Nat} {v : Value} {L : List Rc} (h : OwnR w base v L) : RcsAt w v L := by
  rcases Nat.eq_zero_or_pos L.length with h0 | h0
  · have h' : w.ownsRow base 62 2 v 0 (rCells L) := h0 ▸ h
    obtain ⟨p, c, rfl⟩ := own_nil0 h'
    exact .inl ⟨List.length_eq_zero_iff.mp h0, p, c, rfl⟩
  · obtain ⟨g, cap, rfl, hb, hg, hc⟩ := own_at h h0
    refine .inr ⟨g, 0, cap, rfl, hg, fun W hW j hj => ?_⟩
    obtain ⟨c0, c1⟩ := rCells_at L j hj
    rw [Nat.zero_add]
    exact ⟨hc W hW _ _ (by omega) c0, hc W hW _ _ (by omega) c1⟩
theorem addr_at (g off j : Nat) : (⟨g, off, none⟩ : Addr).add j = ⟨g, off + j, none⟩ := by unfold Addr.add; split <;> simp_all
def robj (x : Rc) : Obj := .cells #[.int .i64 (x.1 : Int), .string (tx x.2)] 62 (0, 0)
theorem robj_cells {w : World} {g : Nat} {x : Rc} (h : w.heap[g]? = some (robj x)) : w.cell? ⟨g, 0, none⟩ = some (.int .i64 (x.1 : Int)) ∧ w.cell? ⟨g, 1, none⟩ = some (.string (tx x.2)) := by
  exact ⟨by rw [cell_of_row _ _ _ _ _ _ h]; rfl, by rw [cell_of_row _ _ _ _ _ _ h]; rfl⟩
theorem rec_fits (n : Nat) (hb : (n + 1) * 20 ≤ 140737488355328) : ((n + 1) + (n + 1) / 4 + 192) * 24 ≤ 281474976710656 := by
  have h1 : n + 1 ≤ 7036874417766 := by omega
  have h2 : (n + 1) / 4 ≤ 1759218604441 := by omega
  have h3 : (n + 1) + (n + 1) / 4 + 192 ≤ 8796093022399 := by omega
  calc ((n + 1) + (n + 1) / 4 + 192) * 24 ≤ 8796093022399 * 24 := Nat.mul_le_mul_right _ h3
    _ ≤ 281474976710656 := by decide
theorem rec_len (n : Nat) (hb : (n + 1) * 20 ≤ 140737488355328) : n + 1 ≤ maxLen := by unfold maxLen; omega
/-- One more record behind an own row: it lies in a new block of its own. -/
theorem append_rec {w : World} {base g : Nat} {v : Value} {A : List Rc} {x : Rc} (hown : OwnR w base v A) (hg : w.heap[g]? = some (robj x))
    (hb : (A.length + 1) * 20 ≤ 140737488355328) (hbase : base ≤ w.heap.size) :
    ∃ v' w', (∀ ty, (Builtin.append_ #[63, 63] ty #[v, .slice (some ⟨g, 0, none⟩) 1 1]).run Tryz.prog w = .ok v' w') ∧ OwnR w' base v' (A ++ [x]) ∧ w.grownBy w' v.ownBlock := by
  obtain ⟨i0, hi, hz0, hz1, hz2⟩ := info_of infoR
  obtain ⟨c0, c1⟩ := robj_cells hg
  have hb2 : ((A.length + 1) + (A.length + 1) / 4 + 192) * 24 ≤ 281474976710656 := rec_fits _ hb
  have hb3 : A.length + 1 ≤ maxLen := rec_len _ hb
  obtain ⟨v', w', hr, h2, h3, _⟩ := run_append_own_wide (P := Tryz.prog) w base 63 63 62 i0 _ 2 24 Tryz.underlying63 hi hz0 hz1 hz2 rfl (by decide) v A.length (rCells A) hown ⟨g, 0, none⟩ 1 1 [.int .i64 (x.1 : Int), .string (tx x.2)] rfl
    (fun j u hj => by
      rw [addr_at, Nat.zero_add]
      match j, hj with
      | 0, hj => rw [← Option.some.inj hj]; exact c0
      | 1, hj => rw [← Option.some.inj hj]; exact c1
      | j + 2, hj => simp at hj)
    (fun u hu => by
      simp at hu
      rcases hu with rfl | rfl <;> rfl) hb3 hb2 hbase
  have e : rCells (A ++ [x]) = rCells A ++ [.int .i64 (x.1 : Int), .string (tx x.2)] := by simp [rCells]
  exact ⟨v', w', fun _ => hr, by show w'.ownsRow _ _ _ _ _ _; rw [e, List.length_append]; exact h2, h3⟩
theorem rec_row_nil (w : World) (base : Nat) : OwnR w base (.slice none 0 0) [] := World.ownsRow_nil _ _ _ _
/-- One more record, out of a box. -/
theorem append_box {w : World} {base : Nat} {v : Value} {A : List Rc} (x : Rc) (hown : OwnR w base v A) (hb : (A.length + 1) * 20 ≤ 140737488355328) (hbase : base ≤ w.heap.size) :
    ∃ v' w', (∀ ty, (Builtin.append_ #[63, 63] ty #[v, .slice (some ⟨w.heap.size, 0, none⟩) 1 1]).run Tryz.prog (w.alloc (robj x)) = .ok v' w') ∧ OwnR w' base v' (A ++ [x]) ∧ Below base w w' := by
  have hsz : (w.alloc (robj x)).heap.size = w.heap.size + 1 := by simp
  obtain ⟨v', w', hr, ho, hg⟩ := append_rec (w := w.alloc (robj x)) (g := w.heap.size) (x := x) (hown.alloc _) (heap_alloc_new _ _) hb (by omega)
  refine ⟨v', w', hr, ho, ((Below.refl base w).alloc hbase _).grown hg (by omega) fun k hk => (hown.lt k hk).1⟩
theorem take_next {α} {a b : List α} {k : Nat} {x y : α} (hx : a[k]? = some x) (hy : b[k]? = some y) (h : a.take k = b.take k) (e : x = y) : a.take (k + 1) = b.take (k + 1) := by
  rw [List.take_add_one, List.take_add_one, h, hx, hy, e]
theorem take_all {α} {a b : List α} (hl : a.length = b.length) (h : a.take a.length = b.take a.length) : a = b := by
  rwa [List.take_length, hl, List.take_length] at h
set_option maxHeartbeats 2000000 in
set_option maxRecDepth 100000 in
theorem rsame_any (a b : List Rc) (u v : Value) (w : World) (hu : RcsAt w u a) (hv : RcsAt w v b) (ha : a.length ≤ maxLen) :
    Calls Tryz.prog 14 #[u, v] w fun e w' => e = .returned (.bool (decide (a = b))) ∧ Below w.heap.size w w' := by
  by_cases hl : a.length = b.length
  · rcases hu with ⟨rfl, q, c, rfl⟩ | ⟨b1, o1, c1, rfl, hb1, hc1⟩
    · obtain rfl : b = [] := by cases b with | nil => rfl | cons _ _ => simp at hl
      obtain ⟨p2, c2, rfl⟩ := hv.form
      clear hv
      go_enter Tryz.func14, Tryz.ntmps14
      go_wp2
      go_loop [5] (fun i => i = .int .i64 0) (fun _ => 0)
      case atStart => rfl
      case round =>
        subst hrel
        go_wp2
        go_ret
        exact ⟨rfl, Below.refl _ _⟩
    · rcases hv with ⟨rfl, q, c, rfl⟩ | ⟨b2, o2, c2, rfl, hb2, hc2⟩
      · obtain rfl : a = [] := by cases a with | nil => rfl | cons _ _ => simp at hl
        go_enter Tryz.func14, Tryz.ntmps14
        go_wp2
        go_loop [5] (fun i => i = .int .i64 0) (fun _ => 0)
        case atStart => rfl
        case round =>
          subst hrel
          go_wp2
          go_ret
          exact ⟨rfl, Below.refl _ _⟩
      · have H1 := Lib.hid hc1
        have H2 := Lib.hid hc2
        have HL := Lib.hid hl
        have HS := Lib.hid ha
        have G1 := Lib.hid hb1
        have G2 := Lib.hid hb2
        obtain ⟨r, hr⟩ : ∃ r, r = decide (a = b) := ⟨_, rfl⟩
        rw [← hr]
        have HR := Lib.hid hr
        clear hc1 hc2 ha hr hb1 hb2
        rw [← hl]
        clear hl
        go_enter Tryz.func14, Tryz.ntmps14
        go_wp2
        go_loopw [5] (fun i wr => ∃ k : Nat, k ≤ a.length ∧ i = .int .i64 k ∧ Hid (a.take k = b.take k) ∧ Below w.heap.size w wr) (fun i _ => a.length - (intOf i).toNat)
        case atStart => exact ⟨0, Nat.zero_le _, rfl, Lib.hid rfl, Below.refl _ _⟩
        case round =>
          obtain ⟨k, hk, rfl, HT, hq⟩ := hrel
          have HQ := Lib.hid hq
          clear hq
          obtain ⟨wo, rfl⟩ : ∃ wo : World, wo = wr := ⟨_, rfl⟩
          by_cases hlt : k < a.length
          · have hlt2 : k < b.length := HL.out ▸ hlt
            obtain ⟨g0, g1⟩ := H1.out wo (HQ.out.block _ G1.out) k hlt
            obtain ⟨h0, h1⟩ := H2.out wo (HQ.out.block _ G2.out) k hlt2
            have HX := Lib.hid (List.getElem?_eq_getElem hlt)
            have HY := Lib.hid (List.getElem?_eq_getElem hlt2)
            generalize a[k] = x at *
            generalize b[k] = y at *
            have HE := fun W => neqR_run x y W
            obtain ⟨xn, xk⟩ := x
            obtain ⟨yn, yk⟩ := y
            simp only at g0 g1 h0 h1 HE
            by_cases hxy : ((xn, xk) : Rc) = (yn, yk)
            · rw [decide_eq_true hxy] at HE
              go_wp2
              go_quiet (fail)
              go_wp2
              go_roundw
              case rel => exact ⟨k + 1, by omega, congrArg _ (wrap_s HS.out hlt), Lib.hid (take_next HX.out HY.out HT.out hxy), below_drewN HQ.out _⟩
              case measure =>
                rw [wrap_s HS.out hlt]
                exact int_less hlt
            · rw [decide_eq_false hxy] at HE
              have HF : Hid (r = false) := Lib.hid (by rw [HR.out]; exact decide_eq_false fun e => by subst e; exact hxy (Option.some.inj (HX.out.symm.trans HY.out)))
              go_wp2
              go_quiet (fail)
              go_wp2
              go_ret
              exact ⟨by rw [HF.out]; rfl, below_drewN HQ.out _⟩
          · obtain rfl : k = a.length := by omega
            have HF : Hid (r = true) := Lib.hid (by rw [HR.out]; exact decide_eq_true (take_all HL.out HT.out))
            go_wp2
            go_ret
            exact ⟨by rw [HF.out]; rfl, HQ.out⟩
  · obtain ⟨p1, c1, rfl⟩ := hu.form
    obtain ⟨p2, c2, rfl⟩ := hv.form
    rw [decide_eq_false (fun e : a = b => hl (by rw [e]))]
    have hl' : ((a.length : Int) == (b.length : Int)) = false := by simp; omega
    have hl2 : ((a.length : Int) != (b.length : Int)) = true := by simp; omega
    clear hu hv
    generalize a.length = n at *
    generalize b.length = m at *
    go_enter Tryz.func14, Tryz.ntmps14
    go_wp2_with fail
    go_ret
    exact ⟨rfl, Below.refl _ _⟩
end Go.Proofs.YtioidkbpjkcjeaaGreatDoor
