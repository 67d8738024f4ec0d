/- An index in memory; the program's Build. Conditions: those that each theorem names. -/
import Derived.Test.YtkmfkgjkgnlfnaaWdG
namespace Go.Proofs.Ytkmfkgjkgnlfnaa
set_option linter.unusedVariables false
namespace Wd
open Go Go.RowKit Go.Shelf Go.Sort Go.Maps Pq Pq.Pl Rk Ids
open Go.ChangeMaps (setBlock)
/-! ### Rows of ids and values, plain -/
def rlOf (L : List Pt) (s : Nm) : List (Rw Val) := L.map fun p => (p.id, getL p.flds s)
def rowT (RL : List (Rw Val)) (x : Int) : Rw Val := (x, (last RL x).getD none)
theorem last_at (s : Nm) : ∀ (n : Nat) (A : List Pt), A.length = n → ∀ (x : Int) (j : Nat) (hj : j < A.length), lastS A (.int .i64 x) (.int .i64 (j : Int)) → (A[j]).id = x ∧ last (rlOf A s) x = some (getL (A[j]).flds s)
  | 0, A, e, x, j, hj, _ => by omega
  | n + 1, A, e, x, j, hj, h => by
    have hn : n < A.length := by omega
    have hA : A.take (n + 1) = A := List.take_of_length_le (by omega)
    have hs : rlOf A s = rlOf (A.take n) s ++ [((A[n]).id, getL (A[n]).flds s)] := by
      have e2 : A = A.take n ++ [A[n]] := by
        have := List.take_add_one (l := A) (i := n)
        rw [hA, List.getElem?_eq_getElem hn] at this
        exact this
      exact (congrArg (List.map fun p : Pt => (p.id, getL p.flds s)) e2).trans (by rw [List.map_append]; rfl)
    rw [← hA, ← lastS_next hn] at h
    rw [hs, last_snoc]
    rcases h with ⟨e1, e2⟩ | ⟨hne, h⟩
    · injection e1 with _ e1
      injection e2 with _ e2
      obtain rfl : j = n := by omega
      exact ⟨e1.symm, by rw [if_pos e1.symm]⟩
    · have hl : (A.take n).length = n := by simp; omega
      have hjn : j < (A.take n).length := by
        obtain ⟨i, hi, _, e2, _⟩ := h
        injection e2 with _ e2
        omega
      obtain ⟨a, b⟩ := last_at s n (A.take n) hl x j hjn h
      rw [List.getElem_take] at a b
      exact ⟨a, by rw [if_neg fun e3 => hne (by rw [show (A[n]).id = x from e3])]; exact b⟩
theorem last_some (s : Nm) {L : List Pt} {x : Int} (h : x ∈ L.map fun p => p.id) : ∃ o, last (rlOf L s) x = some o := by
  obtain ⟨u, hu⟩ := (lastS_has L x).2 h
  obtain ⟨j, hj, _, rfl⟩ := lastS_one hu
  exact ⟨_, (last_at s _ L rfl x j hj hu).2⟩
theorem last_key {L : List (Rw Val)} {x : Int} {o : Option Val} (h : last L x = some o) : x ∈ L.map Prod.fst := by
  unfold last at h
  rw [Option.map_eq_some_iff] at h
  obtain ⟨z, hz, _⟩ := h
  have h1 := List.find?_some hz
  have h2 := List.mem_of_find?_eq_some hz
  exact List.mem_map.2 ⟨z, by simpa using h2, by simpa using h1⟩
theorem rows_are {L : List Pt} {s : Nm} {IL : List Int} (hm : ∀ x, x ∈ IL ↔ x ∈ L.map fun p => p.id) (y : Rw Val) : y ∈ IL.map (rowT (rlOf L s)) ↔ y ∈ rowsL (rlOf L s) := by
  rw [mem_rows, List.mem_map]
  constructor
  · rintro ⟨x, hx, rfl⟩
    obtain ⟨o, ho⟩ := last_some s ((hm x).1 hx)
    show last _ x = some ((last _ x).getD none)
    rw [ho]; rfl
  · intro h
    have h1 := last_key h
    have h2 : (rlOf L s).map Prod.fst = L.map fun p => p.id := by unfold rlOf; rw [List.map_map]; rfl
    rw [h2] at h1
    refine ⟨y.1, (hm _).2 h1, ?_⟩
    show (y.1, (last _ y.1).getD none) = y
    rw [h]; rfl
theorem getL_mem {L : List Fld} {s : Nm} {v : Val} (h : getL L s = some v) : ∃ f ∈ L, f.val = v := by
  unfold getL at h
  rw [Option.map_eq_some_iff] at h
  obtain ⟨f, hf, e⟩ := h
  exact ⟨f, List.mem_of_find?_eq_some hf, e⟩
theorem rows_ok {L : List Pt} {s : Nm} (hok : ∀ p ∈ L, OkP p) {x : Int} {v : Val} (h : last (rlOf L s) x = some (some v)) : OkV v := by
  unfold last at h
  rw [Option.map_eq_some_iff] at h
  obtain ⟨z, hz, e⟩ := h
  have h2 : z ∈ rlOf L s := by simpa using List.mem_of_find?_eq_some hz
  obtain ⟨p, hp, rfl⟩ := List.mem_map.1 h2
  obtain ⟨f, hf, rfl⟩ := getL_mem e
  exact (hok p hp).vals f hf
/-! ### An index in memory -/
/-- Block B of w is an index of the rows R, made in blocks from base on. -/
def IxAt (w : World) (base B : Nat) (R : List (Rw Val)) : Prop :=
  ∃ M G rb, w.heap[B]? = some (.cells #[.map (some M)] 66 (0, 0)) ∧ GrpAt w rb M G ∧ gpOf G = grpL R ∧ base ≤ rb ∧ base ≤ M ∧ base ≤ B ∧ B < w.heap.size ∧ Ris (R.map Prod.fst) ∧ R.length * 56 ≤ 140737488355328 ∧ ∀ r ∈ R, ∀ v, r.2 = some v → OkV v
theorem IxAt.below {w w' : World} {base B : Nat} {R : List (Rw Val)} (h : IxAt w base B R) (g : Below w.heap.size w w') : IxAt w' base B R := by
  obtain ⟨M, G, rb, h1, h2, h3, h4, h5, h6, h7, h8⟩ := h
  exact ⟨M, G, rb, (g.block B h7).trans h1, h2.below g, h3, h4, h5, h6, Nat.lt_of_lt_of_le h7 g.size, h8⟩
/-- What the blocks from base on do not hold is of no account. -/
theorem IxAt.kept {w w' : World} {base B : Nat} {R : List (Rw Val)} (h : IxAt w base B R) (hs : w.heap.size ≤ w'.heap.size) (g : ∀ b, base ≤ b → b < w.heap.size → w'.heap[b]? = w.heap[b]?) : IxAt w' base B R := by
  obtain ⟨M, G, rb, h1, h2, h3, h4, h5, h6, h7, h8⟩ := h
  exact ⟨M, G, rb, (g B h6 h7).trans h1, h2.kept (g M h5 h2.ltM) fun x hx k hk => by
    obtain ⟨k', e, hb, hl, _⟩ := h2.block hx
    rw [hk] at e
    injection e with e
    subst e
    exact g k (Nat.le_trans h4 hb) hl, h3, h4, h5, h6, Nat.lt_of_lt_of_le h7 hs, h8⟩
/-! ### Build -/
def BldW (w w3 : World) (M : Nat) (RL : List (Rw Val)) (IL : List Int) (k : Nat) (wr : World) : Prop :=
  ∃ G, GrpAt wr w3.heap.size M G ∧ gpOf G = grpL ((IL.take k).map (rowT RL)) ∧ Below w.heap.size w wr ∧ (∀ b, b < w3.heap.size → b ≠ M → wr.heap[b]? = w3.heap[b]?) ∧ w3.heap.size ≤ wr.heap.size
theorem bld_next {w w3 wr W : World} {M k : Nat} {RL : List (Rw Val)} {IL : List Int} {x : Int} (h : BldW w w3 M RL IL k wr) (hx : IL[k]? = some x) (hn : last RL x = some none) (hb : Below wr.heap.size wr W) (hw : w.heap.size ≤ w3.heap.size) : BldW w w3 M RL IL (k + 1) W := by
  obtain ⟨G, h1, h2, h3, h4, h5⟩ := h
  refine ⟨G, h1.below hb, ?_, h3.trans (hb.mono h3.size), fun b hb1 hb2 => (hb.block b (by omega)).trans (h4 b hb1 hb2), Nat.le_trans h5 hb.size⟩
  rw [List.take_add_one, hx, List.map_append, h2]
  show grpL _ = grpL (_ ++ [rowT RL x])
  rw [grpL_snoc]
  unfold rowT
  rw [hn]
  rfl
theorem clone_any (t : ByteArray) (w : World) (ht : t.size ≤ Room) : Calls Try.prog 28 #[.string t] w fun e w' => e = .returned (.string t) ∧ Below w.heap.size w w' := by
  have H := Lib.hid (Try.stringslite_Clone t w (by unfold Room at ht; omega))
  go_enter Try.func28, Try.ntmps28
  go_wp2_with (go_at_call 43; refine H.out.mono ?_; rintro e w1 ⟨rfl, hb⟩; have HB := Lib.hid hb; clear hb)
  go_ret
  exact ⟨rfl, HB.out⟩
/-- All steps of a value's id put to the groups. -/
theorem bld_put {w w3 wr W7 : World} {M k : Nat} {RL : List (Rw Val)} {IL : List Int} {x : Int} {y : Val} (h : BldW w w3 M RL IL k wr) (hx : IL[k]? = some x) (hn : last RL x = some (some y)) (hy : OkV y) (hb : Below wr.heap.size wr W7) (hw : w.heap.size ≤ w3.heap.size) (hM : w.heap.size ≤ M) (hk : k * 56 ≤ 140737488355328 - 56) :
    ∃ (u : Sl) (o1 : Obj) (st : Int) (s : Sl) (W5 : World) (o2 : Obj),
      (Instr.mapEntry 57 (.map (some M)) (vv y)).run Try.prog (W7.alloc (.cells #[.int .i64 x] 3)) = .ok (.tuple #[slv u, .int .i64 st]) (setBlock (W7.alloc (.cells #[.int .i64 x] 3)) M o1) ∧
      (∀ ty, (Builtin.append_ #[37, 37] ty #[slv u, .slice (some ⟨W7.heap.size, 0, none⟩) 1 1]).run Try.prog (setBlock (W7.alloc (.cells #[.int .i64 x] 3)) M o1) = .ok (slv s) W5) ∧
      (Instr.entryStore 57 (.map (some M)) (.int .i64 st) (slv s)).run Try.prog W5 = .ok () (setBlock W5 M o2) ∧ BldW w w3 M RL IL (k + 1) (setBlock W5 M o2) := by
  obtain ⟨G, h1, h2, h3, h4, h5⟩ := h
  have h1' := h1.below hb
  have hlk : ((IL.take k).map (rowT RL)).length ≤ k := by simp; omega
  have hG : G.length ≤ k := by
    have := grp_length ((IL.take k).map (rowT RL))
    rw [← h2] at this
    unfold gpOf at this
    rw [List.length_map] at this
    omega
  have hGl : ∀ q ∈ G, (q.l.length + 1) * 8 ≤ 140737488355328 := fun q hq => by
    have hm : (q.v, q.l) ∈ grpL ((IL.take k).map (rowT RL)) := by rw [← h2]; exact List.mem_map.2 ⟨q, hq, rfl⟩
    have e := (mem_grp.1 hm).1
    have : q.l.length ≤ k := by
      rw [e]
      unfold someL
      rw [List.length_map]
      exact Nat.le_trans (List.length_filter_le _ _) hlk
    omega
  obtain ⟨u, o1, st, s, W5, o2, a1, a2, a3, a4, a5, a6, a7⟩ := grp_put h1' y hy x (W := W7.alloc (.cells #[.int .i64 x] 3)) (g0 := W7.heap.size) (Rk.fresh_alloc _ _) (Nat.le_refl _) (Rk.heap_last _ _) hw hM (Nat.le_trans h5 hb.size) (by unfold maxLen; omega) hGl
  refine ⟨u, o1, st, s, W5, o2, a1, a2, a3, putM y s x G, a4, ?_, (h3.trans (hb.mono h3.size)).trans a5, fun b hb1 hb2 => (a7 b hb1 hb2).trans ((hb.block b (by omega)).trans (h4 b hb1 hb2)), Nat.le_trans h5 (Nat.le_trans hb.size a6)⟩
  rw [gp_putM, h2, List.take_add_one, hx, List.map_append]
  show _ = grpL (_ ++ [rowT RL x])
  rw [grpL_snoc]
  unfold rowT
  rw [hn]
  rfl
end Wd
end Go.Proofs.Ytkmfkgjkgnlfnaa
