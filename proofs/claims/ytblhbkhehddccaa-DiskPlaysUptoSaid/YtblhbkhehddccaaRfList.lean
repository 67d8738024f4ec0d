/- The lists of names of the document's own disk: how they lie in memory, and the look-up of a name. Conditions: those that each theorem names. -/
import Derived.Test.YtblhbkhehddccaaDkUndo
import Derived.Test.YtblhbkhehddccaaRfPlain
namespace Go.Proofs.Ytblhbkhehddccaa
set_option linter.unusedVariables false
open Go.RowKit Dk

/-- A row of names with the numbers of their files. -/
def RowN (w : World) (v : Value) (L : List (Nm × Nat)) : Prop :=
  (L = [] ∧ ∃ p c, v = .slice p 0 c) ∨ ∃ g off c, v = .slice (some ⟨g, off, none⟩) L.length c ∧ g < w.heap.size ∧
    ∀ W : World, W.heap[g]? = w.heap[g]? → ∀ j (h : j < L.length), W.cell? ⟨g, off + j * 2, none⟩ = some (.string (L[j]).1) ∧ W.cell? ⟨g, off + j * 2 + 1, none⟩ = some (.int .i64 (L[j]).2)
theorem RowN.kept {w w' : World} {v : Value} {L : List (Nm × Nat)} (h : RowN w v L) (hb : ∀ g, v.ownBlock = some g → w'.heap[g]? = w.heap[g]?) (hs : w.heap.size ≤ w'.heap.size) : RowN w' v L := by
  rcases h with h | ⟨g, off, c, rfl, hg, hc⟩
  · exact .inl h
  · have e := hb g rfl
    exact .inr ⟨g, off, c, rfl, by omega, fun W hW => hc W (hW.trans e)⟩
/-- The number of a name's file, or -1. -/
def fileNo (L : List (Nm × Nat)) (s : Nm) : Int := match nmGet L s with | some i => i | none => -1
theorem fileNo_hit {s : Nm} {x : Int} {L : List (Nm × Nat)} {k : Nat} (h : k < L.length) (hk : fileNo (L.drop k) s = x) (e : (L[k]).1 = s) : x = (L[k]).2 := by
  subst hk
  unfold fileNo nmGet
  rw [List.drop_eq_getElem_cons h, List.find?_cons_of_pos (by simpa using e)]
  rfl
theorem fileNo_miss {s : Nm} {L : List (Nm × Nat)} {k : Nat} (h : k < L.length) (e : (L[k]).1 ≠ s) : fileNo (L.drop k) s = fileNo (L.drop (k + 1)) s := by
  unfold fileNo nmGet
  rw [List.drop_eq_getElem_cons h, List.find?_cons_of_neg (by simpa using e)]
theorem toList_ne {a b : ByteArray} : (a.toList == b.toList) = decide (a = b) := by
  rw [Go.ByteArray.toList_eq, Go.ByteArray.toList_eq]
  by_cases e : a = b
  · subst e; simp
  · have : a.data.toList ≠ b.data.toList := fun h => e (nm_ext h)
    simp only [e, decide_false, beq_eq_false_iff_ne]
    exact this

set_option maxHeartbeats 1000000 in
theorem rfind_any (L : List (Nm × Nat)) (v : Value) (s : ByteArray) (w : World) (h : RowN w v L) (hl : L.length ≤ maxLen) :
    Calls Try.prog 33 #[v, .string s] w fun e w' => e = .returned (.int .i64 (fileNo L s)) ∧ w = w' := by
  unfold maxLen at hl
  rcases h with ⟨rfl, p, c, rfl⟩ | ⟨g, off, c, rfl, hg, hc⟩
  · have e : fileNo [] s = -1 := rfl
    rw [e]
    go_enter Try.func33, Try.ntmps33
    go_wp2
    go_loop [5] (fun i => i = .int .i64 0) (fun _ => 0)
    case atStart => rfl
    case round =>
      subst hrel
      go_wp2
      go_ret
      exact ⟨rfl, rfl⟩
  · go_enter Try.func33, Try.ntmps33
    have HC := Lib.hid hc
    clear hc
    go_wp2
    go_loop [5] (fun i => ∃ k : Nat, k ≤ L.length ∧ i = .int .i64 k ∧ fileNo (L.drop k) s = fileNo L s) (fun i => L.length - (intOf i).toNat)
    case atStart => exact ⟨0, Nat.zero_le _, rfl, by simp⟩
    case round =>
      obtain ⟨k, hk, rfl, hd⟩ := hrel
      have HD := Lib.hid hd
      clear hd
      by_cases hlt : k < L.length
      · obtain ⟨c0, c1⟩ := HC.out w rfl k hlt
        by_cases hs : (L[k]).1 = s
        · have hx := fileNo_hit hlt HD.out hs
          rw [hx]
          rw [hs] at c0
          obtain ⟨x, hx2⟩ : ∃ x, x = (L[k]).2 := ⟨_, rfl⟩
          rw [← hx2] at c1
          have HX := Lib.hid hx2
          clear hx2
          go_wp2
          go_ret
          exact ⟨by rw [← HX.out]; rfl, rfl⟩
        · have hm := fileNo_miss hlt hs
          have hb : ((L[k]).1.toList == s.toList) = false := by rw [toList_ne]; simpa using hs
          have HM := Lib.hid (hm.symm.trans HD.out)
          clear hm hs
          generalize (L[k]).1 = n at c0 hb
          clear c1
          go_wp2
          go_round
          case rel => exact ⟨k + 1, by omega, by go_num, HM.out⟩
          case measure => simp [intOf]; omega
      · obtain rfl : k = L.length := by omega
        have hx : fileNo L s = -1 := by rw [← HD.out]; simp [fileNo, nmGet]
        rw [hx]
        go_wp2
        go_ret
        exact ⟨rfl, rfl⟩

/-! ### without -/
def nameCells (L : List (Nm × Nat)) : List Value := L.flatMap (fun p => [.string p.1, .int .i64 p.2])
theorem infoName : (Try.prog.info? 96).map (fun i => (i.zero, i.size, i.bytes)) = some (some (.agg #[.string ⟨#[]⟩, .int .i64 0]), 2, 24) := by kernel_rfl
theorem take_del_keep {L : List (Nm × Nat)} {s : Nm} {k : Nat} (h : k < L.length) (e : (L[k]).1 ≠ s) : nmDel (L.take (k + 1)) s = nmDel (L.take k) s ++ [L[k]] := by
  unfold nmDel
  rw [List.take_succ_eq_append_getElem h, List.filter_append, List.filter_cons_of_pos (by simpa using e)]
  rfl
theorem take_del_drop {L : List (Nm × Nat)} {s : Nm} {k : Nat} (h : k < L.length) (e : (L[k]).1 = s) : nmDel (L.take (k + 1)) s = nmDel (L.take k) s := by
  unfold nmDel
  rw [List.take_succ_eq_append_getElem h, List.filter_append, List.filter_cons_of_neg (by simpa using e)]
  simp
theorem RowN.at {w : World} {q : Option Addr} {n c : Nat} {L : List (Nm × Nat)} (h : RowN w (.slice q n c) L) {k : Nat} (hk : k < L.length) :
    ∃ g off, q = some ⟨g, off, none⟩ ∧ g < w.heap.size ∧ ∀ W : World, W.heap[g]? = w.heap[g]? → W.cell? ⟨g, off + k * 2, none⟩ = some (.string (L[k]).1) ∧ W.cell? ⟨g, off + k * 2 + 1, none⟩ = some (.int .i64 (L[k]).2) := by
  rcases h with ⟨h, _⟩ | ⟨g, off, c, e, hg, hc⟩
  · rw [h] at hk; simp at hk
  · injection e with e1 _ _
    exact ⟨g, off, e1, hg, fun W hW => hc W hW k hk⟩
def WithoutR (w : World) (L : List (Nm × Nat)) (v : Value) (wr : World) : Prop := wr.ownsRow w.heap.size 96 2 v L.length (nameCells L) ∧ Below w.heap.size w wr
set_option maxHeartbeats 2000000 in
set_option maxRecDepth 100000 in
theorem without_any (L : List (Nm × Nat)) (v : Value) (s : ByteArray) (w : World) (h : RowN w v L) (hl : L.length ≤ 1099511627776) :
    Calls Try.prog 47 #[v, .string s] w fun e w' => ∃ u, e = .returned u ∧ WithoutR w (nmDel L s) u w' := by
  obtain ⟨i0, hi, hz0, hz1, hz2⟩ := info_parts infoName
  have hform : ∃ q c, v = .slice q L.length c := by
    rcases h with ⟨rfl, p, c, rfl⟩ | ⟨g, off, c, rfl, _⟩ <;> exact ⟨_, _, rfl⟩
  obtain ⟨q, c, rfl⟩ := hform
  have H := Lib.hid h
  clear h
  go_enter Try.func47, Try.ntmps47
  go_wp2
  go_loopw [5, 6] (fun u i wr => ∃ k : Nat, k ≤ L.length ∧ i = .int .i64 k ∧ WithoutR w (nmDel (L.take k) s) u wr) (fun _ i _ => L.length - (intOf i).toNat)
  case atStart => exact ⟨0, Nat.zero_le _, rfl, World.ownsRow_nil _ _ _ _, Below.refl _ _⟩
  case round =>
    obtain ⟨k, hk, rfl, hown, hbel⟩ := hrel
    by_cases hlt : k < L.length
    · obtain ⟨g, off, hp, hg, hc⟩ := H.out.at hlt
      obtain ⟨c0, c1⟩ := hc wr (hbel.block g hg)
      clear hc
      subst hp
      by_cases hs : (L[k]).1 = s
      · have HN : Hid (WithoutR w (nmDel (L.take (k + 1)) s) u5 wr) := Lib.hid (by rw [take_del_drop hlt hs]; exact ⟨hown, hbel⟩)
        rw [hs] at c0
        clear c1 hs hown hbel
        go_wp2
        go_roundw
        case rel => exact ⟨k + 1, by omega, by go_num, HN.out⟩
        case measure => simp [intOf]; omega
      · have hb : ((L[k]).1.toList == s.toList) = false := by rw [toList_ne]; simpa using hs
        have HT := Lib.hid (take_del_keep hlt hs)
        clear hs
        have hbd : (nmDel (L.take k) s).length ≤ 1099511627776 := by have := length_nmDel_le (L.take k) s; have := List.length_take_le k L; omega
        generalize hx : L[k] = x at c0 c1 hb HT
        obtain ⟨n, x⟩ := x
        simp only at c0 c1 hb
        clear hx
        have HO := Lib.hid hown
        have HB := Lib.hid hbel
        have HBD := Lib.hid hbd
        clear hown hbel hbd
        go_wp2_with (at_builtin; refine wpList_append_own _ rfl _ _ 27 rfl w.heap.size 96 i0 (.agg #[.string ⟨#[]⟩, .int .i64 0]) 2 24 Try.underlying27 hi hz0 hz1 hz2 rfl (by decide) _ _ _ rfl (HO.out.alloc _) ⟨wr.heap.size, 0, none⟩ 1 1 [.string n, .int .i64 (x : Int)] rfl rfl ?c1 ?c2 ?c3 ?c4 ?c5 ?_)
        case c1 =>
          intro j u hj
          match j, hj with
          | 0, hj => simp at hj; subst hj; simp [Addr.add]
          | 1, hj => simp at hj; subst hj; simp [Addr.add]
        case c2 => intro u hu; simp at hu; rcases hu with rfl | rfl <;> rfl
        case c3 => have := HBD.out; unfold maxLen; omega
        case c4 => have := HBD.out; omega
        case c5 => have := HB.out.size; simp; omega
        · intro v' w1 hown' hgrow _
          have hb2 : Below w.heap.size w w1 := by
            refine (HB.out.alloc HB.out.size _).grown hgrow (by have := HB.out.size; simp; omega) fun k hk => ?_
            obtain ⟨_, h | ⟨g, cap, cur, rfl, hg, _⟩⟩ := HO.out
            · rw [h.1] at hk; cases hk
            · simp [Value.ownBlock] at hk; omega
          have ho2 : w1.ownsRow w.heap.size 96 2 v' (nmDel (L.take (k + 1)) s).length (nameCells (nmDel (L.take (k + 1)) s)) := by
            rw [HT.out, List.length_append]
            have e : nameCells (nmDel (L.take k) s ++ [(n, x)]) = nameCells (nmDel (L.take k) s) ++ [.string n, .int .i64 (x : Int)] := by simp [nameCells]
            rw [e]; exact hown'
          have HN : Hid (WithoutR w (nmDel (L.take (k + 1)) s) v' w1) := Lib.hid ⟨ho2, hb2⟩
          clear hown' hgrow ho2 hb2
          go_wp2
          go_roundw
          case rel => exact ⟨k + 1, by omega, by go_num, HN.out⟩
          case measure => simp [intOf]; omega
    · obtain rfl : k = L.length := by omega
      have HN : Hid (WithoutR w (nmDel L s) u5 wr) := Lib.hid (by rw [List.take_length] at hown; exact ⟨hown, hbel⟩)
      clear hown hbel
      go_wp2
      go_ret
      exact ⟨_, rfl, HN.out⟩
theorem nameCells_get : ∀ (L : List (Nm × Nat)) (j : Nat) (h : j < L.length), (nameCells L)[j * 2]? = some (.string (L[j]).1) ∧ (nameCells L)[j * 2 + 1]? = some (.int .i64 (L[j]).2)
  | p :: r, 0, _ => ⟨rfl, rfl⟩
  | p :: r, j + 1, h => by
    have hj : j < r.length := by simpa using h
    have := nameCells_get r j hj
    have e : nameCells (p :: r) = .string p.1 :: .int .i64 p.2 :: nameCells r := rfl
    rw [e, show (j + 1) * 2 = j * 2 + 1 + 1 by omega]
    simpa using this
theorem row_names {w : World} {base : Nat} {v : Value} {L : List (Nm × Nat)} (h : w.ownsRow base 96 2 v L.length (nameCells L)) : RowN w v L := by
  rcases Nat.eq_zero_or_pos L.length with h0 | h0
  · have : L = [] := List.eq_nil_of_length_eq_zero h0
    subst this
    rcases h.2 with ⟨rfl, _⟩ | ⟨g, cap, cur, rfl, _⟩
    · exact .inl ⟨rfl, _, _, rfl⟩
    · exact .inl ⟨rfl, _, _, rfl⟩
  · obtain ⟨g, c, rfl, hg, _, _, hc⟩ := ownsRow_cell h h0
    exact .inr ⟨g, 0, c, rfl, hg, fun W hW j hj => by
      have := nameCells_get L j hj
      rw [Nat.zero_add]
      exact ⟨hc W hW _ _ this.1, hc W hW _ _ this.2⟩⟩
/-- How the order of names is spelled in a walk. -/
theorem less_list (x y : List UInt8) : Op.bytesLess x y = decide (x < y) := by
  induction x generalizing y with
  | nil => cases y <;> simp [Op.bytesLess]
  | cons a r ih =>
    cases y with
    | nil => simp [Op.bytesLess]
    | cons b q =>
      rw [Op.bytesLess, ih, Bool.eq_iff_iff]
      simp [List.cons_lt_cons_iff]
theorem less_lt (a b : ByteArray) : Op.bytesLess a.toList b.toList = ltN a b := by
  rw [less_list, Go.ByteArray.toList_eq, Go.ByteArray.toList_eq]; rfl
/-- A row of names behind an own one: the source may be nil. -/
theorem append_rows {w : World} {base : Nat} {v : Value} {A B : List (Nm × Nat)} {q : Option Addr} {c : Nat} (hown : w.ownsRow base 96 2 v A.length (nameCells A))
    (hs : (q = none ∧ B = []) ∨ ∃ ad, q = some ad ∧ ∀ j u, (nameCells B)[j]? = some u → w.cell? (ad.add j) = some u) (hb : A.length + B.length ≤ 2199023255552) (hbase : base ≤ w.heap.size) :
    ∃ v' w', (∀ ty, (Builtin.append_ #[27, 27] ty #[v, .slice q B.length c]).run Try.prog w = .ok v' w') ∧ w'.ownsRow base 96 2 v' (A ++ B).length (nameCells (A ++ B)) ∧ w.grownBy w' v.ownBlock := by
  obtain ⟨i0, hi, hz0, hz1, hz2⟩ := info_parts infoName
  have hlen : ∀ L : List (Nm × Nat), (nameCells L).length = L.length * 2 := fun L => by
    induction L with
    | nil => rfl
    | cons p r ih => show (nameCells r).length + 1 + 1 = _; rw [ih, List.length_cons]; omega
  rcases hs with ⟨rfl, rfl⟩ | ⟨ad, rfl, hc⟩
  · refine ⟨v, w, fun ty => ?_, by simpa using hown, ⟨rfl, rfl, rfl, Nat.le_refl _, fun _ _ _ => rfl⟩⟩
    have ht := Try.underlying27
    rcases hown.2 with ⟨rfl, h0⟩ | ⟨g, cap, cur, rfl, _, hg, h1, _⟩
    · simp [Builtin.append_, run_underlying ht, sizeOf, typeInfo, hi, Builtin.lenOf, Builtin.firstCells]
    · simp [Builtin.append_, run_underlying ht, sizeOf, typeInfo, hi, Builtin.lenOf, Builtin.firstCells, storeCells, h1]
  · obtain ⟨v', w', hr, h2, h3, _⟩ := run_append_own_at (P := Try.prog) w base 27 27 96 i0 _ 2 24 Try.underlying27 hi hz0 hz1 hz2 rfl (by decide) v A.length (nameCells A) hown ad B.length c (nameCells B) (hlen B) hc
      (fun u hu => by
        obtain ⟨p, _, hp⟩ := List.mem_flatMap.1 hu
        simp at hp
        rcases hp with rfl | rfl <;> rfl) (by unfold maxLen; omega) (by omega) hbase
    have e : nameCells (A ++ B) = nameCells A ++ nameCells B := by simp [nameCells]
    exact ⟨v', w', fun _ => hr, by rw [e, List.length_append]; exact h2, h3⟩
end Go.Proofs.Ytblhbkhehddccaa
