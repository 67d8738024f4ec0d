/- The document's own disk: a name more, in its place. Conditions: those that each theorem names. -/
import Derived.Test.YtblhbkhehddccaaRfList
namespace Go.Proofs.Ytblhbkhehddccaa
set_option linter.unusedVariables false
open Go.RowKit Dk
theorem while_split {α : Type} (f : α → Bool) : ∀ (M : List α) (k : Nat), (M.take k).all f = true → (∀ h : k < M.length, f (M[k]) = false) → k ≤ M.length → M.takeWhile f = M.take k ∧ M.dropWhile f = M.drop k
  | [], k, _, _, hk => by simp
  | x :: M, 0, _, h, _ => by
    have := h (by simp)
    simp only [List.getElem_cons_zero] at this
    simp [List.takeWhile_cons, List.dropWhile_cons, this]
  | x :: M, k + 1, h1, h2, hk => by
    simp only [List.take_succ_cons, List.all_cons, Bool.and_eq_true] at h1
    obtain ⟨i1, i2⟩ := while_split f M k h1.2 (fun h => by have := h2 (by simpa using h); simpa using this) (by simpa using hk)
    simp [List.takeWhile_cons, List.dropWhile_cons, h1.1, i1, i2]
theorem all_more {α : Type} (f : α → Bool) {M : List α} {k : Nat} (h : k < M.length) (h1 : (M.take k).all f = true) (h2 : f (M[k]) = true) : (M.take (k + 1)).all f = true := by
  rw [List.take_succ_eq_append_getElem h, List.all_append, h1]
  simp [h2]
theorem ownsRow_base {w : World} {base b2 : Nat} {e : TypeId} {z : Nat} {v : Value} {n : Nat} {xs : List Value} (h : w.ownsRow base e z v n xs) (hb : b2 ≤ base) : w.ownsRow b2 e z v n xs := by
  refine ⟨h.1, ?_⟩
  rcases h.2 with h0 | ⟨g, cap, cur, rfl, h1, h2⟩
  · exact .inl h0
  · exact .inr ⟨g, cap, cur, rfl, Nat.le_trans hb h1, h2⟩
theorem cells_length : ∀ (M : List (Nm × Nat)), (nameCells M).length = M.length * 2
  | [] => rfl
  | p :: r => by
    have := cells_length r
    show (nameCells r).length + 1 + 1 = _
    rw [this, List.length_cons]; omega
theorem row_cells {w : World} {g n c : Nat} {M : List (Nm × Nat)} (h : RowN w (.slice (some ⟨g, 0, none⟩) n c) M) (W : World) (hW : W.heap[g]? = w.heap[g]?) (j : Nat) (u : Value) (hj : (nameCells M)[j]? = some u) : W.cell? ⟨g, j, none⟩ = some u := by
  have hl : j < (nameCells M).length := (List.getElem?_eq_some_iff.1 hj).1
  rw [cells_length] at hl
  have ha : j / 2 < M.length := by omega
  obtain ⟨g', off, hp, -, hc⟩ := h.at ha
  obtain ⟨rfl, rfl⟩ : g' = g ∧ off = 0 := by injection hp with hp; injection hp with h1 h2; exact ⟨h1.symm, h2.symm⟩
  obtain ⟨c0, c1⟩ := hc W hW
  obtain ⟨d0, d1⟩ := nameCells_get M (j / 2) ha
  rw [Nat.zero_add] at c0 c1
  rcases Nat.mod_two_eq_zero_or_one j with hm | hm
  · have e : j / 2 * 2 = j := by omega
    rw [e] at c0 d0
    rw [c0, ← d0, hj]
  · have e : j / 2 * 2 + 1 = j := by omega
    rw [e] at c1 d1
    rw [c1, ← d1, hj]
theorem cells_app (A B : List (Nm × Nat)) : nameCells (A ++ B) = nameCells A ++ nameCells B := by simp [nameCells]
theorem take_cells {M : List (Nm × Nat)} {k j : Nat} {u : Value} (h : (nameCells (M.take k))[j]? = some u) : (nameCells M)[j]? = some u := by
  rw [← List.take_append_drop k M, cells_app, List.getElem?_append_left (List.getElem?_eq_some_iff.1 h).1, h]
theorem drop_cells {M : List (Nm × Nat)} {k j : Nat} {u : Value} (hk : k ≤ M.length) (h : (nameCells (M.drop k))[j]? = some u) : (nameCells M)[k * 2 + j]? = some u := by
  have hl : (nameCells (M.take k)).length = k * 2 := by rw [cells_length]; simp; omega
  have e : nameCells M = nameCells (M.take k) ++ nameCells (M.drop k) := by rw [← cells_app, List.take_append_drop]
  rw [e, List.getElem?_append_right (by omega), hl, show k * 2 + j - k * 2 = j by omega, h]
set_option maxHeartbeats 2000000 in
set_option maxRecDepth 100000 in
theorem with_any (L : List (Nm × Nat)) (v : Value) (s : ByteArray) (i : Nat) (w : World) (h : RowN w v L) (hl : L.length ≤ 1099511627776) :
    Calls Try.prog 46 #[v, .string s, .int .i64 i] w fun e w' => ∃ u, e = .returned u ∧ WithoutR w (nmPut L s i) u w' := by
  have hform : ∃ q c, v = .slice q L.length c := by
    rcases h with ⟨rfl, p, c, rfl⟩ | ⟨g, off, c, rfl, _⟩ <;> exact ⟨_, _, rfl⟩
  have HWO := Lib.hid (without_any L v s w h hl)
  have hM : (nmDel L s).length ≤ 1099511627776 := Nat.le_trans (length_nmDel_le L s) hl
  obtain ⟨q, c, rfl⟩ := hform
  have HPU : Hid (∀ A B, (nmDel L s).takeWhile (fun p => ltN p.1 s) = A → (nmDel L s).dropWhile (fun p => ltN p.1 s) = B → nmPut L s i = (A ++ [(s, i)]) ++ B) := Lib.hid (fun A B h1 h2 => by unfold nmPut; rw [h1, h2]; simp)
  generalize nmDel L s = M at *
  generalize nmPut L s i = R at *
  generalize L.length = nL at *
  clear h
  go_enter Try.func46, Try.ntmps46
  go_wp2_with fail
  refine HWO.out.mono ?_
  clear HWO
  rintro e w1 ⟨u0, rfl, hown, hbel⟩
  have HR := Lib.hid (row_names hown)
  have HB := Lib.hid hbel
  have HM := Lib.hid hM
  rcases hown with ⟨-, ⟨rfl, h0⟩ | ⟨g, cap, cur, rfl, hbg, hgc, hcap, hmax, -⟩⟩
  · obtain rfl : M = [] := List.eq_nil_of_length_eq_zero h0
    clear h0 hbel hM hl
    obtain ⟨v1, W1, run1, own1, gr1⟩ := append_rows (base := w1.heap.size) (w := w1) (v := .slice none 0 0) (A := []) (B := []) (q := none) (c := 0) (World.ownsRow_nil w1 _ _ _) (.inl ⟨rfl, rfl⟩) (by simp) (Nat.le_refl _)
    have own1' : (W1.alloc (.cells #[.string s, .int .i64 i] 96)).ownsRow w1.heap.size 96 2 v1 ([] ++ [] : List (Nm × Nat)).length (nameCells ([] ++ [])) := own1.alloc _
    have hwg : w1.heap.size ≤ W1.heap.size := gr1.size
    obtain ⟨v2, W2, run2, own2, gr2⟩ := append_rows (base := w1.heap.size) (A := [] ++ []) (B := [(s, i)]) (q := some ⟨W1.heap.size, 0, none⟩) (c := 1) own1' (.inr ⟨_, rfl, fun j u hu => by
      match j, hu with
      | 0, hu => simp [nameCells] at hu; subst hu; simp [Addr.add]
      | 1, hu => simp [nameCells] at hu; subst hu; simp [Addr.add]⟩) (by simp) (by simp; omega)
    obtain ⟨v3, W3, run3, own3, gr3⟩ := append_rows (base := w1.heap.size) (A := [] ++ [] ++ [(s, i)]) (B := []) (q := none) (c := 0) own2 (.inl ⟨rfl, rfl⟩) (by simp) (by have := gr2.size; simp at this; omega)
    have b1 : Below w1.heap.size w1 W1 := (Below.refl _ _).grown gr1 (Nat.le_refl _) (fun k hk => by cases hk)
    have b1' := b1.alloc b1.size (.cells #[.string s, .int .i64 i] 96)
    have b2 := b1'.grown gr2 b1'.size (fun g hg => (own1.lt g hg).1)
    have b3 := b2.grown gr3 b2.size (fun g hg => (own2.lt g hg).1)
    have HF : Hid (WithoutR w R v3 W3) := Lib.hid (by
      have e := HPU.out [] [] rfl rfl
      rw [e]
      exact ⟨ownsRow_base own3 HB.out.size, HB.out.trans (b3.mono HB.out.size)⟩)
    clear b1 b1' b2 b3 own1 own1' own2 own3 gr1 gr2 gr3 hwg
    go_wp2_with fail
    go_loopw [7] (fun j wr => j = .int .i64 0 ∧ wr = w1) (fun _ _ => 0)
    case atStart => exact ⟨rfl, rfl⟩
    case round =>
      obtain ⟨rfl, hwr⟩ := hrel
      subst hwr
      go_wp2_with (first
        | (at_builtin; refine wpList_append_run (by rfl) _ _ _ _ (by rfl) _ _ v1 W1 (by rfl) (by rfl) run1 ?_)
        | (at_builtin; refine wpList_append_run (by rfl) _ _ _ _ (by rfl) _ _ v2 W2 (by rfl) (by rfl) run2 ?_)
        | (at_builtin; refine wpList_append_run (by rfl) _ _ _ _ (by rfl) _ _ v3 W3 (by rfl) (by rfl) run3 ?_))
      go_ret
      exact ⟨_, rfl, HF.out⟩
  · have hg : g < w1.heap.size := (Array.getElem?_eq_some_iff.1 hgc).1
    have HG := Lib.hid hg
    have HBG := Lib.hid hbg
    have HCAP := Lib.hid hcap
    have HMAX := Lib.hid hmax
    clear hgc hbg hbel hM hl hcap hmax hg
    go_wp2_with fail
    obtain ⟨w2, hw2⟩ : ∃ w2 : World, w2 = w1 := ⟨_, rfl⟩
    have HW2 := Lib.hid hw2
    clear hw2
    go_loopw [7] (fun j wr => ∃ k : Nat, k ≤ M.length ∧ j = .int .i64 k ∧ (M.take k).all (fun p => ltN p.1 s) = true ∧ wr = w1) (fun j _ => M.length - (intOf j).toNat)
    case atStart => exact ⟨0, Nat.zero_le _, rfl, by simp, rfl⟩
    case round =>
      obtain ⟨k, hk, rfl, hall, hwr⟩ := hrel
      subst hwr
      have hcase : (∃ h : k < M.length, ltN (M[k]).1 s = true) ∨ (∃ h : k < M.length, ltN (M[k]).1 s = false) ∨ k = M.length := by
        by_cases hlt : k < M.length
        · cases hb : ltN (M[k]).1 s with
          | true => exact .inl ⟨hlt, hb⟩
          | false => exact .inr (.inl ⟨hlt, hb⟩)
        · exact .inr (.inr (by omega))
      rcases hcase with ⟨hlt, hb⟩ | hend
      · obtain ⟨g', off, hp, -, hc⟩ := HR.out.at hlt
        obtain ⟨rfl, rfl⟩ : g' = g ∧ off = 0 := by injection hp with hp; injection hp with h1 h2; exact ⟨h1.symm, h2.symm⟩
        obtain ⟨c0, -⟩ := hc wr rfl
        rw [Nat.zero_add] at c0
        have hbb : Op.bytesLess (M[k]).1.toList s.toList = true := by rw [less_lt]; exact hb
        have HN := Lib.hid (all_more _ hlt hall hb)
        have hkb : k < 1099511627777 := by have := HM.out; omega
        clear hc hp hb hall
        generalize (M[k]).1 = n at c0 hbb
        go_wp2
        go_roundw
        case rel => exact ⟨k + 1, by omega, by go_num, HN.out, trivial⟩
        case measure => simp [intOf]; omega
      · have HT := Lib.hid (while_split (fun p => ltN p.1 s) M k hall (fun h => by
          rcases hend with ⟨_, hb⟩ | rfl
          · exact hb
          · omega) hk)
        have hend' : (∃ n : ByteArray, wr.cell? ⟨g, k * 2, none⟩ = some (.string n) ∧ Op.bytesLess n.toList s.toList = false ∧ k < M.length) ∨ k = M.length := by
          rcases hend with ⟨hlt, hb⟩ | h
          · obtain ⟨g', off, hp, -, hc⟩ := HR.out.at hlt
            obtain ⟨rfl, rfl⟩ : g' = g ∧ off = 0 := by injection hp with hp; injection hp with h1 h2; exact ⟨h1.symm, h2.symm⟩
            exact .inl ⟨_, by have := (hc wr rfl).1; rwa [Nat.zero_add] at this, by rw [less_lt]; exact hb, hlt⟩
          · exact .inr h
        clear hend hall
        have hkc : (k : Int) ≤ (cap : Int) := by have := HCAP.out; omega
        have hlen1 : (M.take k).length = k := by simp; omega
        obtain ⟨v1, W1, run1, own1, gr1⟩ := append_rows (base := wr.heap.size) (v := .slice none 0 0) (A := []) (B := M.take k) (q := some ⟨g, 0, none⟩) (c := cap) (World.ownsRow_nil wr _ _ _) (.inr ⟨_, rfl, fun j u hu => by
          have := row_cells HR.out wr rfl j u (take_cells hu)
          rw [show (⟨g, 0, none⟩ : Addr).add j = ⟨g, j, none⟩ by unfold Addr.add; simp; intro h; rw [h]]
          exact this⟩) (by have := HM.out; simp; omega) (Nat.le_refl _)
        rw [hlen1] at run1
        have hwg : wr.heap.size ≤ W1.heap.size := gr1.size
        have own1' : (W1.alloc (.cells #[.string s, .int .i64 i] 96)).ownsRow wr.heap.size 96 2 v1 ([] ++ M.take k).length (nameCells ([] ++ M.take k)) := own1.alloc _
        obtain ⟨v2, W2, run2, own2, gr2⟩ := append_rows (base := wr.heap.size) (A := [] ++ M.take k) (B := [(s, i)]) (q := some ⟨W1.heap.size, 0, none⟩) (c := 1) own1' (.inr ⟨_, rfl, fun j u hu => by
          match j, hu with
          | 0, hu => simp [nameCells] at hu; subst hu; simp [Addr.add]
          | 1, hu => simp [nameCells] at hu; subst hu; simp [Addr.add]⟩) (by have := HM.out; simp; omega) (by simp; omega)
        have hgW : W2.heap[g]? = wr.heap[g]? := by
          have hgl := HG.out
          have h1 := gr1.block g hgl (by simp [Value.ownBlock])
          have h2 := gr2.block g (by simp; omega) (fun e => by have := (own1.lt g e.symm).1; omega)
          rw [h2, heap_alloc_lt (by omega), h1]
        rcases Nat.lt_or_ge k cap with hck | hck
        · have hne : ¬ cap = k := by omega
          obtain ⟨v3, W3, run3, own3, gr3⟩ := append_rows (base := wr.heap.size) (A := [] ++ M.take k ++ [(s, i)]) (B := M.drop k) (q := some ⟨g, k * 2, none⟩) (c := cap - k) own2 (.inr ⟨_, rfl, fun j u hu => by
            have := row_cells HR.out W2 hgW (k * 2 + j) u (drop_cells hk hu)
            rw [show (⟨g, k * 2, none⟩ : Addr).add j = ⟨g, k * 2 + j, none⟩ by unfold Addr.add; split <;> simp_all]
            exact this⟩) (by have := HM.out; simp; omega) (by have := gr2.size; simp at this; omega)
          rw [List.length_drop] at run3
          have b1 : Below wr.heap.size wr W1 := (Below.refl _ _).grown gr1 (Nat.le_refl _) (fun k hk => by cases hk)
          have b1' := b1.alloc b1.size (.cells #[.string s, .int .i64 i] 96)
          have b2 := b1'.grown gr2 b1'.size (fun g hg => (own1.lt g hg).1)
          have b3 := b2.grown gr3 b2.size (fun g hg => (own2.lt g hg).1)
          have HF : Hid (WithoutR w R v3 W3) := Lib.hid (by
            have e := HPU.out _ _ HT.out.1 HT.out.2
            rw [List.nil_append] at own3
            rw [e]
            exact ⟨ownsRow_base own3 HB.out.size, HB.out.trans (b3.mono HB.out.size)⟩)
          clear b1 b1' b2 b3 own1 own1' own2 own3 gr1 gr2 gr3 hlen1 hwg hgW
          clear hck
          rcases hend' with ⟨n, c0, hbb, hlt⟩ | hke
          · go_wp2_with (first
              | (at_builtin; refine wpList_append_run (by rfl) _ _ _ _ (by rfl) _ _ v1 W1 (by rfl) (by rfl) run1 ?_)
              | (at_builtin; refine wpList_append_run (by rfl) _ _ _ _ (by rfl) _ _ v2 W2 (by rfl) (by rfl) run2 ?_)
              | (at_builtin; refine wpList_append_run (by rfl) _ _ _ _ (by rfl) _ _ v3 W3 (by rfl) (by rfl) run3 ?_))
            go_ret
            exact ⟨_, rfl, HF.out⟩
          · have hnl : ¬ (k < M.length) := by omega
            have hnk : ((k : Int) < (M.length : Int)) = False := by simp; omega
            clear hke
            go_wp2_with (first
              | (at_builtin; refine wpList_append_run (by rfl) _ _ _ _ (by rfl) _ _ v1 W1 (by rfl) (by rfl) run1 ?_)
              | (at_builtin; refine wpList_append_run (by rfl) _ _ _ _ (by rfl) _ _ v2 W2 (by rfl) (by rfl) run2 ?_)
              | (at_builtin; refine wpList_append_run (by rfl) _ _ _ _ (by rfl) _ _ v3 W3 (by rfl) (by rfl) run3 ?_))
            go_ret
            exact ⟨_, rfl, HF.out⟩
        · have hkM : k = M.length := by have := HCAP.out; omega
          obtain rfl : cap = k := by have := HCAP.out; omega
          have hdr : M.drop cap = [] := List.drop_of_length_le (by omega)
          obtain ⟨v3, W3, run3, own3, gr3⟩ := append_rows (base := wr.heap.size) (A := [] ++ M.take cap ++ [(s, i)]) (B := M.drop cap) (q := some ⟨g, 0, none⟩) (c := 0) own2 (.inr ⟨_, rfl, fun j u hu => by rw [hdr] at hu; simp [nameCells] at hu⟩) (by have := HM.out; simp; omega) (by have := gr2.size; simp at this; omega)
          rw [List.length_drop] at run3
          have b1 : Below wr.heap.size wr W1 := (Below.refl _ _).grown gr1 (Nat.le_refl _) (fun cap hk => by cases hk)
          have b1' := b1.alloc b1.size (.cells #[.string s, .int .i64 i] 96)
          have b2 := b1'.grown gr2 b1'.size (fun g hg => (own1.lt g hg).1)
          have b3 := b2.grown gr3 b2.size (fun g hg => (own2.lt g hg).1)
          have HF : Hid (WithoutR w R v3 W3) := Lib.hid (by
            have e := HPU.out _ _ HT.out.1 HT.out.2
            rw [List.nil_append] at own3
            rw [e]
            exact ⟨ownsRow_base own3 HB.out.size, HB.out.trans (b3.mono HB.out.size)⟩)
          clear b1 b1' b2 b3 own1 own1' own2 own3 gr1 gr2 gr3 hlen1 hwg hgW
          have hnk : ((cap : Int) < (M.length : Int)) = False := by simp; omega
          clear hck hend' hdr hkM
          go_wp2_with (first
            | (at_builtin; refine wpList_append_run (by rfl) _ _ _ _ (by rfl) _ _ v1 W1 (by rfl) (by rfl) run1 ?_)
            | (at_builtin; refine wpList_append_run (by rfl) _ _ _ _ (by rfl) _ _ v2 W2 (by rfl) (by rfl) run2 ?_)
            | (at_builtin; refine wpList_append_run (by rfl) _ _ _ _ (by rfl) _ _ v3 W3 (by rfl) (by rfl) run3 ?_))
          go_ret
          exact ⟨_, rfl, HF.out⟩
end Go.Proofs.Ytblhbkhehddccaa
