/- The document's own disk: its files; Read, Sync. Conditions: those that each theorem names. -/
import Derived.Test.YtblhbkhehddccaaRfOps
namespace Go.Proofs.Ytblhbkhehddccaa
set_option linter.unusedVariables false
open Go.RowKit Dk
theorem fileCells_len : ∀ fs : List FileC, (fileCells fs).length = fs.length * 2
  | [] => rfl
  | f :: r => by
    have := fileCells_len r
    show (fileCells r).length + 1 + 1 = _
    rw [this, List.length_cons]; omega
theorem fileCells_get : ∀ (fs : List FileC) (j : Nat) (f : FileC), fs[j]? = some f → (fileCells fs)[j * 2]? = some (.string ⟨f.data.toArray⟩) ∧ (fileCells fs)[j * 2 + 1]? = some (.int .i64 f.synced)
  | x :: r, 0, f, h => by simp at h; subst h; exact ⟨rfl, rfl⟩
  | x :: r, j + 1, f, h => by
    have ih := fileCells_get r j f (by simpa using h)
    have e : (j + 1) * 2 = j * 2 + 2 := by omega
    rw [e]
    exact ih
theorem fileCells_set : ∀ (fs : List FileC) (j : Nat) (f : FileC), j < fs.length → fileCells (fs.set j f) = ((fileCells fs).set (j * 2) (.string ⟨f.data.toArray⟩)).set (j * 2 + 1) (.int .i64 f.synced)
  | x :: r, 0, f, _ => rfl
  | x :: r, j + 1, f, h => by
    have ih := fileCells_set r j f (by simpa using h)
    have e : (j + 1) * 2 = j * 2 + 2 := by omega
    rw [e]
    show .string ⟨x.data.toArray⟩ :: .int .i64 x.synced :: fileCells (r.set j f) = _
    rw [ih]; rfl
/-- A cell of an own row is written. -/
theorem own_write {w : World} {base size n : Nat} {e : TypeId} {g c : Nat} {xs : List Value} (h : w.ownsRow base e size (.slice (some ⟨g, 0, none⟩) n c) n xs) (j : Nat) (hj : j < n * size) (x : Value) :
    (w.setCell ⟨g, j, none⟩ x).ownsRow base e size (.slice (some ⟨g, 0, none⟩) n c) n (xs.set j x) := by
  refine ⟨by rw [List.length_set]; exact h.1, ?_⟩
  rcases h.2 with ⟨h0, _⟩ | ⟨g2, cap, cur, he, hb, hg, h1, h2, h3, h4⟩
  · cases h0
  · injection he with e1 e2 e3
    injection e1 with e1
    injection e1 with e1
    subst e1 e3
    refine .inr ⟨g, c, cur.setIfInBounds j x, rfl, hb, heap_setCell_same w g j cur e x hg, h1, h2, by rw [Array.size_setIfInBounds]; exact h3, ?_⟩
    rw [Array.toList_setIfInBounds, List.take_set, h4]
theorem own_free {w : World} {base size n : Nat} {e : TypeId} {g c : Nat} {xs : List Value} (h : w.ownsRow base e size (.slice (some ⟨g, 0, none⟩) n c) n xs) (j : Nat) : w.frozen? ⟨g, j, none⟩ = false := by
  rcases h.2 with ⟨h0, _⟩ | ⟨g2, cap, cur, he, hb, hg, _⟩
  · cases h0
  · injection he with e1 e2 e3
    injection e1 with e1
    injection e1 with e1
    subst e1
    simp [World.frozen?, hg]
theorem own_cell {w : World} {base size n : Nat} {e : TypeId} {g c : Nat} {xs : List Value} (h : w.ownsRow base e size (.slice (some ⟨g, 0, none⟩) n c) n xs) (j : Nat) (u : Value) (hu : xs[j]? = some u) : w.cell? ⟨g, j, none⟩ = some u := by
  rcases h.2 with ⟨h0, _⟩ | ⟨g2, cap, cur, he, hb, hg, h1, h2, h3, h4⟩
  · cases h0
  · injection he with e1 e2 e3
    injection e1 with e1
    injection e1 with e1
    subst e1
    have hj : j < n * size := by rw [← h.1]; exact (List.getElem?_eq_some_iff.1 hu).1
    have e2 : cur[j]? = some u := by rw [← hu, ← h4, List.getElem?_take, if_pos hj, Array.getElem?_toList]
    simp [World.cell?, hg, e2]
section
variable {w w' : World} {B : Nat} {X : Nat → Prop} {M : RSt} {fv nv lv ov pv : Value} {cs : List Chg}
/-- The files' row. -/
theorem RfTop.row (h : RfTop w B X M fv nv lv ov pv cs) {i : Nat} {f : FileC} (hf : M.files[i]? = some f) : ∃ g c, fv = .slice (some ⟨g, 0, none⟩) M.files.length c ∧ X g ∧ g ≠ B ∧ w.cell? ⟨g, i * 2, none⟩ = some (.string ⟨f.data.toArray⟩) ∧ w.cell? ⟨g, i * 2 + 1, none⟩ = some (.int .i64 f.synced) ∧
    w.frozen? ⟨g, i * 2, none⟩ = false ∧ w.frozen? ⟨g, i * 2 + 1, none⟩ = false := by
  have hl : i < M.files.length := (List.getElem?_eq_some_iff.1 hf).1
  rcases h.files.2 with ⟨_, h0⟩ | ⟨g, cap, cur, he, hb, hg, h1, h2, h3, h4⟩
  · omega
  · have ho := h.own g (by rw [he]; rfl)
    have hfl := h.files
    rw [he] at hfl
    obtain ⟨c0, c1⟩ := fileCells_get M.files i f hf
    exact ⟨g, cap, he, ho.1, ho.2, own_cell hfl _ _ c0, own_cell hfl _ _ c1, own_free hfl _, own_free hfl _⟩
/-- The files' row turns, all else stays. -/
theorem RfTop.refile (h : RfTop w B X M fv nv lv ov pv cs) (fs : List FileC) (hs : w.heap.size ≤ w'.heap.size) (hb : ∀ b, fv.ownBlock ≠ some b → w'.heap[b]? = w.heap[b]?) (hf : w'.ownsRow 0 83 2 fv fs.length (fileCells fs)) :
    RfTop w' B X { M with files := fs } fv nv lv ov pv cs where
  box := (hb B (fun e => (h.own B e).2 rfl)).trans h.box
  files := hf
  now := h.now.kept (fun g hg => hb g (h.apart nv (.inl rfl) g hg).2.2) hs
  last := h.last.kept (fun g hg => hb g (h.apart lv (.inr (.inl rfl)) g hg).2.2) hs
  opn := h.opn.kept (fun g hg => hb g (h.apart ov (.inr (.inr (.inl rfl))) g hg).2.2) hs
  sets := h.sets
  flt := h.flt.kept (fun g hg => hb g (h.apart pv (.inr (.inr (.inr rfl))) g hg).2.2) hs
  apart := h.apart
  own := h.own
  here := h.here
  lt := fun b hx => Nat.lt_of_lt_of_le (h.lt b hx) hs
/-- One file's mark of what is synced. -/
theorem RfTop.setSynced (h : RfTop w B X M fv nv lv ov pv cs) {i : Nat} {f : FileC} (hf : M.files[i]? = some f) {g c : Nat} (he : fv = .slice (some ⟨g, 0, none⟩) M.files.length c) (k : Nat) :
    RfTop (w.setCell ⟨g, i * 2 + 1, none⟩ (.int .i64 k)) B X { M with files := M.files.set i { f with synced := k } } fv nv lv ov pv cs := by
  have hl : i < M.files.length := (List.getElem?_eq_some_iff.1 hf).1
  refine h.refile _ (by simp [World.setCell]) (fun b hb => heap_setCell_other _ _ _ _ (by rintro rfl; exact hb (by rw [he]; rfl))) ?_
  have ho := h.files
  rw [he] at ho ⊢
  have h2 := own_write ho (i * 2 + 1) (by omega) (.int .i64 k)
  rw [List.length_set, fileCells_set _ _ _ hl]
  have e0 : ((fileCells M.files).set (i * 2) (.string ⟨f.data.toArray⟩)) = fileCells M.files := by
    have := (fileCells_get M.files i f hf).1
    apply List.ext_getElem?
    intro j
    by_cases hj : j = i * 2
    · subst hj
      rw [List.getElem?_set_self (by rw [fileCells_len]; omega), this]
    · rw [List.getElem?_set_ne (Ne.symm hj)]
  show World.ownsRow _ _ _ _ _ _ (((fileCells M.files).set (i * 2) (.string ⟨f.data.toArray⟩)).set (i * 2 + 1) (.int .i64 k))
  rw [e0]
  exact h2
/-- One file's bytes. -/
theorem RfTop.setBytes (h : RfTop w B X M fv nv lv ov pv cs) {i : Nat} {f : FileC} (hf : M.files[i]? = some f) {g c : Nat} (he : fv = .slice (some ⟨g, 0, none⟩) M.files.length c) (d : List UInt8) :
    RfTop (w.setCell ⟨g, i * 2, none⟩ (.string ⟨d.toArray⟩)) B X { M with files := M.files.set i { f with data := d } } fv nv lv ov pv cs := by
  have hl : i < M.files.length := (List.getElem?_eq_some_iff.1 hf).1
  refine h.refile _ (by simp [World.setCell]) (fun b hb => heap_setCell_other _ _ _ _ (by rintro rfl; exact hb (by rw [he]; rfl))) ?_
  have ho := h.files
  rw [he] at ho ⊢
  have h2 := own_write ho (i * 2) (by omega) (.string ⟨d.toArray⟩)
  rw [List.length_set, fileCells_set _ _ _ hl]
  have e0 : ((fileCells M.files).set (i * 2) (.string ⟨d.toArray⟩)).set (i * 2 + 1) (.int .i64 f.synced) = (fileCells M.files).set (i * 2) (.string ⟨d.toArray⟩) := by
    have := (fileCells_get M.files i f hf).2
    apply List.ext_getElem?
    intro j
    by_cases hj : j = i * 2 + 1
    · subst hj
      rw [List.getElem?_set_self (by rw [List.length_set, fileCells_len]; omega), List.getElem?_set_ne (by omega), this]
    · rw [List.getElem?_set_ne (Ne.symm hj)]
  show World.ownsRow _ _ _ _ _ _ (((fileCells M.files).set (i * 2) (.string ⟨d.toArray⟩)).set (i * 2 + 1) (.int .i64 f.synced))
  rw [e0]
  exact h2
end
/-- Every name's file is there. -/
def Filed (M : RSt) (s : Nm) : Prop := ∀ i, nmGet M.now s = some i → ∃ f, M.files[i]? = some f
def readR (M : RSt) (s : Nm) : Nm := if s.toList.isEmpty then ⟨#[]⟩ else match nmGet M.now s with | none => ⟨#[]⟩ | some i => match M.files[i]? with | none => ⟨#[]⟩ | some f => ⟨f.data.toArray⟩
set_option maxHeartbeats 1000000 in
set_option maxRecDepth 100000 in
theorem rread_any (B : Nat) (X : Nat → Prop) (M : RSt) (s : ByteArray) (w : World) (h : RfAt w B X M) (hn : M.now.length ≤ maxLen) (hf : Filed M s) :
    Calls Try.prog 26 #[.pointer (some ⟨B, 0, none⟩), .string s] w fun e w' => e = .returned (.tuple #[.string (readR M s), .int .i64 (askE M s)]) ∧ w' = w := by
  have HA := Lib.hid (rasked_any B X M s w h hn)
  obtain ⟨D, hD⟩ : ∃ D, D = readR M s := ⟨_, rfl⟩
  rcases ask_ways M s with ⟨h1, h2, h3⟩ | ⟨h1, hg, -, h3, h4⟩ | ⟨i, h1, hg, -, h3, h4⟩
  · have hd : D = ⟨#[]⟩ := by rw [hD]; unfold readR; rw [if_pos h1]
    rw [h2, h3] at HA
    rw [h3, ← hD, hd]
    clear h1 h2 h3 hD hd
    go_enter Try.func26, Try.ntmps26
    go_wp2_with fail
    refine HA.out.mono ?_
    rintro e w' ⟨rfl, rfl⟩
    go_wp2_with fail
    go_ret2
    exact ⟨rfl, rfl⟩
  · have hd : D = ⟨#[]⟩ := by rw [hD]; unfold readR; rw [if_neg (by rw [h1]; simp), hg]
    rw [h3, h4] at HA
    rw [h4, ← hD, hd]
    clear h1 h3 h4 hD hd hg
    go_enter Try.func26, Try.ntmps26
    go_wp2_with fail
    refine HA.out.mono ?_
    rintro e w' ⟨rfl, rfl⟩
    go_wp2_with fail
    go_ret2
    exact ⟨rfl, rfl⟩
  · obtain ⟨f, hfi⟩ := hf i hg
    have hd : D = ⟨f.data.toArray⟩ := by rw [hD]; unfold readR; rw [if_neg (by rw [h1]; simp), hg]; simp only; rw [hfi]
    rw [h3, h4] at HA
    rw [h4, ← hD, hd]
    obtain ⟨fv, nv, lv, ov, pv, cs, ht⟩ := h
    obtain ⟨g, c, rfl, -, -, c0, -, -, -⟩ := ht.row hfi
    obtain ⟨⟨a0, -, -⟩, -, -, -⟩ := ht.cells
    have hil : (i : Int) < (M.files.length : Int) := by have := (List.getElem?_eq_some_iff.1 hfi).1; omega
    generalize M.files.length = n at *
    clear h1 h3 h4 hD hd hg hfi hf ht hn
    go_enter Try.func26, Try.ntmps26
    go_wp2_with fail
    refine HA.out.mono ?_
    rintro e w' ⟨rfl, rfl⟩
    go_wp2_with fail
    go_ret2
    exact ⟨rfl, rfl⟩
end Go.Proofs.Ytblhbkhehddccaa
