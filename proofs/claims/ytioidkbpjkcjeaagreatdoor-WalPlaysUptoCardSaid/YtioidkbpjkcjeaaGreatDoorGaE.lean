/- The document's own disk: asked, Remove, Rename, SyncNames. The document's own disk: its files; Read, Sync. The document's own disk: Sync, Cut. The document's own disk: Write. The document's own disk: Names, Plan. The document's own disk: Names. Conditions: those that each theorem names. -/
import Derived.Test.YtioidkbpjkcjeaaGreatDoorGaD
import Derived.Test.YtioidkbpjkcjeaaGreatDoorGaC
namespace Go.Proofs.YtioidkbpjkcjeaaGreatDoor
set_option linter.unusedVariables false
open Go.RowKit Dk
/-- A call of the document's disk: what it holds then; blocks of others stay. -/
def RfOp (w : World) (B : Nat) (X : Nat → Prop) (M : RSt) (w' : World) : Prop := ∃ X', RfAt w' B X' M ∧ (∀ b, X' b → X b ∨ w.heap.size ≤ b) ∧ Rk X w w'
theorem RfOp.same {w : World} {B : Nat} {X : Nat → Prop} {M : RSt} (h : RfAt w B X M) : RfOp w B X M w := ⟨X, h, fun _ h => .inl h, Rk.refl _ _⟩
theorem RfOp.then {w w1 w2 : World} {B : Nat} {X Y : Nat → Prop} {M2 : RSt} (hy : ∀ b, Y b → X b ∨ w.heap.size ≤ b) (hk : Rk X w w1) (k : RfOp w1 B Y M2 w2) : RfOp w B X M2 w2 := by
  obtain ⟨Z, h1, h2, h3⟩ := k
  exact ⟨Z, h1, fun b hb => (h2 b hb).elim (hy b) (fun h => .inr (Nat.le_trans hk.size h)), hk.trans' hy h3⟩
def askF (M : RSt) (s : Nm) : Int := if s.toList.isEmpty then -1 else match nmGet M.now s with | none => -1 | some i => i
def askE (M : RSt) (s : Nm) : Int := if s.toList.isEmpty then 1 else match nmGet M.now s with | none => 20 | some _ => 0
theorem ask_ways (M : RSt) (s : Nm) : (s.toList.isEmpty = true ∧ askF M s = -1 ∧ askE M s = 1) ∨ (s.toList.isEmpty = false ∧ nmGet M.now s = none ∧ fileNo M.now s = -1 ∧ askF M s = -1 ∧ askE M s = 20) ∨
    ∃ i : Nat, s.toList.isEmpty = false ∧ nmGet M.now s = some i ∧ fileNo M.now s = i ∧ askF M s = i ∧ askE M s = 0 := by
  cases h : s.toList.isEmpty
  · cases hg : nmGet M.now s with
    | none => right; left; unfold askF askE fileNo; simp [h, hg]
    | some i => right; right; refine ⟨i, rfl, rfl, ?_⟩; unfold askF askE fileNo; simp [h, hg]
  · left; unfold askF askE; simp [h]
set_option maxHeartbeats 1000000 in
set_option maxRecDepth 100000 in
theorem rasked_any (B : Nat) (X : Nat → Prop) (M : RSt) (s : ByteArray) (w : World) (h : RfAt w B X M) (hn : M.now.length ≤ maxLen) :
    Calls Tryz.prog 27 #[.pointer (some ⟨B, 0, none⟩), .string s] w fun e w' => e = .returned (.tuple #[.int .i64 (askF M s), .int .i64 (askE M s)]) ∧ w' = w := by
  obtain ⟨fv, nv, lv, ov, pv, cs, ht⟩ := h
  have HF := Lib.hid (rfind_any M.now nv s w ht.now hn)
  obtain ⟨p, c, rfl⟩ := ht.now.form
  obtain ⟨⟨a0, a1, a2⟩, a3, a4, a5⟩ := ht.cells
  obtain ⟨F, hF⟩ : ∃ F, F = askF M s := ⟨_, rfl⟩
  obtain ⟨E, hE⟩ : ∃ E, E = askE M s := ⟨_, rfl⟩
  obtain ⟨n, hnn⟩ : ∃ n, n = fileNo M.now s := ⟨_, rfl⟩
  have hw := ask_ways M s
  rw [← hF, ← hE, ← hnn] at hw
  rw [← hF, ← hE]
  rw [← hnn] at HF
  clear ht a0 a2 a3 a4 a5 hn hF hE hnn
  rcases hw with ⟨h1, h2, h3⟩ | ⟨h1, -, h2, h3, h4⟩ | ⟨i, h1, -, h2, h3, h4⟩
  · have H := Lib.hid (And.intro h2 h3)
    clear h2 h3
    go_enter Tryz.func27, Tryz.ntmps27
    go_wp2_with fail
    go_ret2
    rw [H.out.1, H.out.2]
    exact ⟨rfl, rfl⟩
  · have H := Lib.hid (And.intro h3 h4)
    subst h2
    clear h3 h4
    go_enter Tryz.func27, Tryz.ntmps27
    go_wp2_with fail
    refine HF.out.mono ?_
    rintro e w' ⟨rfl, rfl⟩
    go_wp2_with fail
    go_ret2
    rw [H.out.1, H.out.2]
    exact ⟨rfl, rfl⟩
  · have H := Lib.hid (And.intro h3 h4)
    subst h2
    clear h3 h4
    go_enter Tryz.func27, Tryz.ntmps27
    go_wp2_with fail
    refine HF.out.mono ?_
    rintro e w' ⟨rfl, rfl⟩
    go_wp2_with fail
    go_ret2
    rw [H.out.1, H.out.2]
    exact ⟨rfl, rfl⟩
/-! ### Remove -/
def removeR (M : RSt) (s : Nm) : Int × RSt :=
  if askE M s ≠ 0 then (askE M s, M) else if hitE M.hit ≠ 0 then (hitE M.hit, { M with made := M.made + 1 }) else (0, { M with made := M.made + 1, opn := M.opn ++ [[(s, none)]] })
/-- The bounds of a disk that a call asks. -/
structure RfOk (M : RSt) : Prop where
  low : 0 ≤ M.made
  high : M.made ≤ 4611686018427387904
  now : M.now.length ≤ 1099511627776
  opn : M.opn.length ≤ 1099511627776
  flt : M.faults.length ≤ maxLen
theorem RfTop.len {w : World} {B : Nat} {X : Nat → Prop} {M : RSt} {fv nv lv ov pv : Value} {cs : List Chg} (h : RfTop w B X M fv nv lv ov pv cs) (k : RfOk M) : cs.length ≤ 1099511627776 := by
  have := k.opn; rw [h.sets, List.length_map] at this; exact this
theorem rturn_op (B : Nat) (X : Nat → Prop) (M : RSt) (c : Chg) (w : World) (h : RfAt w B X M) (hn : M.now.length ≤ 1099511627776) (ho : M.opn.length ≤ 1099511627776) :
    Calls Tryz.prog 59 #[.pointer (some ⟨B, 0, none⟩), .agg #[.int .i64 c.kind, .string c.a, .string c.b, .int .i64 c.f]] w fun e w' => e = .returned (.tuple #[]) ∧ RfOp w B X { M with opn := M.opn ++ [c.sets] } w' := by
  obtain ⟨fv, nv, lv, ov, pv, cs, ht⟩ := h
  refine (rturn_any B X M c w fv nv lv ov pv cs ht hn (by have := ho; rw [ht.sets, List.length_map] at this; exact this)).mono ?_
  rintro e w' ⟨rfl, u, v2, X', h1, h2, h3⟩
  exact ⟨rfl, X', ⟨_, _, _, _, _, _, h1⟩, h2, h3⟩
theorem removeR_ways (M : RSt) (s : Nm) : (askE M s ≠ 0 ∧ removeR M s = (askE M s, M)) ∨ (askE M s = 0 ∧ hitE M.hit ≠ 0 ∧ removeR M s = (hitE M.hit, { M with made := M.made + 1 })) ∨
    (askE M s = 0 ∧ hitE M.hit = 0 ∧ removeR M s = (0, { M with made := M.made + 1, opn := M.opn ++ [[(s, none)]] })) := by
  unfold removeR
  by_cases h1 : askE M s = 0
  · by_cases h2 : hitE M.hit = 0
    · right; right; exact ⟨h1, h2, by rw [if_neg (fun c => c h1), if_neg (fun c => c h2)]⟩
    · right; left; exact ⟨h1, h2, by rw [if_neg (fun c => c h1), if_pos h2]⟩
  · left; exact ⟨h1, by rw [if_pos h1]⟩
theorem askF_some {M : RSt} {s : Nm} (h : askE M s = 0) : ∃ i : Nat, askF M s = i := by
  rcases ask_ways M s with ⟨-, -, h3⟩ | ⟨-, -, -, -, h4⟩ | ⟨i, -, -, -, h3, -⟩
  · omega
  · omega
  · exact ⟨i, h3⟩
/-! ### Rename -/
def renameR (M : RSt) (s t : Nm) : Int × RSt :=
  if t.toList.isEmpty then (1, M) else if askE M s ≠ 0 then (askE M s, M) else if hitE M.hit ≠ 0 then (hitE M.hit, { M with made := M.made + 1 }) else
    if s = t then (0, { M with made := M.made + 1 }) else (0, { M with made := M.made + 1, opn := M.opn ++ [[(s, none), (t, some (askF M s).toNat)]] })
theorem renameR_ways (M : RSt) (s t : Nm) : (t.toList.isEmpty = true ∧ renameR M s t = (1, M)) ∨ (t.toList.isEmpty = false ∧ askE M s ≠ 0 ∧ renameR M s t = (askE M s, M)) ∨
    (t.toList.isEmpty = false ∧ askE M s = 0 ∧ hitE M.hit ≠ 0 ∧ renameR M s t = (hitE M.hit, { M with made := M.made + 1 })) ∨
    (t.toList.isEmpty = false ∧ askE M s = 0 ∧ hitE M.hit = 0 ∧ (s.toList == t.toList) = true ∧ renameR M s t = (0, { M with made := M.made + 1 })) ∨
    (t.toList.isEmpty = false ∧ askE M s = 0 ∧ hitE M.hit = 0 ∧ (s.toList == t.toList) = false ∧ renameR M s t = (0, { M with made := M.made + 1, opn := M.opn ++ [[(s, none), (t, some (askF M s).toNat)]] })) := by
  unfold renameR
  cases h0 : t.toList.isEmpty
  · right
    by_cases h1 : askE M s = 0
    · right
      by_cases h2 : hitE M.hit = 0
      · right
        rw [toList_ne]
        by_cases h3 : s = t
        · left; exact ⟨rfl, h1, h2, by simp [h3], by rw [if_neg (by simp), if_neg (fun c => c h1), if_neg (fun c => c h2), if_pos h3]⟩
        · right; exact ⟨rfl, h1, h2, by simp [h3], by rw [if_neg (by simp), if_neg (fun c => c h1), if_neg (fun c => c h2), if_neg h3]⟩
      · left; exact ⟨rfl, h1, h2, by rw [if_neg (by simp), if_neg (fun c => c h1), if_pos h2]⟩
    · left; exact ⟨rfl, h1, by rw [if_neg (by simp), if_pos h1]⟩
  · left; exact ⟨rfl, by rw [if_pos rfl]⟩
/-! ### SyncNames -/
def syncNamesR (M : RSt) : Int × RSt := if hitE M.hit ≠ 0 then (hitE M.hit, { M with made := M.made + 1 }) else (0, { M with made := M.made + 1, last := M.now, opn := [] })
theorem sync_top {w : World} {B : Nat} {X : Nat → Prop} {M : RSt} {fv nv lv ov pv : Value} {cs : List Chg} (h : RfTop w B X M fv nv lv ov pv cs) :
    RfTop ((w.setCell ⟨B, 2, none⟩ nv).setCell ⟨B, 3, none⟩ (.slice none 0 0)) B X { M with last := M.now, opn := [] } fv nv nv (.slice none 0 0) pv [] := by
  have hsz : ∀ (W : World) a v, (W.setCell a v).heap.size = W.heap.size := fun W a v => by simp [World.setCell]
  have ho : ∀ b, b ≠ B → ((w.setCell ⟨B, 2, none⟩ nv).setCell ⟨B, 3, none⟩ (.slice none 0 0)).heap[b]? = w.heap[b]? := fun b hb => by rw [heap_setCell_other _ _ _ _ hb, heap_setCell_other _ _ _ _ hb]
  have hs : w.heap.size ≤ ((w.setCell ⟨B, 2, none⟩ nv).setCell ⟨B, 3, none⟩ (.slice none 0 0)).heap.size := by rw [hsz, hsz]; exact Nat.le_refl _
  have b1 : (w.setCell ⟨B, 2, none⟩ nv).heap[B]? = some (.cells #[fv, nv, nv, ov, pv, .int .i64 M.made] 32 (0, 0)) := by simp [World.setCell, h.box, Array.getElem?_modify]
  have hnow := h.now.kept (fun g hg => ho g (h.apart nv (.inl rfl) g hg).2.1) hs
  refine ⟨?_, ownsRow_same h.files fun g hg => ho g (h.own g hg).2, hnow, hnow, .inl ⟨rfl, none, 0, rfl⟩, rfl, h.flt.kept (fun g hg => ho g (h.apart pv (.inr (.inr (.inr rfl))) g hg).2.1) hs, ?_, h.own, h.here, fun b hb => by rw [hsz, hsz]; exact h.lt b hb⟩
  · exact heap_setCell_same _ B 3 _ _ (.slice none 0 0) b1
  · intro v hv g hg
    rcases hv with rfl | rfl | rfl | rfl
    · exact h.apart _ (.inl rfl) g hg
    · exact h.apart _ (.inl rfl) g hg
    · cases hg
    · exact h.apart _ (.inr (.inr (.inr rfl))) g hg
set_option maxHeartbeats 1000000 in
set_option maxRecDepth 100000 in
theorem rsyncNames_any (B : Nat) (X : Nat → Prop) (M : RSt) (w : World) (h : RfAt w B X M) (hk : RfOk M) :
    Calls Tryz.prog 36 #[.pointer (some ⟨B, 0, none⟩)] w fun e w' => e = .returned (.int .i64 (syncNamesR M).1) ∧ RfOp w B X (syncNamesR M).2 w' := by
  have HS := Lib.hid (rstep_any B X M w h hk.low hk.high hk.flt)
  by_cases h1 : hitE M.hit = 0
  · have e : syncNamesR M = (0, { M with made := M.made + 1, last := M.now, opn := [] }) := by unfold syncNamesR; rw [if_neg (fun c => c h1)]
    rw [e]
    rw [h1] at HS
    generalize hitN M.hit = N at *
    clear h1 e hk h
    go_enter Tryz.func36, Tryz.ntmps36
    go_wp2_with fail
    refine HS.out.mono ?_
    rintro e w2 ⟨rfl, ⟨fv, nv, lv, ov, pv, cs, ht⟩, k2⟩
    obtain ⟨⟨a0, a1, a2⟩, a3, a4, a5⟩ := ht.cells
    have f2 := ht.free 2
    have f3 := ht.free 3
    obtain ⟨p, c, rfl⟩ := ht.now.form
    have HF := Lib.hid (show RfOp w B X { M with made := M.made + 1, last := M.now, opn := [] } ((w2.setCell ⟨B, 2, none⟩ (.slice p (RSt.now { M with made := M.made + 1 }).length c)).setCell ⟨B, 3, none⟩ (.slice none 0 0)) from ⟨X, ⟨_, _, _, _, _, _, sync_top ht⟩, fun _ h => .inl h, (k2.set (.inl ht.here)).set (.inl ht.here)⟩)
    clear ht k2 a0 a4 a5
    go_wp2_with fail
    go_ret
    exact ⟨rfl, HF.out⟩
  · have e : syncNamesR M = (hitE M.hit, { M with made := M.made + 1 }) := by unfold syncNamesR; rw [if_pos h1]
    rw [e]
    generalize hitE M.hit = E at *
    generalize hitN M.hit = N at *
    have h1' : (E == 0) = false := by simp [h1]
    clear h1 e hk h
    go_enter Tryz.func36, Tryz.ntmps36
    go_wp2_with fail
    refine HS.out.mono ?_
    rintro e w2 ⟨rfl, k1, k2⟩
    have HF : Hid (RfOp w B X { M with made := M.made + 1 } w2) := Lib.hid ⟨X, k1, fun _ h => .inl h, k2⟩
    clear k1 k2
    go_wp2_with fail
    go_ret
    exact ⟨rfl, HF.out⟩
end Go.Proofs.YtioidkbpjkcjeaaGreatDoor
namespace Go.Proofs.YtioidkbpjkcjeaaGreatDoor
set_option linter.unusedVariables false
open Go.RowKit Dk
theorem fileCells_len : ∀ fs : List FileC, (fileCells fs).length = fs.length * 2
  | [] => rfl
  | f :: r => by
    have := fileCells_len r
    show (fileCells r).length + 1 + 1 = _
    rw [this, List.length_cons]; omega
theorem fileCells_get : ∀ (fs : List FileC) (j : Nat) (f : FileC), fs[j]? = some f → (fileCells fs)[j * 2]? = some (.string ⟨f.data.toArray⟩) ∧ (fileCells fs)[j * 2 + 1]? = some (.int .i64 f.synced)
  | x :: r, 0, f, h => by simp at h; subst h; exact ⟨rfl, rfl⟩
  | x :: r, j + 1, f, h => by
    have ih := fileCells_get r j f (by simpa using h)
    have e : (j + 1) * 2 = j * 2 + 2 := by omega
    rw [e]
    exact ih
theorem fileCells_set : ∀ (fs : List FileC) (j : Nat) (f : FileC), j < fs.length → fileCells (fs.set j f) = ((fileCells fs).set (j * 2) (.string ⟨f.data.toArray⟩)).set (j * 2 + 1) (.int .i64 f.synced)
  | x :: r, 0, f, _ => rfl
  | x :: r, j + 1, f, h => by
    have ih := fileCells_set r j f (by simpa using h)
    have e : (j + 1) * 2 = j * 2 + 2 := by omega
    rw [e]
    show .string ⟨x.data.toArray⟩ :: .int .i64 x.synced :: fileCells (r.set j f) = _
    rw [ih]; rfl
/-- A cell of an own row is written. -/
theorem own_write {w : World} {base size n : Nat} {e : TypeId} {g c : Nat} {xs : List Value} (h : w.ownsRow base e size (.slice (some ⟨g, 0, none⟩) n c) n xs) (j : Nat) (hj : j < n * size) (x : Value) :
    (w.setCell ⟨g, j, none⟩ x).ownsRow base e size (.slice (some ⟨g, 0, none⟩) n c) n (xs.set j x) := by
  refine ⟨by rw [List.length_set]; exact h.1, ?_⟩
  rcases h.2 with ⟨h0, _⟩ | ⟨g2, cap, cur, he, hb, hg, h1, h2, h3, h4⟩
  · cases h0
  · injection he with e1 e2 e3
    injection e1 with e1
    injection e1 with e1
    subst e1 e3
    refine .inr ⟨g, c, cur.setIfInBounds j x, rfl, hb, heap_setCell_same w g j cur e x hg, h1, h2, by rw [Array.size_setIfInBounds]; exact h3, ?_⟩
    rw [Array.toList_setIfInBounds, List.take_set, h4]
theorem own_free {w : World} {base size n : Nat} {e : TypeId} {g c : Nat} {xs : List Value} (h : w.ownsRow base e size (.slice (some ⟨g, 0, none⟩) n c) n xs) (j : Nat) : w.frozen? ⟨g, j, none⟩ = false := by
  rcases h.2 with ⟨h0, _⟩ | ⟨g2, cap, cur, he, hb, hg, _⟩
  · cases h0
  · injection he with e1 e2 e3
    injection e1 with e1
    injection e1 with e1
    subst e1
    simp [World.frozen?, hg]
theorem rf_cell {w : World} {base size n : Nat} {e : TypeId} {g c : Nat} {xs : List Value} (h : w.ownsRow base e size (.slice (some ⟨g, 0, none⟩) n c) n xs) (j : Nat) (u : Value) (hu : xs[j]? = some u) : w.cell? ⟨g, j, none⟩ = some u := by
  rcases h.2 with ⟨h0, _⟩ | ⟨g2, cap, cur, he, hb, hg, h1, h2, h3, h4⟩
  · cases h0
  · injection he with e1 e2 e3
    injection e1 with e1
    injection e1 with e1
    subst e1
    have hj : j < n * size := by rw [← h.1]; exact (List.getElem?_eq_some_iff.1 hu).1
    have e2 : cur[j]? = some u := by rw [← hu, ← h4, List.getElem?_take, if_pos hj, Array.getElem?_toList]
    simp [World.cell?, hg, e2]
section
variable {w w' : World} {B : Nat} {X : Nat → Prop} {M : RSt} {fv nv lv ov pv : Value} {cs : List Chg}
/-- The files' row. -/
theorem RfTop.row (h : RfTop w B X M fv nv lv ov pv cs) {i : Nat} {f : FileC} (hf : M.files[i]? = some f) : ∃ g c, fv = .slice (some ⟨g, 0, none⟩) M.files.length c ∧ X g ∧ g ≠ B ∧ w.cell? ⟨g, i * 2, none⟩ = some (.string ⟨f.data.toArray⟩) ∧ w.cell? ⟨g, i * 2 + 1, none⟩ = some (.int .i64 f.synced) ∧
    w.frozen? ⟨g, i * 2, none⟩ = false ∧ w.frozen? ⟨g, i * 2 + 1, none⟩ = false := by
  have hl : i < M.files.length := (List.getElem?_eq_some_iff.1 hf).1
  rcases h.files.2 with ⟨_, h0⟩ | ⟨g, cap, cur, he, hb, hg, h1, h2, h3, h4⟩
  · omega
  · have ho := h.own g (by rw [he]; rfl)
    have hfl := h.files
    rw [he] at hfl
    obtain ⟨c0, c1⟩ := fileCells_get M.files i f hf
    exact ⟨g, cap, he, ho.1, ho.2, rf_cell hfl _ _ c0, rf_cell hfl _ _ c1, own_free hfl _, own_free hfl _⟩
/-- The files' row turns, all else stays. -/
theorem RfTop.refile (h : RfTop w B X M fv nv lv ov pv cs) (fs : List FileC) (hs : w.heap.size ≤ w'.heap.size) (hb : ∀ b, fv.ownBlock ≠ some b → w'.heap[b]? = w.heap[b]?) (hf : w'.ownsRow 0 86 2 fv fs.length (fileCells fs)) :
    RfTop w' B X { M with files := fs } fv nv lv ov pv cs where
  box := (hb B (fun e => (h.own B e).2 rfl)).trans h.box
  files := hf
  now := h.now.kept (fun g hg => hb g (h.apart nv (.inl rfl) g hg).2.2) hs
  last := h.last.kept (fun g hg => hb g (h.apart lv (.inr (.inl rfl)) g hg).2.2) hs
  opn := h.opn.kept (fun g hg => hb g (h.apart ov (.inr (.inr (.inl rfl))) g hg).2.2) hs
  sets := h.sets
  flt := h.flt.kept (fun g hg => hb g (h.apart pv (.inr (.inr (.inr rfl))) g hg).2.2) hs
  apart := h.apart
  own := h.own
  here := h.here
  lt := fun b hx => Nat.lt_of_lt_of_le (h.lt b hx) hs
/-- One file's mark of what is synced. -/
theorem RfTop.setSynced (h : RfTop w B X M fv nv lv ov pv cs) {i : Nat} {f : FileC} (hf : M.files[i]? = some f) {g c : Nat} (he : fv = .slice (some ⟨g, 0, none⟩) M.files.length c) (k : Nat) :
    RfTop (w.setCell ⟨g, i * 2 + 1, none⟩ (.int .i64 k)) B X { M with files := M.files.set i { f with synced := k } } fv nv lv ov pv cs := by
  have hl : i < M.files.length := (List.getElem?_eq_some_iff.1 hf).1
  refine h.refile _ (by simp [World.setCell]) (fun b hb => heap_setCell_other _ _ _ _ (by rintro rfl; exact hb (by rw [he]; rfl))) ?_
  have ho := h.files
  rw [he] at ho ⊢
  have h2 := own_write ho (i * 2 + 1) (by omega) (.int .i64 k)
  rw [List.length_set, fileCells_set _ _ _ hl]
  have e0 : ((fileCells M.files).set (i * 2) (.string ⟨f.data.toArray⟩)) = fileCells M.files := by
    have := (fileCells_get M.files i f hf).1
    apply List.ext_getElem?
    intro j
    by_cases hj : j = i * 2
    · subst hj
      rw [List.getElem?_set_self (by rw [fileCells_len]; omega), this]
    · rw [List.getElem?_set_ne (Ne.symm hj)]
  show World.ownsRow _ _ _ _ _ _ (((fileCells M.files).set (i * 2) (.string ⟨f.data.toArray⟩)).set (i * 2 + 1) (.int .i64 k))
  rw [e0]
  exact h2
/-- One file's bytes. -/
theorem RfTop.setBytes (h : RfTop w B X M fv nv lv ov pv cs) {i : Nat} {f : FileC} (hf : M.files[i]? = some f) {g c : Nat} (he : fv = .slice (some ⟨g, 0, none⟩) M.files.length c) (d : List UInt8) :
    RfTop (w.setCell ⟨g, i * 2, none⟩ (.string ⟨d.toArray⟩)) B X { M with files := M.files.set i { f with data := d } } fv nv lv ov pv cs := by
  have hl : i < M.files.length := (List.getElem?_eq_some_iff.1 hf).1
  refine h.refile _ (by simp [World.setCell]) (fun b hb => heap_setCell_other _ _ _ _ (by rintro rfl; exact hb (by rw [he]; rfl))) ?_
  have ho := h.files
  rw [he] at ho ⊢
  have h2 := own_write ho (i * 2) (by omega) (.string ⟨d.toArray⟩)
  rw [List.length_set, fileCells_set _ _ _ hl]
  have e0 : ((fileCells M.files).set (i * 2) (.string ⟨d.toArray⟩)).set (i * 2 + 1) (.int .i64 f.synced) = (fileCells M.files).set (i * 2) (.string ⟨d.toArray⟩) := by
    have := (fileCells_get M.files i f hf).2
    apply List.ext_getElem?
    intro j
    by_cases hj : j = i * 2 + 1
    · subst hj
      rw [List.getElem?_set_self (by rw [List.length_set, fileCells_len]; omega), List.getElem?_set_ne (by omega), this]
    · rw [List.getElem?_set_ne (Ne.symm hj)]
  show World.ownsRow _ _ _ _ _ _ (((fileCells M.files).set (i * 2) (.string ⟨d.toArray⟩)).set (i * 2 + 1) (.int .i64 f.synced))
  rw [e0]
  exact h2
end
/-- Every name's file is there. -/
def Filed (M : RSt) (s : Nm) : Prop := ∀ i, nmGet M.now s = some i → ∃ f, M.files[i]? = some f
def readR (M : RSt) (s : Nm) : Nm := if s.toList.isEmpty then ⟨#[]⟩ else match nmGet M.now s with | none => ⟨#[]⟩ | some i => match M.files[i]? with | none => ⟨#[]⟩ | some f => ⟨f.data.toArray⟩
set_option maxHeartbeats 1000000 in
set_option maxRecDepth 100000 in
theorem rread_any (B : Nat) (X : Nat → Prop) (M : RSt) (s : ByteArray) (w : World) (h : RfAt w B X M) (hn : M.now.length ≤ maxLen) (hf : Filed M s) :
    Calls Tryz.prog 9 #[.pointer (some ⟨B, 0, none⟩), .string s] w fun e w' => e = .returned (.tuple #[.string (readR M s), .int .i64 (askE M s)]) ∧ w' = w := by
  have HA := Lib.hid (rasked_any B X M s w h hn)
  obtain ⟨D, hD⟩ : ∃ D, D = readR M s := ⟨_, rfl⟩
  rcases ask_ways M s with ⟨h1, h2, h3⟩ | ⟨h1, hg, -, h3, h4⟩ | ⟨i, h1, hg, -, h3, h4⟩
  · have hd : D = ⟨#[]⟩ := by rw [hD]; unfold readR; rw [if_pos h1]
    rw [h2, h3] at HA
    rw [h3, ← hD, hd]
    clear h1 h2 h3 hD hd
    go_enter Tryz.func9, Tryz.ntmps9
    go_wp2_with fail
    refine HA.out.mono ?_
    rintro e w' ⟨rfl, rfl⟩
    go_wp2_with fail
    go_ret2
    exact ⟨rfl, rfl⟩
  · have hd : D = ⟨#[]⟩ := by rw [hD]; unfold readR; rw [if_neg (by rw [h1]; simp), hg]
    rw [h3, h4] at HA
    rw [h4, ← hD, hd]
    clear h1 h3 h4 hD hd hg
    go_enter Tryz.func9, Tryz.ntmps9
    go_wp2_with fail
    refine HA.out.mono ?_
    rintro e w' ⟨rfl, rfl⟩
    go_wp2_with fail
    go_ret2
    exact ⟨rfl, rfl⟩
  · obtain ⟨f, hfi⟩ := hf i hg
    have hd : D = ⟨f.data.toArray⟩ := by rw [hD]; unfold readR; rw [if_neg (by rw [h1]; simp), hg]; simp only; rw [hfi]
    rw [h3, h4] at HA
    rw [h4, ← hD, hd]
    obtain ⟨fv, nv, lv, ov, pv, cs, ht⟩ := h
    obtain ⟨g, c, rfl, -, -, c0, -, -, -⟩ := ht.row hfi
    obtain ⟨⟨a0, -, -⟩, -, -, -⟩ := ht.cells
    have hil : (i : Int) < (M.files.length : Int) := by have := (List.getElem?_eq_some_iff.1 hfi).1; omega
    generalize M.files.length = n at *
    clear h1 h3 h4 hD hd hg hfi hf ht hn
    go_enter Tryz.func9, Tryz.ntmps9
    go_wp2_with fail
    refine HA.out.mono ?_
    rintro e w' ⟨rfl, rfl⟩
    go_wp2_with fail
    go_ret2
    exact ⟨rfl, rfl⟩
end Go.Proofs.YtioidkbpjkcjeaaGreatDoor
namespace Go.Proofs.YtioidkbpjkcjeaaGreatDoor
set_option linter.unusedVariables false
open Go.RowKit Dk
def fileOf (M : RSt) (s : Nm) : FileC := ((nmGet M.now s).bind fun i => M.files[i]?).getD ⟨[], 0⟩
def placeOf (M : RSt) (s : Nm) : Nat := (nmGet M.now s).getD 0
def syncR (M : RSt) (s : Nm) : Int × RSt := if askE M s ≠ 0 then (askE M s, M) else if hitE M.hit ≠ 0 then (hitE M.hit, { M with made := M.made + 1 }) else
  (0, { M with made := M.made + 1, files := M.files.set (placeOf M s) { fileOf M s with synced := (fileOf M s).data.length } })
theorem syncR_ways (M : RSt) (s : Nm) : (askE M s ≠ 0 ∧ syncR M s = (askE M s, M)) ∨ (askE M s = 0 ∧ hitE M.hit ≠ 0 ∧ syncR M s = (hitE M.hit, { M with made := M.made + 1 })) ∨
    (askE M s = 0 ∧ hitE M.hit = 0 ∧ syncR M s = (0, { M with made := M.made + 1, files := M.files.set (placeOf M s) { fileOf M s with synced := (fileOf M s).data.length } })) := by
  unfold syncR
  by_cases h1 : askE M s = 0
  · by_cases h2 : hitE M.hit = 0
    · right; right; exact ⟨h1, h2, by rw [if_neg (fun c => c h1), if_neg (fun c => c h2)]⟩
    · right; left; exact ⟨h1, h2, by rw [if_neg (fun c => c h1), if_pos h2]⟩
  · left; exact ⟨h1, by rw [if_pos h1]⟩
theorem ask_file {M : RSt} {s : Nm} (h : askE M s = 0) (hf : Filed M s) : ∃ (i : Nat) (f : FileC), askF M s = i ∧ placeOf M s = i ∧ fileOf M s = f ∧ M.files[i]? = some f := by
  rcases ask_ways M s with ⟨-, -, h3⟩ | ⟨-, -, -, -, h4⟩ | ⟨i, -, hg, -, h3, -⟩
  · omega
  · omega
  · obtain ⟨f, hfi⟩ := hf i hg
    exact ⟨i, f, h3, by unfold placeOf; rw [hg]; rfl, by unfold fileOf; rw [hg]; simp [hfi], hfi⟩
theorem RfAt.ticked {w w' : World} {B : Nat} {X : Nat → Prop} {M : RSt} (h : RfAt w' B X M) (k : Rk X w w') : RfOp w B X M w' := ⟨X, h, fun _ h => .inl h, k⟩
set_option maxHeartbeats 1000000 in
set_option maxRecDepth 100000 in
theorem rsync_any (B : Nat) (X : Nat → Prop) (M : RSt) (s : ByteArray) (w : World) (h : RfAt w B X M) (hk : RfOk M) (hf : Filed M s) :
    Calls Tryz.prog 39 #[.pointer (some ⟨B, 0, none⟩), .string s] w fun e w' => e = .returned (.int .i64 (syncR M s).1) ∧ RfOp w B X (syncR M s).2 w' := by
  have HA := Lib.hid (rasked_any B X M s w h (by have := hk.now; unfold maxLen; omega))
  have HS := Lib.hid (rstep_any B X M w h hk.low hk.high hk.flt)
  have HO := Lib.hid (RfOp.same h)
  rcases syncR_ways M s with ⟨h1, h2⟩ | ⟨h1, h2, h3⟩ | ⟨h1, h2, h3⟩
  · rw [h2]
    generalize askF M s = F at *
    generalize askE M s = E at *
    have h1' : (E == 0) = false := by simp [h1]
    clear h1 h2 hk HS
    go_enter Tryz.func39, Tryz.ntmps39
    go_wp2_with fail
    refine HA.out.mono ?_
    rintro e w' ⟨rfl, rfl⟩
    go_wp2_with fail
    go_ret
    exact ⟨rfl, HO.out⟩
  · rw [h3]
    rw [h1] at HA
    generalize askF M s = F at *
    generalize hitE M.hit = E at *
    generalize hitN M.hit = N at *
    have h2' : (E == 0) = false := by simp [h2]
    clear h1 h2 h3 hk
    go_enter Tryz.func39, Tryz.ntmps39
    go_wp2_with fail
    refine HA.out.mono ?_
    rintro e w' ⟨rfl, rfl⟩
    go_wp2_with fail
    refine HS.out.mono ?_
    rintro e w2 ⟨rfl, k1, k2⟩
    have HF := Lib.hid (k1.ticked k2)
    clear k1 k2
    go_wp2_with fail
    go_ret
    exact ⟨rfl, HF.out⟩
  · obtain ⟨i, f, hi, hp, hfo, hfi⟩ := ask_file h1 hf
    rw [h3, hp, hfo]
    rw [h1, hi] at HA
    rw [h2] at HS
    generalize hitN M.hit = N at *
    have HFI := Lib.hid hfi
    have hil : (i : Int) < (M.files.length : Int) := by have := (List.getElem?_eq_some_iff.1 hfi).1; omega
    clear h1 h2 h3 hk hi hp hfo hfi hf h HO
    go_enter Tryz.func39, Tryz.ntmps39
    go_wp2_with fail
    refine HA.out.mono ?_
    rintro e w' ⟨rfl, rfl⟩
    go_wp2_with fail
    refine HS.out.mono ?_
    rintro e w2 ⟨rfl, ⟨fv, nv, lv, ov, pv, cs, ht⟩, k2⟩
    obtain ⟨g, c, he, hXg, hgB, c0, c1, f0, f1⟩ := ht.row (i := i) (f := f) HFI.out
    have hset := ht.setSynced (i := i) (f := f) HFI.out he f.data.length
    have HF := Lib.hid (show RfOp w' B X { M with made := M.made + 1, files := M.files.set i { f with synced := f.data.length } } (w2.setCell ⟨g, i * 2 + 1, none⟩ (.int .i64 f.data.length)).drew from
      ⟨X, RfAt.below ⟨_, _, _, _, _, _, hset⟩ (Below.refl _ _).drew, fun _ h => .inl h, (k2.set (.inl hXg)).trans (Rk.of (Below.refl _ _).drew)⟩)
    obtain ⟨⟨a0, -, -⟩, -, -, -⟩ := ht.cells
    simp only at he
    subst he
    have hsz : ((⟨f.data.toArray⟩ : ByteArray).size : Int) = (f.data.length : Int) := by show ((f.data.toArray.size : Nat) : Int) = _; simp
    generalize hbs : (⟨f.data.toArray⟩ : ByteArray) = bs at *
    generalize hfl : f.data.length = fl at *
    have HFL := Lib.hid hfl
    generalize M.files.length = n at *
    clear hbs hfl ht k2 hset hXg hgB f0
    go_wp2_with fail
    go_region
    go_wp2_with fail
    go_ret
    exact ⟨rfl, by rw [HFL.out]; exact HF.out⟩
/-! ### Cut -/
def cutR (M : RSt) (s : Nm) (k : Nat) : Int × RSt := if askE M s ≠ 0 then (askE M s, M) else if hitE M.hit ≠ 0 then (hitE M.hit, { M with made := M.made + 1 }) else
  (0, { M with made := M.made + 1, files := M.files.set (placeOf M s) ((fileOf M s).cut k) })
theorem cutR_ways (M : RSt) (s : Nm) (k : Nat) : (askE M s ≠ 0 ∧ cutR M s k = (askE M s, M)) ∨ (askE M s = 0 ∧ hitE M.hit ≠ 0 ∧ cutR M s k = (hitE M.hit, { M with made := M.made + 1 })) ∨
    (askE M s = 0 ∧ hitE M.hit = 0 ∧ cutR M s k = (0, { M with made := M.made + 1, files := M.files.set (placeOf M s) ((fileOf M s).cut k) })) := by
  unfold cutR
  by_cases h1 : askE M s = 0
  · by_cases h2 : hitE M.hit = 0
    · right; right; exact ⟨h1, h2, by rw [if_neg (fun c => c h1), if_neg (fun c => c h2)]⟩
    · right; left; exact ⟨h1, h2, by rw [if_neg (fun c => c h1), if_pos h2]⟩
  · left; exact ⟨h1, by rw [if_pos h1]⟩
theorem text_cut (d : List UInt8) (k : Nat) : (⟨d.toArray⟩ : ByteArray).extract 0 k = ⟨(d.take k).toArray⟩ := by
  apply ByteArray.ext
  rw [ByteArray.data_extract]
  show d.toArray.extract 0 k = (d.take k).toArray
  simp
set_option maxHeartbeats 2000000 in
set_option maxRecDepth 100000 in
theorem rcut_any (B : Nat) (X : Nat → Prop) (M : RSt) (s : ByteArray) (z : Int) (k : Nat) (w : World) (h : RfAt w B X M) (hk : RfOk M) (hf : Filed M s) (hz : max 0 (min z ((fileOf M s).data.length : Int)) = (k : Int)) :
    Calls Tryz.prog 38 #[.pointer (some ⟨B, 0, none⟩), .string s, .int .i64 z] w fun e w' => e = .returned (.int .i64 (cutR M s k).1) ∧ RfOp w B X (cutR M s k).2 w' := by
  have HA := Lib.hid (rasked_any B X M s w h (by have := hk.now; unfold maxLen; omega))
  have HS := Lib.hid (rstep_any B X M w h hk.low hk.high hk.flt)
  have HO := Lib.hid (RfOp.same h)
  rcases cutR_ways M s k with ⟨h1, h2⟩ | ⟨h1, h2, h3⟩ | ⟨h1, h2, h3⟩
  · rw [h2]
    generalize askF M s = F at *
    generalize askE M s = E at *
    have h1' : (E == 0) = false := by simp [h1]
    have h1'' : (E != 0) = true := by simp [h1]
    clear h1 h2 hk HS hz
    go_enter Tryz.func38, Tryz.ntmps38
    go_wp2_with fail
    refine HA.out.mono ?_
    rintro e w' ⟨rfl, rfl⟩
    go_wp2_with fail
    go_ret
    exact ⟨rfl, HO.out⟩
  · rw [h3]
    rw [h1] at HA
    generalize askF M s = F at *
    generalize hitE M.hit = E at *
    generalize hitN M.hit = N at *
    have h2' : (E != 0) = true := by simp [h2]
    clear h1 h2 h3 hk hz
    go_enter Tryz.func38, Tryz.ntmps38
    go_wp2_with fail
    refine HA.out.mono ?_
    rintro e w' ⟨rfl, rfl⟩
    go_wp2_with fail
    refine HS.out.mono ?_
    rintro e w2 ⟨rfl, k1, k2⟩
    have HF := Lib.hid (k1.ticked k2)
    clear k1 k2
    go_wp2_with fail
    go_ret
    exact ⟨rfl, HF.out⟩
  · obtain ⟨i, f, hi, hp, hfo, hfi⟩ := ask_file h1 hf
    rw [h3, hp, hfo]
    rw [hfo] at hz
    rw [h1, hi] at HA
    rw [h2] at HS
    generalize hitN M.hit = N at *
    have HFI := Lib.hid hfi
    have hil : (i : Int) < (M.files.length : Int) := by have := (List.getElem?_eq_some_iff.1 hfi).1; omega
    have hzk : min z (f.data.length : Int) ≤ (k : Int) := by omega
    have hkl : k ≤ f.data.length := by omega
    have HZ := Lib.hid hz
    clear h1 h2 h3 hk hi hp hfo hfi hf h HO hz
    go_enter Tryz.func38, Tryz.ntmps38
    go_wp2_with fail
    refine HA.out.mono ?_
    rintro e w' ⟨rfl, rfl⟩
    go_wp2_with fail
    refine HS.out.mono ?_
    rintro e w2 ⟨rfl, ⟨fv, nv, lv, ov, pv, cs, ht⟩, k2_⟩
    obtain ⟨g, c, he, hXg, hgB, c0, c1, f0, f1⟩ := ht.row (i := i) (f := f) HFI.out
    have ht2 := ht.setBytes (i := i) (f := f) HFI.out he (f.data.take k)
    obtain ⟨⟨a0, -, -⟩, -, -, -⟩ := ht.cells
    simp only at he
    subst he
    have hsz : (((⟨f.data.toArray⟩ : ByteArray).size : Nat) : Int) = (f.data.length : Int) := by show ((f.data.toArray.size : Nat) : Int) = _; simp
    have hcut := text_cut f.data k
    have hz := HZ.out
    rw [← hsz] at hz
    have hks : (k : Int) ≤ ((⟨f.data.toArray⟩ : ByteArray).size : Int) := by omega
    have hk0 : (0 : Int) ≤ (k : Int) := by omega
    have HT2 := Lib.hid ht2
    generalize hbs : (⟨f.data.toArray⟩ : ByteArray) = bs at *
    generalize hts : (⟨(f.data.take k).toArray⟩ : ByteArray) = ts at *
    have HTS := Lib.hid hts
    generalize M.files.length = n at *
    clear hbs hts ht ht2 hsz hkl hzk hgB
    go_wp2_with fail
    go_region
    have ht5 := HT2.out.below (Below.refl _ _).drew
    have hlt : i < M.files.length := (List.getElem?_eq_some_iff.1 HFI.out).1
    have hfi5 : (M.files.set i { f with data := f.data.take k })[i]? = some { f with data := f.data.take k } := List.getElem?_set_self hlt
    obtain ⟨g', c', he', hXg', -, e0, e1, q0, q1⟩ := ht5.row (i := i) (f := { f with data := f.data.take k }) hfi5
    have heq := he'
    injection heq with z1 z2 z3
    injection z1 with z1
    injection z1 with z1
    subst z1
    obtain ⟨k2, hk2⟩ : ∃ k2 : Nat, k2 = min f.synced (f.data.take k).length := ⟨_, rfl⟩
    have hset := ht5.setSynced (i := i) (f := { f with data := f.data.take k }) hfi5 he' k2
    have hmin : min (f.synced : Int) ((ts.size : Nat) : Int) = (k2 : Int) := by
      have hsz : ts.size = (f.data.take k).length := by rw [← HTS.out]; show (f.data.take k).toArray.size = _; simp
      rw [hsz, hk2]; omega
    have hfs : (M.files.set i { f with data := f.data.take k }).set i { f with data := f.data.take k, synced := k2 } = M.files.set i (f.cut k) := by
      rw [List.set_set, hk2]; rfl
    have HF : Hid (RfOp w' B X { M with made := M.made + 1, files := M.files.set i (f.cut k) } (((w2.setCell ⟨g, i * 2, none⟩ (.string ts)).drew).setCell ⟨g, i * 2 + 1, none⟩ (.int .i64 k2)).drew) := Lib.hid (by
      rw [← hfs]
      exact ⟨X, RfAt.below ⟨_, _, _, _, _, _, hset⟩ (Below.refl _ _).drew, fun _ h => .inl h, (((k2_.set (.inl hXg)).trans (Rk.of (Below.refl _ _).drew)).set (.inl hXg)).trans (Rk.of (Below.refl _ _).drew)⟩)
    simp only at e0 e1
    rw [HTS.out] at e0
    clear ht5 hfi5 he' hXg' hk2 hset hfs z2 z3 a0 c0 c1 f0 f1 q0 hlt hz hks hk0 hcut
    generalize (w2.setCell ⟨g, i * 2, none⟩ (.string ts)).drew = W5 at *
    go_wp2_with fail
    go_region
    go_wp2_with fail
    go_ret
    exact ⟨rfl, HF.out⟩
end Go.Proofs.YtioidkbpjkcjeaaGreatDoor
namespace Go.Proofs.YtioidkbpjkcjeaaGreatDoor
set_option linter.unusedVariables false
open Go.RowKit Dk
theorem infoFile : (Tryz.prog.info? 86).map (fun i => (i.zero, i.size, i.bytes)) = some (some (.agg #[.string ⟨#[]⟩, .int .i64 0]), 2, 24) := by kernel_rfl
/-- A row of files behind an own one: the source may be nil. -/
theorem append_files {w : World} {base : Nat} {v : Value} {A B : List FileC} {q : Option Addr} {c : Nat} (hown : w.ownsRow base 86 2 v A.length (fileCells A))
    (hs : (q = none ∧ B = []) ∨ ∃ ad, q = some ad ∧ ∀ j u, (fileCells B)[j]? = some u → w.cell? (ad.add j) = some u) (hb : A.length + B.length ≤ 2199023255552) (hbase : base ≤ w.heap.size) :
    ∃ v' w', (∀ ty, (Builtin.append_ #[27, 27] ty #[v, .slice q B.length c]).run Tryz.prog w = .ok v' w') ∧ w'.ownsRow base 86 2 v' (A ++ B).length (fileCells (A ++ B)) ∧ w.grownBy w' v.ownBlock ∧ (v'.ownBlock = v.ownBlock ∨ v'.ownBlock = some w.heap.size) := by
  obtain ⟨i0, hi, hz0, hz1, hz2⟩ := info_parts infoFile
  have hlen : ∀ L : List FileC, (fileCells L).length = L.length * 2 := fun L => by
    induction L with
    | nil => rfl
    | cons p r ih => show (fileCells r).length + 1 + 1 = _; rw [ih, List.length_cons]; omega
  rcases hs with ⟨rfl, rfl⟩ | ⟨ad, rfl, hc⟩
  · refine ⟨v, w, fun ty => ?_, by simpa using hown, ⟨rfl, rfl, rfl, Nat.le_refl _, fun _ _ _ => rfl⟩, .inl rfl⟩
    have ht := Tryz.underlying27
    rcases hown.2 with ⟨rfl, h0⟩ | ⟨g, cap, cur, rfl, _, hg, h1, _⟩
    · simp [Builtin.append_, run_underlying ht, sizeOf, typeInfo, hi, Builtin.lenOf, Builtin.firstCells]
    · simp [Builtin.append_, run_underlying ht, sizeOf, typeInfo, hi, Builtin.lenOf, Builtin.firstCells, storeCells, h1]
  · obtain ⟨v', w', hr, h2, h3, h4⟩ := run_append_own_at (P := Tryz.prog) w base 27 27 86 i0 _ 2 24 Tryz.underlying27 hi hz0 hz1 hz2 rfl (by decide) v A.length (fileCells A) hown ad B.length c (fileCells B) (hlen B) hc
      (fun u hu => by
        obtain ⟨p, _, hp⟩ := List.mem_flatMap.1 hu
        simp at hp
        rcases hp with rfl | rfl <;> rfl) (by unfold maxLen; omega) (by omega) hbase
    have e : fileCells (A ++ B) = fileCells A ++ fileCells B := by simp [fileCells]
    exact ⟨v', w', fun _ => hr, by rw [e, List.length_append]; exact h2, h3, h4.2⟩
/-- A file more, in memory. -/
theorem newfile_top {w W4 : World} {B : Nat} {X : Nat → Prop} {M : RSt} {fv nv lv ov pv fv' : Value} {cs : List Chg} {o : Obj} (h : RfTop w B X M fv nv lv ov pv cs) (gr : (w.alloc o).grownBy W4 fv.ownBlock) (x : FileC)
    (hown : W4.ownsRow 0 86 2 fv' (M.files ++ [x]).length (fileCells (M.files ++ [x]))) (hob : fv'.ownBlock = fv.ownBlock ∨ fv'.ownBlock = some (w.alloc o).heap.size) :
    RfTop (W4.setCell ⟨B, 0, none⟩ fv') B (fun b => X b ∨ (w.heap.size ≤ b ∧ b < W4.heap.size)) { M with files := M.files ++ [x] } fv' nv lv ov pv cs ∧ Rk X w (W4.setCell ⟨B, 0, none⟩ fv') := by
  have hsz : ∀ (W : World) a v, (W.setCell a v).heap.size = W.heap.size := fun W a v => by simp [World.setCell]
  have h4 : w.heap.size + 1 ≤ W4.heap.size := by have := gr.size; simpa using this
  have old4 : ∀ b, b < w.heap.size → fv.ownBlock ≠ some b → W4.heap[b]? = w.heap[b]? := fun b hb hne => by
    rw [gr.block b (by simp; omega) (fun e => hne e.symm)]
    exact Below.heap_alloc _ _ _ hb
  have old : ∀ b, b < w.heap.size → fv.ownBlock ≠ some b → b ≠ B → (W4.setCell ⟨B, 0, none⟩ fv').heap[b]? = w.heap[b]? := fun b hb hne hB => by
    rw [heap_setCell_other _ _ _ _ hB, old4 b hb hne]
  have hle : w.heap.size ≤ (W4.setCell ⟨B, 0, none⟩ fv').heap.size := by rw [hsz]; omega
  have hB := h.lt B h.here
  have box4 := (old4 B hB (fun e => (h.own B e).2 rfl)).trans h.box
  have kp : ∀ v, v = nv ∨ v = lv ∨ v = ov ∨ v = pv → ∀ g, v.ownBlock = some g → (W4.setCell ⟨B, 0, none⟩ fv').heap[g]? = w.heap[g]? := fun v hv g hg => by
    have := h.apart v hv g hg
    exact old g (h.lt g this.1) this.2.2 this.2.1
  have hfl := fun g (hg : fv'.ownBlock = some g) => (hown.lt g hg).2
  have hnew : ∀ g, fv'.ownBlock = some g → (X g ∧ g ≠ B ∧ fv.ownBlock = some g) ∨ (w.heap.size ≤ g ∧ g < W4.heap.size) := fun g hg => by
    rcases hob with e | e
    · rw [e] at hg
      exact .inl ⟨(h.own g hg).1, (h.own g hg).2, hg⟩
    · have hl := hfl g hg
      rw [e] at hg
      injection hg with hg
      simp at hg
      exact .inr ⟨by omega, hl⟩
  refine ⟨⟨?_, ?_, h.now.kept (kp nv (.inl rfl)) hle, h.last.kept (kp lv (.inr (.inl rfl))) hle, h.opn.kept (kp ov (.inr (.inr (.inl rfl)))) hle, h.sets, h.flt.kept (kp pv (.inr (.inr (.inr rfl)))) hle, ?_, ?_, .inl h.here, ?_⟩, ?_⟩
  · exact heap_setCell_same _ B 0 _ _ fv' box4
  · exact ownsRow_same hown fun g hg => heap_setCell_other _ _ _ _ (by
      rcases hnew g hg with k | k
      · exact k.2.1
      · show g ≠ B; omega)
  · intro v hv g hg
    have ha := h.apart v hv g hg
    refine ⟨.inl ha.1, ha.2.1, fun e => ?_⟩
    rcases hnew g e with k | k
    · exact ha.2.2 k.2.2
    · have := h.lt g ha.1; omega
  · intro g hg
    rcases hnew g hg with k | k
    · exact ⟨.inl k.1, k.2.1⟩
    · exact ⟨.inr k, by omega⟩
  · intro b hb
    rw [hsz]
    rcases hb with hb | hb
    · have := h.lt b hb; omega
    · exact hb.2
  · refine ⟨?_, ?_, ?_, hle, fun b hb hx => old b hb (fun e => hx (h.own b e).1) (fun e => hx (by rw [e]; exact h.here))⟩
    · show W4.os = w.os; exact gr.os
    · show W4.tape = w.tape; exact gr.tape
    · show W4.output = w.output; exact gr.output
def writeN (M : RSt) (t : Nm) : Int := if hitE M.hit = 0 then (t.size : Int) else hitN M.hit
def layR (M : RSt) (s : Nm) (d : List UInt8) : RSt := match nmGet M.now s with
  | some i => { M with files := M.files.set i { M.files[i]?.getD ⟨[], 0⟩ with data := (M.files[i]?.getD ⟨[], 0⟩).data ++ d } }
  | none => { M with files := M.files ++ [⟨d, 0⟩], opn := M.opn ++ [[(s, some M.files.length)]] }
def writeR (M : RSt) (s t : Nm) : Int × Int × RSt :=
  if s.toList.isEmpty then (0, 1, M) else if writeN M t < 0 then (0, hitE M.hit, { M with made := M.made + 1 }) else
    (min (writeN M t) t.size, hitE M.hit, layR { M with made := M.made + 1 } s (t.data.toList.take (min (writeN M t) t.size).toNat))
theorem text_begin (t : ByteArray) (k : Nat) : t.extract 0 k = ⟨(t.data.toList.take k).toArray⟩ := by
  apply ByteArray.ext
  rw [ByteArray.data_extract]
  apply Array.toList_inj.1
  simp
theorem text_more (a b : List UInt8) : (⟨a.toArray⟩ : ByteArray) ++ ⟨b.toArray⟩ = ⟨(a ++ b).toArray⟩ := by
  apply ByteArray.ext
  rw [ByteArray.data_append]
  simp
set_option maxHeartbeats 4000000 in
set_option maxRecDepth 100000 in
theorem rwrite_any (B : Nat) (X : Nat → Prop) (M : RSt) (s t : ByteArray) (w : World) (h : RfAt w B X M) (hk : RfOk M) (hf : Filed M s) (hnf : M.files.length ≤ 1099511627776) (hsz : ∀ (i : Nat) (f : FileC), M.files[i]? = some f → f.data.length + t.size ≤ 4611686018427387904) (hts : t.size ≤ 4611686018427387904) :
    Calls Tryz.prog 35 #[.pointer (some ⟨B, 0, none⟩), .string s, .string t] w fun e w' => e = .returned (.tuple #[.int .i64 (writeR M s t).1, .int .i64 (writeR M s t).2.1]) ∧ RfOp w B X (writeR M s t).2.2 w' := by
  have HS := Lib.hid (rstep_any B X M w h hk.low hk.high hk.flt)
  have HO := Lib.hid (RfOp.same h)
  unfold writeR
  cases h0 : s.toList.isEmpty
  · rw [if_neg (by simp)]
    by_cases h1 : writeN M t < 0
    · rw [if_pos h1]
      have he : (hitE M.hit == 0) = false := by
        unfold writeN at h1
        by_cases c : hitE M.hit = 0
        · rw [if_pos c] at h1; omega
        · simp [c]
      have hn : hitN M.hit < 0 := by
        unfold writeN at h1
        rw [if_neg (by simpa using he)] at h1; exact h1
      generalize hitE M.hit = E at *
      generalize hitN M.hit = N at *
      clear h1 hk hf hnf hsz hts
      go_enter Tryz.func35, Tryz.ntmps35
      go_wp2_with fail
      refine HS.out.mono ?_
      rintro e w2 ⟨rfl, k1, k2⟩
      have HF := Lib.hid (k1.ticked k2)
      clear k1 k2
      go_wp2_with fail
      go_ret2
      exact ⟨rfl, HF.out⟩
    · rw [if_neg h1]
      obtain ⟨k, hk1⟩ : ∃ k : Nat, min (writeN M t) t.size = (k : Int) := ⟨(min (writeN M t) t.size).toNat, by omega⟩
      rw [hk1, Int.toNat_natCast]
      have hkt : k ≤ t.size := by omega
      have hways : (hitE M.hit = 0 ∧ k = t.size) ∨ ((hitE M.hit == 0) = false ∧ ¬ hitN M.hit < 0 ∧ min (hitN M.hit) (t.size : Int) = (k : Int)) := by
        unfold writeN at h1 hk1
        by_cases c : hitE M.hit = 0
        · rw [if_pos c] at h1 hk1; exact .inl ⟨c, by omega⟩
        · rw [if_neg c] at h1 hk1; exact .inr ⟨by simp [c], h1, hk1⟩
      have HFI : Hid (∀ i : Nat, nmGet M.now s = some i → ∃ f : FileC, M.files[i]? = some f ∧ f.data.length + t.size ≤ 4611686018427387904) := Lib.hid fun i hi => by
        obtain ⟨f, hfi⟩ := hf i hi
        exact ⟨f, hfi, hsz i f hfi⟩
      have hx := text_begin t k
      obtain ⟨d, hd⟩ : ∃ d, d = t.data.toList.take k := ⟨_, rfl⟩
      rw [← hd] at hx ⊢
      have hdl : d.length = k := by
        rw [hd, List.length_take]
        have : t.data.toList.length = t.size := by rw [Array.length_toList]; rfl
        omega
      have HDL := Lib.hid hdl
      have hnow : M.now.length ≤ maxLen := by have := hk.now; unfold maxLen; omega
      have HNW := Lib.hid hnow
      have HKO := Lib.hid hk
      have hkt' : (k : Int) ≤ (t.size : Int) := by omega
      have hk0 : (0 : Int) ≤ (k : Int) := by omega
      have HKT := Lib.hid hkt
      have HNF := Lib.hid hnf
      generalize hE : hitE M.hit = E at *
      generalize hN : hitN M.hit = N at *
      clear hd hdl hnow hk hf hnf hsz h1 hE hN hkt
      have HTS := Lib.hid hts
      clear hts h HO hk1
      cases hg : nmGet M.now s with
      | some i =>
        obtain ⟨f, hfi, hfl⟩ := HFI.out i hg
        have hfn : fileNo M.now s = i := by unfold fileNo; rw [hg]
        have hlay : layR { M with made := M.made + 1 } s d = { M with made := M.made + 1, files := M.files.set i { f with data := f.data ++ d } } := by
          unfold layR
          show (match nmGet M.now s with | some i => _ | none => _) = _
          rw [hg]; simp only; rw [hfi]; rfl
        rw [hlay]
        have HFN := Lib.hid hfn
        have HFF := Lib.hid hfi
        have hil : (i : Int) < (M.files.length : Int) := by have := (List.getElem?_eq_some_iff.1 hfi).1; omega
        have hi0 : ¬ (i : Int) < 0 := by omega
        have hcat1 : f.data.length + k ≤ 4611686018427387904 := by have := HKT.out; omega
        have HC1 := Lib.hid hcat1
        clear hg hfi hfl hfn hlay hcat1 HFI
        rcases hways with ⟨rfl, hkk⟩ | ⟨he, hnn, hmin⟩
        · have hmin : min (t.size : Int) (t.size : Int) = (k : Int) := by omega
          have hts0 : ¬ (t.size : Int) < 0 := by omega
          clear hkk
          go_enter Tryz.func35, Tryz.ntmps35
          go_wp2_with fail
          refine HS.out.mono ?_
          rintro e w2 ⟨rfl, ⟨fv, nv, lv, ov, pv, cs, ht⟩, k2⟩
          have HFD := Lib.hid (rfind_any (RSt.now { M with made := M.made + 1 }) nv s w2 ht.now HNW.out)
          have hff : fileNo (RSt.now { M with made := M.made + 1 }) s = i := HFN.out
          rw [hff] at HFD
          obtain ⟨pn, cn, rfl⟩ := ht.now.form
          generalize (RSt.now { M with made := M.made + 1 }).length = nn at *
          obtain ⟨g, c, he2, hXg, hgB, c0, c1, f0, f1⟩ := ht.row (i := i) (f := f) HFF.out
          have hset := ht.setBytes (i := i) (f := f) HFF.out he2 (f.data ++ d)
          obtain ⟨⟨a0, a1, -⟩, -, -, -⟩ := ht.cells
          have HF : Hid (RfOp w B X { M with made := M.made + 1, files := M.files.set i { f with data := f.data ++ d } } (w2.setCell ⟨g, i * 2, none⟩ (.string (⟨f.data.toArray⟩ ++ ⟨d.toArray⟩))).drew) := Lib.hid (by
            rw [text_more]
            exact ⟨X, RfAt.below ⟨_, _, _, _, _, _, hset⟩ (Below.refl _ _).drew, fun _ h => .inl h, (k2.set (.inl hXg)).trans (Rk.of (Below.refl _ _).drew)⟩)
          simp only at he2
          subst he2
          have hcat2 : (⟨f.data.toArray⟩ : ByteArray).size + (⟨d.toArray⟩ : ByteArray).size ≤ 9223372036854775807 := by
            show f.data.toArray.size + d.toArray.size ≤ _
            have := HC1.out; have := HDL.out
            simp; omega
          have hcat3 : ¬ 9223372036854775807 < (⟨f.data.toArray⟩ : ByteArray).size + (⟨d.toArray⟩ : ByteArray).size := by omega
          generalize (⟨f.data.toArray⟩ : ByteArray) = bs at *
          generalize (⟨d.toArray⟩ : ByteArray) = tx at *
          generalize M.files.length = nf at *
          clear hff ht hset hXg hgB k2 c1 f1
          go_wp2_with fail
          refine HFD.out.mono ?_
          rintro e w' ⟨rfl, rfl⟩
          go_wp2_with fail
          go_region
          go_wp2_with fail
          go_ret2
          exact ⟨rfl, HF.out⟩
        · skip
          go_enter Tryz.func35, Tryz.ntmps35
          go_wp2_with fail
          refine HS.out.mono ?_
          rintro e w2 ⟨rfl, ⟨fv, nv, lv, ov, pv, cs, ht⟩, k2⟩
          have HFD := Lib.hid (rfind_any (RSt.now { M with made := M.made + 1 }) nv s w2 ht.now HNW.out)
          have hff : fileNo (RSt.now { M with made := M.made + 1 }) s = i := HFN.out
          rw [hff] at HFD
          obtain ⟨pn, cn, rfl⟩ := ht.now.form
          generalize (RSt.now { M with made := M.made + 1 }).length = nn at *
          obtain ⟨g, c, he2, hXg, hgB, c0, c1, f0, f1⟩ := ht.row (i := i) (f := f) HFF.out
          have hset := ht.setBytes (i := i) (f := f) HFF.out he2 (f.data ++ d)
          obtain ⟨⟨a0, a1, -⟩, -, -, -⟩ := ht.cells
          have HF : Hid (RfOp w B X { M with made := M.made + 1, files := M.files.set i { f with data := f.data ++ d } } (w2.setCell ⟨g, i * 2, none⟩ (.string (⟨f.data.toArray⟩ ++ ⟨d.toArray⟩))).drew) := Lib.hid (by
            rw [text_more]
            exact ⟨X, RfAt.below ⟨_, _, _, _, _, _, hset⟩ (Below.refl _ _).drew, fun _ h => .inl h, (k2.set (.inl hXg)).trans (Rk.of (Below.refl _ _).drew)⟩)
          simp only at he2
          subst he2
          have hcat2 : (⟨f.data.toArray⟩ : ByteArray).size + (⟨d.toArray⟩ : ByteArray).size ≤ 9223372036854775807 := by
            show f.data.toArray.size + d.toArray.size ≤ _
            have := HC1.out; have := HDL.out
            simp; omega
          have hcat3 : ¬ 9223372036854775807 < (⟨f.data.toArray⟩ : ByteArray).size + (⟨d.toArray⟩ : ByteArray).size := by omega
          generalize (⟨f.data.toArray⟩ : ByteArray) = bs at *
          generalize (⟨d.toArray⟩ : ByteArray) = tx at *
          generalize M.files.length = nf at *
          clear hff ht hset hXg hgB k2 c1 f1
          go_wp2_with fail
          refine HFD.out.mono ?_
          rintro e w' ⟨rfl, rfl⟩
          go_wp2_with fail
          go_region
          go_wp2_with fail
          go_ret2
          exact ⟨rfl, HF.out⟩
      | none =>
        have hfn : fileNo M.now s = -1 := by unfold fileNo; rw [hg]
        have hlay : layR { M with made := M.made + 1 } s d = { M with made := M.made + 1, files := M.files ++ [⟨d, 0⟩], opn := M.opn ++ [[(s, some M.files.length)]] } := by
          unfold layR
          show (match nmGet M.now s with | some i => _ | none => _) = _
          rw [hg]
        rw [hlay]
        have HFN := Lib.hid hfn
        clear hg hfn hlay HFI
        rcases hways with ⟨rfl, hkk⟩ | ⟨he, hnn, hmin⟩
        · have hmin : min (t.size : Int) (t.size : Int) = (k : Int) := by omega
          have hts0 : ¬ (t.size : Int) < 0 := by omega
          clear hkk
          go_enter Tryz.func35, Tryz.ntmps35
          go_wp2_with fail
          refine HS.out.mono ?_
          rintro e w2 ⟨rfl, ⟨fv, nv, lv, ov, pv, cs, ht⟩, k2⟩
          have HFD := Lib.hid (rfind_any (RSt.now { M with made := M.made + 1 }) nv s w2 ht.now HNW.out)
          have hff : fileNo (RSt.now { M with made := M.made + 1 }) s = -1 := HFN.out
          rw [hff] at HFD
          obtain ⟨v4, W4, run4, own4, gr4, hob⟩ := append_files (w := w2.alloc (.cells #[.string ⟨#[]⟩, .int .i64 0] 86)) (base := 0) (A := M.files) (B := [⟨[], 0⟩]) (q := some ⟨w2.heap.size, 0, none⟩) (c := 1) (ht.files.alloc _) (.inr ⟨_, rfl, fun j u hu => by
            have e : fileCells [⟨[], 0⟩] = [.string ⟨#[]⟩, .int .i64 0] := rfl
            rw [e] at hu
            have ea : (⟨w2.heap.size, 0, none⟩ : Addr).add j = ⟨w2.heap.size, j, none⟩ := by unfold Addr.add; split <;> simp_all
            rw [ea]
            have hx := heapLast w2 (.cells #[.string ⟨#[]⟩, .int .i64 0] 86)
            simp only [World.cell?, hx]
            simpa using hu⟩) (by have := HNF.out; simp; omega) (Nat.zero_le _)
          obtain ⟨ht5, k5⟩ := newfile_top ht gr4 ⟨[], 0⟩ own4 hob
          obtain ⟨p4, c4, rfl⟩ : ∃ p c, v4 = .slice p (M.files ++ [(⟨[], 0⟩ : FileC)]).length c := by
            rcases own4.2 with ⟨rfl, h0⟩ | ⟨g, cap, cur, rfl, _⟩
            · exact ⟨none, 0, by rw [h0]⟩
            · exact ⟨_, _, rfl⟩
          obtain ⟨pn, cn, rfl⟩ := ht.now.form
          obtain ⟨pf, cf, hfv⟩ : ∃ p c, fv = .slice p M.files.length c := by
            rcases ht.files.2 with ⟨rfl, h0⟩ | ⟨g, cap, cur, rfl, _⟩
            · exact ⟨none, 0, by rw [show M.files.length = 0 from h0]⟩
            · exact ⟨_, _, rfl⟩
          obtain ⟨⟨a0, a1, -⟩, -, -, -⟩ := ht.cells
          have box4 : W4.frozen? ⟨B, 0, none⟩ = false ∧ ∃ u, W4.cell? ⟨B, 0, none⟩ = some u := by
            have e : W4.heap[B]? = w2.heap[B]? := by
              rw [gr4.block B (by have := ht.lt B ht.here; simp; omega) (fun e => (ht.own B e.symm).2 rfl)]
              exact Below.heap_alloc _ _ _ (ht.lt B ht.here)
            have hb := e.trans ht.box
            exact ⟨(boxSix hb).2 0, _, (boxSix hb).1.1.1⟩
          obtain ⟨fz4, u4, cu4⟩ := box4
          obtain ⟨⟨b0, -, -⟩, -, -, -⟩ := ht5.cells
          have HTN := Lib.hid (rturn_op B _ _ ⟨1, s, ⟨#[]⟩, M.files.length⟩ _ ⟨_, _, _, _, _, _, ht5⟩ (show M.now.length ≤ _ from HKO.out.now) (show M.opn.length ≤ _ from HKO.out.opn))
          have HK5 := Lib.hid k5
          have HK2 := Lib.hid k2
          have hn1 : (M.files ++ [(⟨[], 0⟩ : FileC)]).length = M.files.length + 1 := by simp
          have hwr : wrap64 (((M.files ++ [(⟨[], 0⟩ : FileC)]).length : Int) - 1) = (M.files.length : Int) := by have := HNF.out; rw [hn1]; unfold wrap64; omega
          have hidx : (M.files.length : Int) < ((M.files ++ [(⟨[], 0⟩ : FileC)]).length : Int) := by rw [hn1]; omega
          have HROW : Hid ((M.files ++ [(⟨[], 0⟩ : FileC)])[M.files.length]? = some ⟨[], 0⟩) := Lib.hid (by simp)
          have HSET : Hid ((M.files ++ [(⟨[], 0⟩ : FileC)]).set M.files.length ⟨[] ++ d, 0⟩ = M.files ++ [⟨d, 0⟩]) := Lib.hid (by rw [List.set_append_right _ _ (Nat.le_refl _)]; simp)
          have HN1 := Lib.hid (rfl : (M.files ++ [(⟨[], 0⟩ : FileC)]).length = (M.files ++ [(⟨[], 0⟩ : FileC)]).length)
          subst hfv
          generalize (RSt.now { M with made := M.made + 1 }).length = nn at *
          have hHN : ∀ z, z = (M.files ++ [(⟨[], 0⟩ : FileC)]).length → Hid ((M.files ++ [(⟨[], 0⟩ : FileC)]).length = z) := fun z h => Lib.hid h.symm
          obtain ⟨n1, hn1e⟩ : ∃ n1, n1 = (M.files ++ [(⟨[], 0⟩ : FileC)]).length := ⟨_, rfl⟩
          have HNE := hHN n1 hn1e
          rw [← hn1e] at run4 hwr hidx b0 HTN HK5
          clear hff ht ht5 k5 k2 own4 gr4 hob hn1 hHN HN1
          obtain ⟨nf, hnfe⟩ : ∃ nf, nf = M.files.length := ⟨_, rfl⟩
          rw [← hnfe] at a0 run4 hwr hidx HROW HSET
          have HNFE := Lib.hid hnfe
          have hTN2 := HTN.out
          rw [← hnfe] at hTN2
          have HTN2 := Lib.hid hTN2
          clear hnfe hn1e HTN hTN2
          go_wp2_with fail
          refine HFD.out.mono ?_
          rintro e w' ⟨rfl, rfl⟩
          go_wp2_with (first
            | (at_builtin; refine wpList_append_run (by rfl) _ _ _ _ (by rfl) _ _ (.slice p4 n1 c4) W4 (by rfl) (by rfl) run4 ?_))
          refine HTN2.out.mono ?_
          rintro e w6 ⟨rfl, X6, ⟨fv6, nv6, lv6, ov6, pv6, cs6, ht6⟩, hX6, hk6⟩
          obtain ⟨g, c, he2, hXg, hgB, c0, c1, f0, f1⟩ := ht6.row (i := nf) (f := ⟨[], 0⟩) HROW.out
          have hset := ht6.setBytes (i := nf) (f := ⟨[], 0⟩) HROW.out he2 ([] ++ d)
          obtain ⟨⟨a60, -, -⟩, -, -, -⟩ := ht6.cells
          have HF : Hid (RfOp w B X { M with made := M.made + 1, files := M.files ++ [⟨d, 0⟩], opn := M.opn ++ [[(s, some M.files.length)]] } (w6.setCell ⟨g, nf * 2, none⟩ (.string ((⟨([] : List UInt8).toArray⟩ : ByteArray) ++ ⟨d.toArray⟩))).drew) := Lib.hid (by
            rw [text_more, ← HNFE.out]
            have hs2 := hset
            simp only [HSET.out] at hs2
            have hy5 : ∀ b, (X b ∨ (w2.heap.size ≤ b ∧ b < W4.heap.size)) → X b ∨ w2.heap.size ≤ b := fun b h => h.imp id And.left
            refine RfOp.then (w := w) (Y := X) (fun _ h => .inl h) HK2.out (RfOp.then hy5 HK5.out ?_)
            exact ⟨X6, RfAt.below ⟨_, _, _, _, _, _, hs2⟩ (Below.refl _ _).drew, hX6, (hk6.set (hX6 g hXg)).trans (Rk.of (Below.refl _ _).drew)⟩)
          simp only at he2
          rw [HNE.out] at he2
          subst he2
          have hcat2 : (⟨([] : List UInt8).toArray⟩ : ByteArray).size + (⟨d.toArray⟩ : ByteArray).size ≤ 9223372036854775807 := by
            show 0 + d.toArray.size ≤ _
            have := HKT.out; have := HDL.out; have := HTS.out
            simp; omega
          have hcat3 : ¬ 9223372036854775807 < (⟨([] : List UInt8).toArray⟩ : ByteArray).size + (⟨d.toArray⟩ : ByteArray).size := by omega
          generalize (⟨([] : List UInt8).toArray⟩ : ByteArray) = bs at *
          generalize (⟨d.toArray⟩ : ByteArray) = tx at *
          clear ht6 hset hXg hgB c1 f1 hX6 hk6 a0 a1 b0 fz4 cu4 run4
          go_wp2_with fail
          go_region
          go_wp2_with fail
          go_ret2
          exact ⟨rfl, HF.out⟩
        · skip
          go_enter Tryz.func35, Tryz.ntmps35
          go_wp2_with fail
          refine HS.out.mono ?_
          rintro e w2 ⟨rfl, ⟨fv, nv, lv, ov, pv, cs, ht⟩, k2⟩
          have HFD := Lib.hid (rfind_any (RSt.now { M with made := M.made + 1 }) nv s w2 ht.now HNW.out)
          have hff : fileNo (RSt.now { M with made := M.made + 1 }) s = -1 := HFN.out
          rw [hff] at HFD
          obtain ⟨v4, W4, run4, own4, gr4, hob⟩ := append_files (w := w2.alloc (.cells #[.string ⟨#[]⟩, .int .i64 0] 86)) (base := 0) (A := M.files) (B := [⟨[], 0⟩]) (q := some ⟨w2.heap.size, 0, none⟩) (c := 1) (ht.files.alloc _) (.inr ⟨_, rfl, fun j u hu => by
            have e : fileCells [⟨[], 0⟩] = [.string ⟨#[]⟩, .int .i64 0] := rfl
            rw [e] at hu
            have ea : (⟨w2.heap.size, 0, none⟩ : Addr).add j = ⟨w2.heap.size, j, none⟩ := by unfold Addr.add; split <;> simp_all
            rw [ea]
            have hx := heapLast w2 (.cells #[.string ⟨#[]⟩, .int .i64 0] 86)
            simp only [World.cell?, hx]
            simpa using hu⟩) (by have := HNF.out; simp; omega) (Nat.zero_le _)
          obtain ⟨ht5, k5⟩ := newfile_top ht gr4 ⟨[], 0⟩ own4 hob
          obtain ⟨p4, c4, rfl⟩ : ∃ p c, v4 = .slice p (M.files ++ [(⟨[], 0⟩ : FileC)]).length c := by
            rcases own4.2 with ⟨rfl, h0⟩ | ⟨g, cap, cur, rfl, _⟩
            · exact ⟨none, 0, by rw [h0]⟩
            · exact ⟨_, _, rfl⟩
          obtain ⟨pn, cn, rfl⟩ := ht.now.form
          obtain ⟨pf, cf, hfv⟩ : ∃ p c, fv = .slice p M.files.length c := by
            rcases ht.files.2 with ⟨rfl, h0⟩ | ⟨g, cap, cur, rfl, _⟩
            · exact ⟨none, 0, by rw [show M.files.length = 0 from h0]⟩
            · exact ⟨_, _, rfl⟩
          obtain ⟨⟨a0, a1, -⟩, -, -, -⟩ := ht.cells
          have box4 : W4.frozen? ⟨B, 0, none⟩ = false ∧ ∃ u, W4.cell? ⟨B, 0, none⟩ = some u := by
            have e : W4.heap[B]? = w2.heap[B]? := by
              rw [gr4.block B (by have := ht.lt B ht.here; simp; omega) (fun e => (ht.own B e.symm).2 rfl)]
              exact Below.heap_alloc _ _ _ (ht.lt B ht.here)
            have hb := e.trans ht.box
            exact ⟨(boxSix hb).2 0, _, (boxSix hb).1.1.1⟩
          obtain ⟨fz4, u4, cu4⟩ := box4
          obtain ⟨⟨b0, -, -⟩, -, -, -⟩ := ht5.cells
          have HTN := Lib.hid (rturn_op B _ _ ⟨1, s, ⟨#[]⟩, M.files.length⟩ _ ⟨_, _, _, _, _, _, ht5⟩ (show M.now.length ≤ _ from HKO.out.now) (show M.opn.length ≤ _ from HKO.out.opn))
          have HK5 := Lib.hid k5
          have HK2 := Lib.hid k2
          have hn1 : (M.files ++ [(⟨[], 0⟩ : FileC)]).length = M.files.length + 1 := by simp
          have hwr : wrap64 (((M.files ++ [(⟨[], 0⟩ : FileC)]).length : Int) - 1) = (M.files.length : Int) := by have := HNF.out; rw [hn1]; unfold wrap64; omega
          have hidx : (M.files.length : Int) < ((M.files ++ [(⟨[], 0⟩ : FileC)]).length : Int) := by rw [hn1]; omega
          have HROW : Hid ((M.files ++ [(⟨[], 0⟩ : FileC)])[M.files.length]? = some ⟨[], 0⟩) := Lib.hid (by simp)
          have HSET : Hid ((M.files ++ [(⟨[], 0⟩ : FileC)]).set M.files.length ⟨[] ++ d, 0⟩ = M.files ++ [⟨d, 0⟩]) := Lib.hid (by rw [List.set_append_right _ _ (Nat.le_refl _)]; simp)
          have HN1 := Lib.hid (rfl : (M.files ++ [(⟨[], 0⟩ : FileC)]).length = (M.files ++ [(⟨[], 0⟩ : FileC)]).length)
          subst hfv
          generalize (RSt.now { M with made := M.made + 1 }).length = nn at *
          have hHN : ∀ z, z = (M.files ++ [(⟨[], 0⟩ : FileC)]).length → Hid ((M.files ++ [(⟨[], 0⟩ : FileC)]).length = z) := fun z h => Lib.hid h.symm
          obtain ⟨n1, hn1e⟩ : ∃ n1, n1 = (M.files ++ [(⟨[], 0⟩ : FileC)]).length := ⟨_, rfl⟩
          have HNE := hHN n1 hn1e
          rw [← hn1e] at run4 hwr hidx b0 HTN HK5
          clear hff ht ht5 k5 k2 own4 gr4 hob hn1 hHN HN1
          obtain ⟨nf, hnfe⟩ : ∃ nf, nf = M.files.length := ⟨_, rfl⟩
          rw [← hnfe] at a0 run4 hwr hidx HROW HSET
          have HNFE := Lib.hid hnfe
          have hTN2 := HTN.out
          rw [← hnfe] at hTN2
          have HTN2 := Lib.hid hTN2
          clear hnfe hn1e HTN hTN2
          go_wp2_with fail
          refine HFD.out.mono ?_
          rintro e w' ⟨rfl, rfl⟩
          go_wp2_with (first
            | (at_builtin; refine wpList_append_run (by rfl) _ _ _ _ (by rfl) _ _ (.slice p4 n1 c4) W4 (by rfl) (by rfl) run4 ?_))
          refine HTN2.out.mono ?_
          rintro e w6 ⟨rfl, X6, ⟨fv6, nv6, lv6, ov6, pv6, cs6, ht6⟩, hX6, hk6⟩
          obtain ⟨g, c, he2, hXg, hgB, c0, c1, f0, f1⟩ := ht6.row (i := nf) (f := ⟨[], 0⟩) HROW.out
          have hset := ht6.setBytes (i := nf) (f := ⟨[], 0⟩) HROW.out he2 ([] ++ d)
          obtain ⟨⟨a60, -, -⟩, -, -, -⟩ := ht6.cells
          have HF : Hid (RfOp w B X { M with made := M.made + 1, files := M.files ++ [⟨d, 0⟩], opn := M.opn ++ [[(s, some M.files.length)]] } (w6.setCell ⟨g, nf * 2, none⟩ (.string ((⟨([] : List UInt8).toArray⟩ : ByteArray) ++ ⟨d.toArray⟩))).drew) := Lib.hid (by
            rw [text_more, ← HNFE.out]
            have hs2 := hset
            simp only [HSET.out] at hs2
            have hy5 : ∀ b, (X b ∨ (w2.heap.size ≤ b ∧ b < W4.heap.size)) → X b ∨ w2.heap.size ≤ b := fun b h => h.imp id And.left
            refine RfOp.then (w := w) (Y := X) (fun _ h => .inl h) HK2.out (RfOp.then hy5 HK5.out ?_)
            exact ⟨X6, RfAt.below ⟨_, _, _, _, _, _, hs2⟩ (Below.refl _ _).drew, hX6, (hk6.set (hX6 g hXg)).trans (Rk.of (Below.refl _ _).drew)⟩)
          simp only at he2
          rw [HNE.out] at he2
          subst he2
          have hcat2 : (⟨([] : List UInt8).toArray⟩ : ByteArray).size + (⟨d.toArray⟩ : ByteArray).size ≤ 9223372036854775807 := by
            show 0 + d.toArray.size ≤ _
            have := HKT.out; have := HDL.out; have := HTS.out
            simp; omega
          have hcat3 : ¬ 9223372036854775807 < (⟨([] : List UInt8).toArray⟩ : ByteArray).size + (⟨d.toArray⟩ : ByteArray).size := by omega
          generalize (⟨([] : List UInt8).toArray⟩ : ByteArray) = bs at *
          generalize (⟨d.toArray⟩ : ByteArray) = tx at *
          clear ht6 hset hXg hgB c1 f1 hX6 hk6 a0 a1 b0 fz4 cu4 run4
          go_wp2_with fail
          go_region
          go_wp2_with fail
          go_ret2
          exact ⟨rfl, HF.out⟩
  · rw [if_pos rfl]
    clear hk hf hnf hsz hts HS
    go_enter Tryz.func35, Tryz.ntmps35
    go_wp2_with fail
    go_ret2
    exact ⟨rfl, HO.out⟩
end Go.Proofs.YtioidkbpjkcjeaaGreatDoor
namespace Go.Proofs.YtioidkbpjkcjeaaGreatDoor
set_option linter.unusedVariables false
open Go.RowKit Dk
def fltCells (L : List (Int × Int × Int)) : List Value := L.flatMap fun f => [.int .i64 f.1, .int .i64 f.2.1, .int .i64 f.2.2]
theorem infoFlt : (Tryz.prog.info? 40).map (fun i => (i.zero, i.size, i.bytes)) = some (some (.agg #[.int .i64 0, .int .i64 0, .int .i64 0]), 3, 24) := by kernel_rfl
/-- A row of names behind an own one: the source may be nil. -/
theorem append_flts {w : World} {base : Nat} {v : Value} {A B : List (Int × Int × Int)} {q : Option Addr} {c : Nat} (hown : w.ownsRow base 40 3 v A.length (fltCells A))
    (hs : (q = none ∧ B = []) ∨ ∃ ad, q = some ad ∧ ∀ j u, (fltCells B)[j]? = some u → w.cell? (ad.add j) = some u) (hb : A.length + B.length ≤ 2199023255552) (hbase : base ≤ w.heap.size) :
    ∃ v' w', (∀ ty, (Builtin.append_ #[30, 30] ty #[v, .slice q B.length c]).run Tryz.prog w = .ok v' w') ∧ w'.ownsRow base 40 3 v' (A ++ B).length (fltCells (A ++ B)) ∧ w.grownBy w' v.ownBlock := by
  obtain ⟨i0, hi, hz0, hz1, hz2⟩ := info_parts infoFlt
  have hlen : ∀ L : List (Int × Int × Int), (fltCells L).length = L.length * 3 := fun L => by
    induction L with
    | nil => rfl
    | cons p r ih => show (fltCells r).length + 1 + 1 + 1 = _; rw [ih, List.length_cons]; omega
  rcases hs with ⟨rfl, rfl⟩ | ⟨ad, rfl, hc⟩
  · refine ⟨v, w, fun ty => ?_, by simpa using hown, ⟨rfl, rfl, rfl, Nat.le_refl _, fun _ _ _ => rfl⟩⟩
    have ht := Tryz.underlying30
    rcases hown.2 with ⟨rfl, h0⟩ | ⟨g, cap, cur, rfl, _, hg, h1, _⟩
    · simp [Builtin.append_, run_underlying ht, sizeOf, typeInfo, hi, Builtin.lenOf, Builtin.firstCells]
    · simp [Builtin.append_, run_underlying ht, sizeOf, typeInfo, hi, Builtin.lenOf, Builtin.firstCells, storeCells, h1]
  · obtain ⟨v', w', hr, h2, h3, _⟩ := run_append_own_at (P := Tryz.prog) w base 30 30 40 i0 _ 3 24 Tryz.underlying30 hi hz0 hz1 hz2 rfl (by decide) v A.length (fltCells A) hown ad B.length c (fltCells B) (hlen B) hc
      (fun u hu => by
        obtain ⟨p, _, hp⟩ := List.mem_flatMap.1 hu
        simp at hp
        rcases hp with rfl | rfl | rfl <;> rfl) (by unfold maxLen; omega) (by omega) hbase
    have e : fltCells (A ++ B) = fltCells A ++ fltCells B := by simp [fltCells]
    exact ⟨v', w', fun _ => hr, by rw [e, List.length_append]; exact h2, h3⟩
theorem flt_len (L : List (Int × Int × Int)) : (fltCells L).length = L.length * 3 := by
  induction L with
  | nil => rfl
  | cons p r ih => show (fltCells r).length + 1 + 1 + 1 = _; rw [ih, List.length_cons]; omega
theorem flt_eq (L : List (Int × Int × Int)) : L.flatMap faultCells = fltCells L := rfl
theorem row_flts {w : World} {base : Nat} {v : Value} {L : List (Int × Int × Int)} (h : w.ownsRow base 40 3 v L.length (fltCells L)) : FltR w v L := by
  rcases h.2 with ⟨rfl, h0⟩ | ⟨g, cap, cur, rfl, hb, hg, h1, h2, h3, h4⟩
  · exact .inl ⟨List.length_eq_zero_iff.mp h0, none, 0, rfl⟩
  · refine .inr ⟨g, 0, cap, rfl, (Array.getElem?_eq_some_iff.1 hg).1, fun W hW j hj => ?_⟩
    have hc : ∀ i u, i < L.length * 3 → (fltCells L)[i]? = some u → W.cell? ⟨g, i, none⟩ = some u := fun i u hi hu => by
      have hw := hW.trans hg
      have e : cur[i]? = some u := by rw [← hu, ← h4, List.getElem?_take, if_pos hi, Array.getElem?_toList]
      simp [World.cell?, hw, e]
    obtain ⟨e0, e1, e2⟩ := fault_cells L j hj
    rw [Nat.zero_add]
    exact ⟨hc _ _ (by omega) e0, hc _ _ (by omega) e1, hc _ _ (by omega) e2⟩
/-- The plan's row is laid anew. -/
theorem plan_top {w W4 : World} {B : Nat} {X : Nat → Prop} {M : RSt} {fv nv lv ov pv v4 : Value} {cs : List Chg} (h : RfTop w B X M fv nv lv ov pv cs) (gr : Below w.heap.size w W4) (l : List (Int × Int × Int))
    (hown : W4.ownsRow w.heap.size 40 3 v4 l.length (fltCells l)) :
    RfTop (W4.setCell ⟨B, 4, none⟩ v4) B (fun b => X b ∨ (w.heap.size ≤ b ∧ b < W4.heap.size)) { M with faults := l } fv nv lv ov v4 cs ∧ Rk X w (W4.setCell ⟨B, 4, none⟩ v4) := by
  have hsz : ∀ (W : World) a v, (W.setCell a v).heap.size = W.heap.size := fun W a v => by simp [World.setCell]
  have hB := h.lt B h.here
  have hs := gr.size
  have old : ∀ b, b < w.heap.size → b ≠ B → (W4.setCell ⟨B, 4, none⟩ v4).heap[b]? = w.heap[b]? := fun b hb hne => by rw [heap_setCell_other _ _ _ _ hne, gr.block b hb]
  have hle : w.heap.size ≤ (W4.setCell ⟨B, 4, none⟩ v4).heap.size := by rw [hsz]; exact hs
  have kp : ∀ v, v = nv ∨ v = lv ∨ v = ov ∨ v = pv → ∀ g, v.ownBlock = some g → (W4.setCell ⟨B, 4, none⟩ v4).heap[g]? = w.heap[g]? := fun v hv g hg => old g (h.lt g (h.apart v hv g hg).1) (h.apart v hv g hg).2.1
  have hvl := fun g (hg : v4.ownBlock = some g) => hown.lt g hg
  have fvl := fun g (hg : fv.ownBlock = some g) => h.lt g (h.own g hg).1
  refine ⟨⟨?_, ownsRow_same h.files fun g hg => old g (h.lt g (h.own g hg).1) (h.own g hg).2, h.now.kept (kp nv (.inl rfl)) hle, h.last.kept (kp lv (.inr (.inl rfl))) hle, h.opn.kept (kp ov (.inr (.inr (.inl rfl)))) hle, h.sets, ?_, ?_, fun g hg => ⟨.inl (h.own g hg).1, (h.own g hg).2⟩, .inl h.here, ?_⟩, ?_⟩
  · exact heap_setCell_same _ B 4 _ _ v4 ((gr.block B hB).trans h.box)
  · exact (row_flts hown).kept (fun g hg => heap_setCell_other _ _ _ _ (by have := (hvl g hg).1; show g ≠ B; omega)) (by rw [hsz]; exact Nat.le_refl _)
  · intro v hv0 g hg
    rcases hv0 with rfl | rfl | rfl | rfl
    · have := h.apart _ (.inl rfl) g hg; exact ⟨.inl this.1, this.2⟩
    · have := h.apart _ (.inr (.inl rfl)) g hg; exact ⟨.inl this.1, this.2⟩
    · have := h.apart _ (.inr (.inr (.inl rfl))) g hg; exact ⟨.inl this.1, this.2⟩
    · have := hvl g hg
      exact ⟨.inr this, by omega, fun e => by have := fvl g e; omega⟩
  · intro b hb
    rw [hsz]
    rcases hb with hb | hb
    · have := h.lt b hb; omega
    · exact hb.2
  · exact ⟨gr.os, gr.tape, gr.output, hle, fun b hb hx => old b hb (fun e => hx (by rw [e]; exact h.here))⟩
theorem fault_ways (last s k n : Int) : ((decide (last < s) && mayB (s, k, n)) = true ∧ ¬ s ≤ last ∧ ¬ k < 1 ∧ ¬ 3 < k ∧ ¬ n < 0 ∧ (¬ 0 < n ∨ (0 < n ∧ (k != 2) = false))) ∨
    ((decide (last < s) && mayB (s, k, n)) = false ∧ (s ≤ last ∨ (¬ s ≤ last ∧ k < 1) ∨ (¬ s ≤ last ∧ ¬ k < 1 ∧ 3 < k) ∨ (¬ s ≤ last ∧ ¬ k < 1 ∧ ¬ 3 < k ∧ n < 0) ∨ (¬ s ≤ last ∧ ¬ k < 1 ∧ ¬ 3 < k ∧ ¬ n < 0 ∧ 0 < n ∧ (k != 2) = true))) := by
  have h : ((decide (last < s) && mayB (s, k, n)) = true) ↔ last < s ∧ ((k = 1 ∨ k = 3) ∧ n = 0 ∨ k = 2 ∧ 0 ≤ n) := by
    unfold mayB
    simp only [Bool.and_eq_true, decide_eq_true_eq]
    by_cases c1 : k = 1 ∨ k = 3
    · rw [if_pos c1]; simp only [decide_eq_true_eq]; omega
    · rw [if_neg c1]
      by_cases c2 : k = 2
      · rw [if_pos c2]; simp only [decide_eq_true_eq]; omega
      · rw [if_neg c2]; constructor
        · intro hh; cases hh.2
        · intro hh; omega
  cases e : (decide (last < s) && mayB (s, k, n))
  · right
    rw [e] at h
    have h2 : ¬ (last < s ∧ ((k = 1 ∨ k = 3) ∧ n = 0 ∨ k = 2 ∧ 0 ≤ n)) := fun x => by cases h.2 x
    refine ⟨rfl, ?_⟩
    have hk2 : (k != 2) = true ↔ k ≠ 2 := by simp
    rw [hk2]
    omega
  · left
    rw [e] at h
    have h2 := h.1 rfl
    have hk2 : (k != 2) = false ↔ k = 2 := by simp
    rw [hk2]
    exact ⟨rfl, by omega, by omega, by omega, by omega, by omega⟩
def planR (M : RSt) (l : List (Int × Int × Int)) : Int × RSt := if 4096 < l.length then (1, M) else if planOk M.made l then (0, { M with faults := l }) else (1, M)
set_option maxHeartbeats 4000000 in
set_option maxRecDepth 100000 in
theorem rplan_any (B : Nat) (X : Nat → Prop) (M : RSt) (p : Option Addr) (c : Nat) (l : List (Int × Int × Int)) (w : World) (h : RfAt w B X M) (hl : FaultsAt w p c l) :
    Calls Tryz.prog 23 #[.pointer (some ⟨B, 0, none⟩), .slice p l.length c] w fun e w' => e = .returned (.int .i64 (planR M l).1) ∧ RfOp w B X (planR M l).2 w' := by
  have HO := Lib.hid (RfOp.same h)
  unfold planR
  by_cases h1 : 4096 < l.length
  · rw [if_pos h1]
    have h1' : (4096 : Int) < (l.length : Int) := by omega
    clear h1 hl h
    go_enter Tryz.func23, Tryz.ntmps23
    go_wp2_with fail
    go_ret
    exact ⟨rfl, HO.out⟩
  · rw [if_neg h1]
    have h1' : ¬ (4096 : Int) < (l.length : Int) := by omega
    obtain ⟨R, hR⟩ : ∃ R, R = planOk M.made l := ⟨_, rfl⟩
    obtain ⟨Z, hZ⟩ : ∃ Z, Z = (if planOk M.made l = true then ((0 : Int), { M with faults := l }) else (1, M)) := ⟨_, rfl⟩
    rw [← hZ]
    have HZ1 : Hid (R = true → Z = (0, { M with faults := l })) := Lib.hid fun e => by rw [hZ, ← hR, if_pos e]
    have HZ0 : Hid (R = false → Z = (1, M)) := Lib.hid fun e => by rw [hZ, ← hR, e]; rfl
    have HR := Lib.hid hR
    have HL := Lib.hid hl
    have hn : l.length ≤ 4096 := by omega
    obtain ⟨fv, nv, lv, ov, pv, cs, ht⟩ := h
    have HT := Lib.hid ht
    obtain ⟨⟨a0, a1, a2⟩, a3, a4, a5⟩ := ht.cells
    obtain ⟨n, hnn⟩ : ∃ n, n = l.length := ⟨_, rfl⟩
    rw [← hnn] at h1' hn ⊢
    have HNN := Lib.hid hnn
    have HNL : Hid (n ≤ maxLen) := Lib.hid (by unfold maxLen; omega)
    clear h1 hl hR hZ ht a0 a1 a2 a3 a4 hnn
    go_enter Tryz.func23, Tryz.ntmps23
    go_wp2_with fail
    clear a5
    go_loopw [5, 6] (fun la i wr => ∃ (k : Nat) (last : Int), k ≤ n ∧ i = .int .i64 k ∧ la = .int .i64 last ∧ Below w.heap.size w wr ∧ Hid (R = planOk last (l.drop k))) (fun _ i _ => n - (intOf i).toNat)
    case atStart => exact ⟨0, _, Nat.zero_le _, rfl, rfl, Below.refl _ _, HR⟩
    case round =>
      obtain ⟨k, last, hk, rfl, rfl, hb, HA⟩ := hrel
      have HB := Lib.hid hb
      obtain ⟨wq, rfl⟩ : ∃ wq : World, wq = wr := ⟨_, rfl⟩
      clear hb
      by_cases hlt : k < n
      · have hlk : k < l.length := by rw [← HNN.out]; exact hlt
        obtain ⟨g, off, rfl, hg, hc⟩ := HL.out.at hlk
        obtain ⟨c0, c1, c2⟩ := hc wq (HB.out.block g hg)
        have HA2 := Lib.hid (HA.out.trans (planOk_drop hlk))
        generalize l[k] = y at *
        obtain ⟨ys, yk, yn⟩ := y
        simp only at c0 c1 c2
        have hw := fault_ways last ys yk yn
        have HW := Lib.hid hw
        obtain ⟨e0, e1, e2⟩ := cellsThree (heapLast wq (.cells #[.int .i64 ys, .int .i64 yk, .int .i64 yn] 40))
        have HB2 := Lib.hid (HB.out.trans ((belowNew wq (.cells #[.int .i64 ys, .int .i64 yk, .int .i64 yn] 40)).mono HB.out.size))
        clear hc hlk hg HA hw
        rcases HW.out with ⟨hv, t1, t2, t3, t4, t5⟩ | ⟨hv, t⟩
        · have HX : Hid (R = planOk ys (l.drop (k + 1))) := Lib.hid (by rw [HA2.out]; simp only; rw [hv]; rfl)
          clear hv HW HA2
          rcases t5 with t5 | ⟨t5, t6⟩
          all_goals
            go_wp2_with fail
            go_roundw
            case rel => exact ⟨k + 1, _, by omega, by first | rfl | go_num, rfl, HB2.out, HX⟩
            case measure => simp [intOf]; omega
        · have HX : Hid (R = false) := Lib.hid (by rw [HA2.out]; simp only; rw [hv]; rfl)
          have HF : Hid (RfOp w B X M (wq.alloc (.cells #[.int .i64 ys, .int .i64 yk, .int .i64 yn] 40))) := Lib.hid ⟨X, ⟨_, _, _, _, _, _, HT.out.below HB2.out⟩, fun _ h => .inl h, Rk.of HB2.out⟩
          clear hv HW HA2
          rcases t with t1 | ⟨t1, t2⟩ | ⟨t1, t2, t3⟩ | ⟨t1, t2, t3, t4⟩ | ⟨t1, t2, t3, t4, t5, t6⟩
          all_goals
            go_wp2_with fail
            go_ret
            rw [HZ0.out HX.out]
            exact ⟨rfl, HF.out⟩
      · obtain rfl : k = n := by omega
        have HX : Hid (R = true) := Lib.hid (by rw [HA.out, HNN.out, List.drop_length]; rfl)
        have htq := HT.out.below HB.out
        have hlq : FaultsAt wq p c l := by
          rcases HL.out with h | ⟨g, off, e, hg, hc⟩
          · exact .inl h
          · exact .inr ⟨g, off, e, Nat.lt_of_lt_of_le hg HB.out.size, fun W hW => hc W (hW.trans (HB.out.block g hg))⟩
        have hsrc : (p = none ∧ l = []) ∨ ∃ ad, p = some ad ∧ ∀ j u, (fltCells l)[j]? = some u → wq.cell? (ad.add j) = some u := by
          rcases hlq with h0 | ⟨g, off, e, hg, hc⟩
          · cases p with
            | none => exact .inl ⟨rfl, h0⟩
            | some ad => exact .inr ⟨ad, rfl, fun j u hu => by rw [h0] at hu; cases hu⟩
          · refine .inr ⟨_, e, fun j u hu => ?_⟩
            have hj : j < l.length * 3 := by
              have := (List.getElem?_eq_some_iff.1 hu).1
              rwa [flt_len] at this
            obtain ⟨q, r, hq, hr⟩ : ∃ q r, j = q * 3 + r ∧ r < 3 := ⟨j / 3, j % 3, by omega, by omega⟩
            subst hq
            have hql : q < l.length := by omega
            obtain ⟨a0, a1, a2⟩ := hc wq rfl q hql
            obtain ⟨f0, f1, f2⟩ := fault_cells l q hql
            have ea : (⟨g, off, none⟩ : Addr).add (q * 3 + r) = ⟨g, off + (q * 3 + r), none⟩ := by unfold Addr.add; split <;> simp_all
            rw [ea]
            have hu' : (l.flatMap faultCells)[q * 3 + r]? = some u := hu
            match r, hr, hu' with
            | 0, _, hu' => rw [Nat.add_zero, f0] at hu'; injection hu' with hu'; rw [← hu']; exact a0
            | 1, _, hu' => rw [f1] at hu'; injection hu' with hu'; rw [← hu']; exact a1
            | 2, _, hu' => rw [f2] at hu'; injection hu' with hu'; rw [← hu']; exact a2
        obtain ⟨v4, W4, run4, own4, gr4⟩ := append_flts (base := wq.heap.size) (v := .slice none 0 0) (A := []) (B := l) (q := p) (c := c) (World.ownsRow_nil wq _ _ _) hsrc (by have := HNN.out; simp; omega) (Nat.le_refl _)
        have b4 : Below wq.heap.size wq W4 := (Below.refl _ _).grown gr4 (Nat.le_refl _) (fun k hk => by cases hk)
        rw [List.nil_append] at own4
        obtain ⟨p4, c4, rfl⟩ := (row_flts own4).form
        obtain ⟨ht4, k4⟩ := plan_top htq b4 l own4
        have HF : Hid (RfOp w B X { M with faults := l } (W4.setCell ⟨B, 4, none⟩ (.slice p4 l.length c4))) := Lib.hid ⟨_, ⟨_, _, _, _, _, _, ht4⟩, fun b hb => hb.imp id (fun h => Nat.le_trans HB.out.size h.1), (Rk.of HB.out).trans k4⟩
        have hb4 := (b4.block B (htq.lt B htq.here)).trans htq.box
        obtain ⟨⟨-, -, z4, -⟩, fz⟩ := boxSix hb4
        have fz4 := fz 4
        rw [← HNN.out] at run4 HF
        clear htq hlq hsrc own4 gr4 b4 ht4 k4 hb4 fz HA
        go_wp2_with (first
          | (at_builtin; refine wpList_append_run (by rfl) _ _ _ _ (by rfl) _ _ (.slice p4 k c4) W4 (by rfl) (by rfl) run4 ?_))
        go_ret
        rw [HZ1.out HX.out]
        exact ⟨rfl, HF.out⟩
end Go.Proofs.YtioidkbpjkcjeaaGreatDoor
namespace Go.Proofs.YtioidkbpjkcjeaaGreatDoor
set_option linter.unusedVariables false
open Go.RowKit Dk
def txCells (L : List Nm) : List Value := L.flatMap fun s => [.string s]
theorem infoTxt : (Tryz.prog.info? 9).map (fun i => (i.zero, i.size, i.bytes)) = some (some (.string ⟨#[]⟩), 1, 16) := by kernel_rfl
/-- A row of names behind an own one: the source may be nil. -/
theorem append_texts {w : World} {base : Nat} {v : Value} {A B : List Nm} {q : Option Addr} {c : Nat} (hown : w.ownsRow base 9 1 v A.length (txCells A))
    (hs : (q = none ∧ B = []) ∨ ∃ ad, q = some ad ∧ ∀ j u, (txCells B)[j]? = some u → w.cell? (ad.add j) = some u) (hb : A.length + B.length ≤ 2199023255552) (hbase : base ≤ w.heap.size) :
    ∃ v' w', (∀ ty, (Builtin.append_ #[112, 112] ty #[v, .slice q B.length c]).run Tryz.prog w = .ok v' w') ∧ w'.ownsRow base 9 1 v' (A ++ B).length (txCells (A ++ B)) ∧ w.grownBy w' v.ownBlock := by
  obtain ⟨i0, hi, hz0, hz1, hz2⟩ := info_parts infoTxt
  have hlen : ∀ L : List Nm, (txCells L).length = L.length * 1 := fun L => by
    induction L with
    | nil => rfl
    | cons p r ih => show (txCells r).length + 1 = _; rw [ih, List.length_cons]; omega
  rcases hs with ⟨rfl, rfl⟩ | ⟨ad, rfl, hc⟩
  · refine ⟨v, w, fun ty => ?_, by simpa using hown, ⟨rfl, rfl, rfl, Nat.le_refl _, fun _ _ _ => rfl⟩⟩
    have ht := Tryz.underlying112
    rcases hown.2 with ⟨rfl, h0⟩ | ⟨g, cap, cur, rfl, _, hg, h1, _⟩
    · simp [Builtin.append_, run_underlying ht, sizeOf, typeInfo, hi, Builtin.lenOf, Builtin.firstCells]
    · simp [Builtin.append_, run_underlying ht, sizeOf, typeInfo, hi, Builtin.lenOf, Builtin.firstCells, storeCells, h1]
  · obtain ⟨v', w', hr, h2, h3, _⟩ := run_append_own_at (P := Tryz.prog) w base 112 112 9 i0 _ 1 16 Tryz.underlying112 hi hz0 hz1 hz2 rfl (by decide) v A.length (txCells A) hown ad B.length c (txCells B) (hlen B) hc
      (fun u hu => by
        obtain ⟨p, _, hp⟩ := List.mem_flatMap.1 hu
        simp at hp
        subst hp; rfl) (by unfold maxLen; omega) (by omega) hbase
    have e : txCells (A ++ B) = txCells A ++ txCells B := by simp [txCells]
    exact ⟨v', w', fun _ => hr, by rw [e, List.length_append]; exact h2, h3⟩
theorem take_names {L : List (Nm × Nat)} {k : Nat} (h : k < L.length) : (L.take (k + 1)).map (fun p => p.1) = (L.take k).map (fun p => p.1) ++ [(L[k]).1] := by
  rw [List.take_succ_eq_append_getElem h, List.map_append]; rfl
end Go.Proofs.YtioidkbpjkcjeaaGreatDoor
