/- The document's own disk as plain data, beside the program's: names in their order, changes that can be undone or made again. No program is named here. The lists of names of the document's own disk: how they lie in memory, and the look-up of a name. The document's own disk: a name more, in its place. The document's own disk: the names behind a change. How the document's own disk lies in memory; a step of it. The document's own disk: a change of names is made. Conditions: those that each theorem names. -/
import Derived.Test.YtioidkbpjkcjeaaGreatDoorGaA
import Derived.Test.YtioidkbpjkcjeaaGreatDoorGaC
import Derived.Deep.RegionWith
import Derived.Deep.DeepCutAuto
namespace Go.Proofs.YtioidkbpjkcjeaaGreatDoor
namespace Dk

/-! ### lists of names -/
theorem sorted_mem_ext : ∀ {L M : List (Nm × Nat)}, Sorted L → Sorted M → (∀ p, p ∈ L ↔ p ∈ M) → L = M
  | [], [], _, _, _ => rfl
  | [], y :: s, _, _, h => absurd ((h y).2 (by simp)) (by simp)
  | x :: r, [], _, _, h => absurd ((h x).1 (by simp)) (by simp)
  | x :: r, y :: s, hL, hM, h => by
    obtain ⟨h1, h2⟩ := List.pairwise_cons.1 hL
    obtain ⟨m1, m2⟩ := List.pairwise_cons.1 hM
    have e : x = y := by
      rcases List.mem_cons.1 ((h x).1 (by simp)) with e | e
      · exact e
      rcases List.mem_cons.1 ((h y).2 (by simp)) with e' | e'
      · exact e'.symm
      have := ltN_trans (m1 x e) (h1 y e')
      rw [ltN_irrefl] at this; cases this
    subst e
    have hr : r = s := sorted_mem_ext h2 m2 (fun p => by
      constructor
      · intro hp
        rcases List.mem_cons.1 ((h p).1 (by simp [hp])) with e | e
        · subst e; have := h1 p hp; rw [ltN_irrefl] at this; cases this
        · exact e
      · intro hp
        rcases List.mem_cons.1 ((h p).2 (by simp [hp])) with e | e
        · subst e; have := m1 p hp; rw [ltN_irrefl] at this; cases this
        · exact e)
    rw [hr]
theorem sorted_get_ext {L M : List (Nm × Nat)} (hL : Sorted L) (hM : Sorted M) (h : ∀ n, nmGet L n = nmGet M n) : L = M :=
  sorted_mem_ext hL hM (fun p => by obtain ⟨n, i⟩ := p; rw [← nmGet_some hL, ← nmGet_some hM, h])
theorem get_set {L : List (Nm × Nat)} (hs : Sorted L) (x : Nm × Option Nat) (n : Nm) : nmGet (nmSet L x) n = if n = x.1 then x.2 else nmGet L n := by
  obtain ⟨m, v⟩ := x
  have key : ∀ o : Option Nat, (∀ i, (n, i) ∈ nmSet L (m, v) ↔ o = some i) → nmGet (nmSet L (m, v)) n = o := by
    intro o ho
    cases o with
    | none => exact nmGet_none.2 (fun i hi => by have := (ho i).1 hi; cases this)
    | some j => exact (nmGet_some (sorted_nmSet hs _)).2 ((ho j).2 rfl)
  apply key
  intro i
  split
  · rename_i e
    simp only at e
    subst e
    cases v with
    | none => simp [nmSet, mem_nmDel]
    | some j => simp [nmSet, mem_nmPut, eq_comm]
  · rename_i e
    simp only at e
    rw [nmGet_some hs]
    cases v with
    | none => simp [nmSet, mem_nmDel, e]
    | some j => simp [nmSet, mem_nmPut, e]
theorem get_foldl {L : List (Nm × Nat)} (hs : Sorted L) (l : List (Nm × Option Nat)) (n : Nm) (h : ∀ x ∈ l, x.1 ≠ n) : nmGet (l.foldl nmSet L) n = nmGet L n := by
  induction l generalizing L with
  | nil => rfl
  | cons x r ih =>
    rw [List.foldl_cons, ih (sorted_nmSet hs x) (fun y hy => h y (by simp [hy])), get_set hs, if_neg (fun e => h x (by simp) e.symm)]
theorem sorted_foldl {L : List (Nm × Nat)} (hs : Sorted L) (l : List (Nm × Option Nat)) : Sorted (l.foldl nmSet L) := by
  induction l generalizing L with
  | nil => exact hs
  | cons x r ih => exact ih (sorted_nmSet hs x)
/-- One change undone. -/
theorem undo_one {L : List (Nm × Nat)} (hs : Sorted L) (x : Nm × Option Nat) : undoOne (nmSet L x) [(x.1, nmGet L x.1)] = L := by
  refine sorted_get_ext (sorted_nmSet (sorted_nmSet hs _) _) hs (fun n => ?_)
  show nmGet (nmSet (nmSet L x) (x.1, nmGet L x.1)) n = _
  rw [get_set (sorted_nmSet hs _), get_set hs]
  by_cases e : n = x.1
  · simp [e]
  · simp [e]
/-- A renaming undone. -/
theorem undo_two {L : List (Nm × Nat)} (hs : Sorted L) (x y : Nm × Option Nat) (hne : x.1 ≠ y.1) : undoOne ([x, y].foldl nmSet L) (befores L [x, y]) = L := by
  refine sorted_get_ext (sorted_foldl (sorted_foldl hs _) _) hs (fun n => ?_)
  show nmGet (nmSet (nmSet (nmSet (nmSet L x) y) (x.1, nmGet L x.1)) (y.1, nmGet (nmSet L x) y.1)) n = _
  rw [get_set (sorted_nmSet (sorted_nmSet (sorted_nmSet hs _) _) _), get_set (sorted_nmSet (sorted_nmSet hs _) _), get_set (sorted_nmSet hs _), get_set hs, get_set hs]
  by_cases e : n = x.1
  · subst e; simp [hne]
  · by_cases e' : n = y.1
    · subst e'; simp [e]
    · simp [e, e']

/-! ### the program's files and the document's -/
/-- The same names over files that are numbered otherwise. -/
def ren (φ : Nat → Nat) (L : List (Nm × Nat)) : List (Nm × Nat) := L.map (fun p => (p.1, φ p.2))
def renC (φ : Nat → Nat) (l : List (Nm × Option Nat)) : List (Nm × Option Nat) := l.map (fun x => (x.1, x.2.map φ))
theorem ren_del (φ : Nat → Nat) (L : List (Nm × Nat)) (n : Nm) : nmDel (ren φ L) n = ren φ (nmDel L n) := by
  simp [ren, nmDel, List.filter_map]; rfl
theorem ren_put (φ : Nat → Nat) (L : List (Nm × Nat)) (n : Nm) (i : Nat) : nmPut (ren φ L) n (φ i) = ren φ (nmPut L n i) := by
  unfold nmPut
  rw [ren_del]
  simp [ren, List.takeWhile_map, List.dropWhile_map]; rfl
theorem ren_set (φ : Nat → Nat) (L : List (Nm × Nat)) (x : Nm × Option Nat) : nmSet (ren φ L) (x.1, x.2.map φ) = ren φ (nmSet L x) := by
  obtain ⟨n, v⟩ := x
  cases v with
  | none => exact ren_del φ L n
  | some i => exact ren_put φ L n i
theorem ren_foldl (φ : Nat → Nat) (l : List (Nm × Option Nat)) (L : List (Nm × Nat)) : (renC φ l).foldl nmSet (ren φ L) = ren φ (l.foldl nmSet L) := by
  induction l generalizing L with
  | nil => rfl
  | cons x r ih => rw [List.foldl_cons, ← ih, ← ren_set]; rfl
theorem ren_get (φ : Nat → Nat) (L : List (Nm × Nat)) (n : Nm) : nmGet (ren φ L) n = (nmGet L n).map φ := by
  unfold nmGet ren
  induction L with
  | nil => rfl
  | cons p r ih =>
    rw [List.map_cons, List.find?_cons, List.find?_cons]
    by_cases e : p.1 = n
    · simp [e]
    · simp only [e, decide_false]; exact ih
theorem ren_sorted {φ : Nat → Nat} {L : List (Nm × Nat)} (h : Sorted L) : Sorted (ren φ L) := by
  unfold Sorted ren; rw [List.pairwise_map]; exact h

/-- What the document's disk holds: the names that last, the changes behind them. -/
structure RSt where
  last : List (Nm × Nat)
  opn : List (List (Nm × Option Nat))
  files : List FileC
  made : Int
  faults : List (Int × Int × Int)
def RSt.names (M : RSt) (k : Nat) : List (Nm × Nat) := (M.opn.take k).foldl (fun L l => l.foldl nmSet L) M.last
/-- The names behind the first k open changes are the same on both disks. -/
def SameNames (φ : Nat → Nat) (D : DSt) (M : RSt) : Prop := M.opn.length = D.opn.length ∧ ∀ k, k ≤ D.opn.length → M.names k = ren φ (D.undo k).names
theorem undo_all (D : DSt) : (D.undo D.opn.length).names = D.names := by simp [DSt.undo]
theorem undo_beyond (D : DSt) (k : Nat) (h : D.opn.length ≤ k) : (D.undo k).names = D.names := by simp [DSt.undo, List.drop_of_length_le h]
theorem undo_relink {D : DSt} {l : List (Nm × Option Nat)} (hu : undoOne (l.foldl nmSet D.names) (befores D.names l) = D.names) (k : Nat) (hk : k ≤ D.opn.length) :
    ((D.relink l).undo k).names = (D.undo k).names := by
  simp only [DSt.undo, DSt.relink]
  rw [List.drop_append_of_le_length hk, List.reverse_append]
  simp [hu]
/-- A change more, on both. -/
theorem SameNames.relink {φ : Nat → Nat} {D : DSt} {M : RSt} (h : SameNames φ D M) {l : List (Nm × Option Nat)} (hu : undoOne (l.foldl nmSet D.names) (befores D.names l) = D.names) :
    SameNames φ (D.relink l) { M with opn := M.opn ++ [renC φ l] } := by
  obtain ⟨h1, h2⟩ := h
  have hlen : (D.relink l).opn.length = D.opn.length + 1 := by simp [DSt.relink]
  refine ⟨by simp [DSt.relink, h1], fun k hk => ?_⟩
  rw [hlen] at hk
  rcases Nat.lt_or_ge D.opn.length k with c | c
  · have hk' : k = D.opn.length + 1 := by omega
    subst hk'
    have e := h2 D.opn.length (Nat.le_refl _)
    rw [undo_all] at e
    rw [undo_beyond _ _ (by rw [hlen]; exact Nat.le_refl _)]
    show ((M.opn ++ [renC φ l]).take (D.opn.length + 1)).foldl _ M.last = ren φ (l.foldl nmSet D.names)
    rw [← ren_foldl, ← e, List.take_of_length_le (by simp [h1]), List.foldl_append]
    unfold RSt.names
    rw [List.take_of_length_le (by omega)]
    rfl
  · rw [undo_relink hu k c, ← h2 k c]
    show ((M.opn ++ [renC φ l]).take k).foldl _ M.last = _
    rw [List.take_append_of_le_length (by omega)]
    rfl

/-! ### a crash -/
theorem crashFiles_other (bs : List Int) : ∀ (L : List (Nm × Nat)) (j : Nat) (fs : List FileC) (i : Nat), i ∉ L.map (·.2) → (crashFiles bs L j fs)[i]? = fs[i]?
  | [], _, _, _, _ => rfl
  | p :: r, j, fs, i, h => by
    rw [List.map_cons, List.mem_cons, not_or] at h
    have hne : p.2 ≠ i := fun e => h.1 e.symm
    rw [crashFiles, crashFiles_other bs r (j + 1) _ i h.2, List.getElem?_modify]
    simp [hne]
theorem crashFiles_get (bs : List Int) : ∀ (L : List (Nm × Nat)) (j0 : Nat) (fs : List FileC), (L.map (·.2)).Nodup → ∀ (j : Nat) (h : j < L.length), (crashFiles bs L j0 fs)[(L[j]).2]? = (fs[(L[j]).2]?).map (fun f => f.crash (left bs (j0 + j)))
  | [], _, _, _, _, h => absurd h (by simp)
  | p :: r, j0, fs, hn, 0, _ => by
    rw [List.map_cons, List.nodup_cons] at hn
    show (crashFiles bs r (j0 + 1) _)[p.2]? = _
    rw [crashFiles_other bs r _ _ _ hn.1, List.getElem?_modify]
    simp
  | p :: r, j0, fs, hn, j + 1, h => by
    rw [List.map_cons, List.nodup_cons] at hn
    have hj : j < r.length := by simpa using h
    have hne : p.2 ≠ (r[j]).2 := fun e => hn.1 (by rw [e]; exact List.mem_map.2 ⟨_, List.getElem_mem hj, rfl⟩)
    show (crashFiles bs r (j0 + 1) _)[(r[j]).2]? = _
    rw [crashFiles_get bs r (j0 + 1) _ hn.2 j hj, List.getElem?_modify]
    simp [hne, Nat.add_assoc, Nat.add_comm 1 j]
/-- Where a file's number stands. -/
def place (L : List (Nm × Nat)) (i : Nat) : Nat := (L.map (·.2)).idxOf i
theorem place_get {L : List (Nm × Nat)} (hn : (L.map (·.2)).Nodup) (j : Nat) (h : j < L.length) : place L (L[j]).2 = j := by
  have := hn.idxOf_getElem j (by simpa using h)
  simpa [place] using this
/-- Behind a crash the document's files are numbered by their names' places. -/
theorem ren_place {L : List (Nm × Nat)} (hn : (L.map (·.2)).Nodup) : ren (place L) L = L.mapIdx (fun j p => (p.1, j)) := by
  refine List.ext_getElem (by simp [ren]) (fun j h1 h2 => ?_)
  have hj : j < L.length := by simpa [ren] using h1
  simp [ren, place_get hn j hj]

/-! ### both disks side by side -/
/-- What both disks hold alike: φ tells the document's number of each of the program's files that a name can still reach. -/
structure Twin (φ : Nat → Nat) (D : DSt) (M : RSt) : Prop where
  names : SameNames φ D M
  sorted : ∀ k, k ≤ D.opn.length → Sorted (D.undo k).names
  once : ∀ k, k ≤ D.opn.length → ((D.undo k).names.map (·.2)).Nodup
  file : ∀ k, k ≤ D.opn.length → ∀ p ∈ (D.undo k).names, ∃ f, D.files[p.2]? = some f ∧ M.files[φ p.2]? = some f
  inj : ∀ k, k ≤ D.opn.length → ∀ p ∈ (D.undo k).names, ∀ k', k' ≤ D.opn.length → ∀ q ∈ (D.undo k').names, φ p.2 = φ q.2 → p.2 = q.2
  made : M.made = D.steps
  plan : ∀ s, D.steps < s → D.plan.find? (fun p => decide (p.1 = s)) = M.faults.find? (fun p => decide (p.1 = s))
def RSt.now (M : RSt) : List (Nm × Nat) := M.names M.opn.length
theorem Twin.now {φ : Nat → Nat} {D : DSt} {M : RSt} (h : Twin φ D M) : M.now = ren φ D.names := by
  have := h.names.2 D.opn.length (Nat.le_refl _)
  rw [undo_all] at this
  unfold RSt.now
  rw [h.names.1, this]
theorem Twin.get {φ : Nat → Nat} {D : DSt} {M : RSt} (h : Twin φ D M) (n : Nm) : nmGet M.now n = (nmGet D.names n).map φ := by
  rw [h.now, ren_get]
/-- A new disk. -/
theorem Twin.new : Twin id Dk.new ⟨[], [], [], 0, []⟩ := by
  have hn : ∀ k, (Dk.new.undo k).names = [] := fun k => by simp [DSt.undo, Dk.new]
  refine ⟨⟨rfl, fun k hk => ?_⟩, fun k _ => ?_, fun k _ => ?_, fun k _ p hp => ?_, fun k _ p hp => ?_, rfl, fun s _ => rfl⟩
  · rw [hn]; simp [RSt.names, ren]
  · rw [hn]; exact List.Pairwise.nil
  · rw [hn]; simp
  · rw [hn] at hp; simp at hp
  · rw [hn] at hp; simp at hp
/-- A step made. -/
theorem Twin.tick {φ : Nat → Nat} {D : DSt} {M : RSt} (h : Twin φ D M) : Twin φ D.tick { M with made := M.made + 1 } := by
  refine ⟨h.names, h.sorted, h.once, h.file, h.inj, by simp [DSt.tick, h.made], fun s hs => ?_⟩
  have hs' : D.steps + 1 < s := hs
  rw [show M.faults.find? (fun p => decide (p.1 = s)) = _ from (h.plan s (by omega)).symm]
  show (D.plan.filter (fun p => decide (p.1 ≠ D.steps + 1))).find? (fun p => decide (p.1 = s)) = _
  rw [List.find?_filter]
  refine congrArg (fun q => D.plan.find? q) (funext fun p => ?_)
  by_cases e : p.1 = s
  · have : p.1 ≠ D.steps + 1 := by omega
    simp [e]; omega
  · simp [e]
theorem Twin.hit {φ : Nat → Nat} {D : DSt} {M : RSt} (h : Twin φ D M) : D.hit = M.faults.find? (fun p => decide (p.1 = M.made + 1)) := by
  rw [h.made]; exact h.plan _ (by omega)
/-- The names made to last. -/
theorem Twin.close {φ : Nat → Nat} {D : DSt} {M : RSt} (h : Twin φ D M) : Twin φ { D with opn := [] } { M with last := M.now, opn := [] } := by
  have hn : ∀ k, (DSt.undo { D with opn := [] } k).names = D.names := fun k => by simp [DSt.undo]
  have hl := Nat.le_refl D.opn.length
  have ha := undo_all D
  refine ⟨⟨rfl, fun k hk => ?_⟩, fun k _ => ?_, fun k _ => ?_, fun k _ p hp => ?_, fun k _ p hp k' _ q hq => ?_, h.made, h.plan⟩
  · rw [hn, ← h.now]; simp [RSt.names]
  · rw [hn, ← ha]; exact h.sorted _ hl
  · rw [hn, ← ha]; exact h.once _ hl
  · rw [hn, ← ha] at hp; exact h.file _ hl p hp
  · rw [hn, ← ha] at hp hq; exact h.inj _ hl p hp _ hl q hq
/-- A file turned, on both. -/
theorem Twin.turn {φ : Nat → Nat} {D : DSt} {M : RSt} (h : Twin φ D M) {n : Nm} {i : Nat} (hi : (n, i) ∈ D.names) (f : FileC) : Twin φ { D with files := D.files.set i f } { M with files := M.files.set (φ i) f } := by
  have hl := Nat.le_refl D.opn.length
  have ha := undo_all D
  refine ⟨h.names, h.sorted, h.once, fun k hk p hp => ?_, h.inj, h.made, h.plan⟩
  obtain ⟨f0, h1, h2⟩ := h.file k hk p hp
  by_cases e : p.2 = i
  · have l1 : i < D.files.length := by rw [← e]; exact (List.getElem?_eq_some_iff.1 h1).1
    have l2 : φ i < M.files.length := by rw [← e]; exact (List.getElem?_eq_some_iff.1 h2).1
    exact ⟨f, by rw [e]; simp [l1], by rw [e]; simp [l2]⟩
  · have e' : φ p.2 ≠ φ i := fun c => e (h.inj k hk p hp _ hl (n, i) (by rw [ha]; exact hi) c)
    exact ⟨f0, by show (D.files.set i f)[p.2]? = _; rw [List.getElem?_set_ne (fun c => e c.symm)]; exact h1, by show (M.files.set (φ i) f)[φ p.2]? = _; rw [List.getElem?_set_ne (fun c => e' c.symm)]; exact h2⟩
/-- A change of names, on both. -/
theorem Twin.relink {φ : Nat → Nat} {D : DSt} {M : RSt} (h : Twin φ D M) {l : List (Nm × Option Nat)} (hu : undoOne (l.foldl nmSet D.names) (befores D.names l) = D.names)
    (hnd : ((l.foldl nmSet D.names).map (·.2)).Nodup) (hf : ∀ p ∈ l.foldl nmSet D.names, ∃ f, D.files[p.2]? = some f ∧ M.files[φ p.2]? = some f)
    (hi : ∀ p ∈ l.foldl nmSet D.names, ∀ k, k ≤ D.opn.length → ∀ q ∈ (D.undo k).names, φ p.2 = φ q.2 → p.2 = q.2)
    (hj : ∀ p ∈ l.foldl nmSet D.names, ∀ q ∈ l.foldl nmSet D.names, φ p.2 = φ q.2 → p.2 = q.2) :
    Twin φ (D.relink l) { M with opn := M.opn ++ [renC φ l] } := by
  have hlen : (D.relink l).opn.length = D.opn.length + 1 := by simp [DSt.relink]
  have hs : Sorted D.names := by rw [← undo_all]; exact h.sorted _ (Nat.le_refl _)
  have key : ∀ k, k ≤ (D.relink l).opn.length → (k ≤ D.opn.length ∧ ((D.relink l).undo k).names = (D.undo k).names) ∨ ((D.relink l).undo k).names = l.foldl nmSet D.names := fun k hk => by
    rcases Nat.lt_or_ge D.opn.length k with c | c
    · exact .inr (undo_beyond _ _ (by omega))
    · exact .inl ⟨c, undo_relink hu k c⟩
  refine ⟨h.names.relink hu, fun k hk => ?_, fun k hk => ?_, fun k hk p hp => ?_, fun k hk p hp k' hk' q hq e => ?_, h.made, h.plan⟩
  · rcases key k hk with ⟨c, e⟩ | e <;> rw [e]
    · exact h.sorted k c
    · exact sorted_foldl hs l
  · rcases key k hk with ⟨c, e⟩ | e <;> rw [e]
    · exact h.once k c
    · exact hnd
  · rcases key k hk with ⟨c, e⟩ | e <;> rw [e] at hp
    · exact h.file k c p hp
    · exact hf p hp
  · rcases key k hk with ⟨c, e1⟩ | e1 <;> rw [e1] at hp <;> rcases key k' hk' with ⟨c', e2⟩ | e2 <;> rw [e2] at hq
    · exact h.inj k c p hp k' c' q hq e
    · exact (hi q hq k c p hp e.symm).symm
    · exact hi p hp k' c' q hq e
    · exact hj p hp q hq e
/-- A change that brings no other file. -/
theorem Twin.relink_same {φ : Nat → Nat} {D : DSt} {M : RSt} (h : Twin φ D M) {l : List (Nm × Option Nat)} (hu : undoOne (l.foldl nmSet D.names) (befores D.names l) = D.names)
    (hnd : ((l.foldl nmSet D.names).map (·.2)).Nodup) (hq : ∀ p ∈ l.foldl nmSet D.names, ∃ q ∈ D.names, q.2 = p.2) : Twin φ (D.relink l) { M with opn := M.opn ++ [renC φ l] } := by
  have hl := Nat.le_refl D.opn.length
  have ha := undo_all D
  refine h.relink hu hnd (fun p hp => ?_) (fun p hp k hk q hq' e => ?_) (fun p hp q hp' e => ?_)
  · obtain ⟨q, hq, e⟩ := hq p hp
    rw [← e]; exact h.file _ hl q (by rw [ha]; exact hq)
  · obtain ⟨p', hp', e'⟩ := hq p hp
    rw [← e'] at e ⊢; exact h.inj _ hl p' (by rw [ha]; exact hp') k hk q hq' e
  · obtain ⟨p', h1, e1⟩ := hq p hp
    obtain ⟨q', h2, e2⟩ := hq q hp'
    rw [← e1, ← e2] at e ⊢; exact h.inj _ hl p' (by rw [ha]; exact h1) _ hl q' (by rw [ha]; exact h2) e
theorem map_inj {α β : Type} {f : α → β} {l : List α} (hn : (l.map f).Nodup) {a b : α} (ha : a ∈ l) (hb : b ∈ l) (e : f a = f b) : a = b := by
  obtain ⟨x, hx, rfl⟩ := List.getElem_of_mem ha
  obtain ⟨y, hy, rfl⟩ := List.getElem_of_mem hb
  rcases Nat.lt_trichotomy x y with c | c | c
  · exact absurd (by rw [List.getElem_map, List.getElem_map]; exact e) (List.pairwise_iff_getElem.1 hn x y (by simpa using hx) (by simpa using hy) c)
  · subst c; rfl
  · exact absurd (by rw [List.getElem_map, List.getElem_map]; exact e.symm) (List.pairwise_iff_getElem.1 hn y x (by simpa using hy) (by simpa using hx) c)
theorem nodup_del {L : List (Nm × Nat)} (hn : (L.map (·.2)).Nodup) (n : Nm) : ((nmDel L n).map (·.2)).Nodup := hn.sublist (List.filter_sublist.map _)
theorem nodup_put {L : List (Nm × Nat)} (hn : (L.map (·.2)).Nodup) (n : Nm) (i : Nat) (hi : ∀ p ∈ L, p.1 ≠ n → p.2 ≠ i) : ((nmPut L n i).map (·.2)).Nodup := by
  unfold nmPut
  refine (List.Perm.nodup_iff (List.Perm.map (fun p : Nm × Nat => p.2) List.perm_middle)).2 ?_
  rw [List.takeWhile_append_dropWhile, List.map_cons, List.nodup_cons]
  refine ⟨fun h => ?_, nodup_del hn n⟩
  obtain ⟨p, hp, e⟩ := List.mem_map.1 h
  have := mem_nmDel.1 hp
  exact hi p this.2 this.1 e
theorem Twin.names_sorted {φ : Nat → Nat} {D : DSt} {M : RSt} (h : Twin φ D M) : Sorted D.names := by rw [← undo_all]; exact h.sorted _ (Nat.le_refl _)
theorem Twin.names_once {φ : Nat → Nat} {D : DSt} {M : RSt} (h : Twin φ D M) : (D.names.map (·.2)).Nodup := by rw [← undo_all]; exact h.once _ (Nat.le_refl _)
/-- A name removed. -/
theorem Twin.remove {φ : Nat → Nat} {D : DSt} {M : RSt} (h : Twin φ D M) (s : Nm) : Twin φ (D.relink [(s, none)]) { M with opn := M.opn ++ [[(s, none)]] } :=
  h.relink_same (l := [(s, none)]) (undo_one h.names_sorted (s, none)) (nodup_del h.names_once s) (fun p hp => ⟨p, (mem_nmDel.1 hp).2, rfl⟩)
/-- A name in the place of another. -/
theorem Twin.rename {φ : Nat → Nat} {D : DSt} {M : RSt} (h : Twin φ D M) {s t : Nm} (hst : s ≠ t) {i : Nat} (hg : nmGet D.names s = some i) : Twin φ (D.relink [(s, none), (t, some i)]) { M with opn := M.opn ++ [[(s, none), (t, some (φ i))]] } := by
  have hs := h.names_sorted
  have hm := (nmGet_some hs).1 hg
  refine h.relink_same (l := [(s, none), (t, some i)]) (undo_two hs _ _ hst) (nodup_put (nodup_del h.names_once s) t i (fun p hp _ e => ?_)) (fun p hp => ?_)
  · have hp' := mem_nmDel.1 hp
    have := map_inj h.names_once hp'.2 hm e
    exact hp'.1 (by rw [this])
  · rcases mem_nmPut.1 hp with rfl | ⟨_, hp'⟩
    · exact ⟨_, hm, rfl⟩
    · exact ⟨p, (mem_nmDel.1 hp').2, rfl⟩
theorem Twin.lt {φ : Nat → Nat} {D : DSt} {M : RSt} (h : Twin φ D M) {k : Nat} (hk : k ≤ D.opn.length) {p : Nm × Nat} (hp : p ∈ (D.undo k).names) : p.2 < D.files.length ∧ φ p.2 < M.files.length := by
  obtain ⟨f, h1, h2⟩ := h.file k hk p hp
  exact ⟨(List.getElem?_eq_some_iff.1 h1).1, (List.getElem?_eq_some_iff.1 h2).1⟩
/-- A file more, that no name reaches yet. -/
theorem Twin.grow {φ : Nat → Nat} {D : DSt} {M : RSt} (h : Twin φ D M) (x : FileC) : Twin (fun j => if j = D.files.length then M.files.length else φ j) { D with files := D.files ++ [x] } { M with files := M.files ++ [x] } := by
  have hne : ∀ k, k ≤ D.opn.length → ∀ p ∈ (D.undo k).names, (if p.2 = D.files.length then M.files.length else φ p.2) = φ p.2 := fun k hk p hp => if_neg (by have := (h.lt hk hp).1; omega)
  refine ⟨⟨h.names.1, fun k hk => ?_⟩, h.sorted, h.once, fun k hk p hp => ?_, fun k hk p hp k' hk' q hq e => ?_, h.made, h.plan⟩
  · refine (h.names.2 k hk).trans ?_
    show (D.undo k).names.map _ = (D.undo k).names.map _
    refine List.map_congr_left (fun p hp => ?_)
    show (p.1, φ p.2) = (p.1, if p.2 = D.files.length then M.files.length else φ p.2)
    rw [hne k hk p hp]
  · obtain ⟨f, h1, h2⟩ := h.file k hk p hp
    have hl := h.lt hk hp
    refine ⟨f, ?_, ?_⟩
    · show (D.files ++ [x])[p.2]? = _; rw [List.getElem?_append_left hl.1]; exact h1
    · show (M.files ++ [x])[if p.2 = D.files.length then M.files.length else φ p.2]? = _; rw [hne k hk p hp, List.getElem?_append_left hl.2]; exact h2
  · have e' : (if p.2 = D.files.length then M.files.length else φ p.2) = (if q.2 = D.files.length then M.files.length else φ q.2) := e
    rw [hne k hk p hp, hne k' hk' q hq] at e'
    exact h.inj k hk p hp k' hk' q hq e'
/-- A file begun. -/
theorem Twin.begun {φ : Nat → Nat} {D : DSt} {M : RSt} (h : Twin φ D M) {n : Nm} (hg : nmGet D.names n = none) :
    Twin (fun j => if j = D.files.length then M.files.length else φ j) (D.begun n) { M with files := M.files ++ [⟨[], 0⟩], opn := M.opn ++ [[(n, some M.files.length)]] } := by
  have hG := h.grow ⟨[], 0⟩
  have hs := h.names_sorted
  have ha := undo_all D
  have hl := Nat.le_refl D.opn.length
  have hlt : ∀ p ∈ D.names, p.2 < D.files.length := fun p hp => (h.lt hl (by rw [ha]; exact hp)).1
  have hb : D.begun n = ({ D with files := D.files ++ [⟨[], 0⟩] } : DSt).relink [(n, some D.files.length)] := by unfold DSt.begun; rw [hg]
  have hmem : ∀ p, p ∈ [(n, some D.files.length)].foldl nmSet D.names → p = (n, D.files.length) ∨ p ∈ D.names := fun p hp => by
    rcases mem_nmPut.1 hp with e | e
    · exact .inl e
    · exact .inr e.2
  rw [hb]
  have hr : renC (fun j => if j = D.files.length then M.files.length else φ j) [(n, some D.files.length)] = [(n, some M.files.length)] := by simp [renC]
  have := hG.relink (l := [(n, some D.files.length)]) (undo_one hs (n, some D.files.length)) (nodup_put h.names_once n _ (fun p hp _ e => by have := hlt p hp; omega)) (fun p hp => ?_) (fun p hp k hk q hq e => ?_) (fun p hp q hq e => ?_)
  · rw [hr] at this; exact this
  · rcases hmem p hp with rfl | hp
    · exact ⟨⟨[], 0⟩, by simp, by simp⟩
    · exact hG.file D.opn.length hl p (by show p ∈ (D.undo _).names; rw [ha]; exact hp)
  · have hq' := h.lt hk hq
    rcases hmem p hp with rfl | hp
    · simp at e
      have := e (by omega)
      omega
    · exact hG.inj D.opn.length hl p (by show p ∈ (D.undo _).names; rw [ha]; exact hp) k hk q hq e
  · rcases hmem p hp with rfl | hp <;> rcases hmem q hq with rfl | hq
    · rfl
    · have h2 := h.lt hl (p := q) (by rw [ha]; exact hq)
      simp at e
      have := e (by omega)
      omega
    · have h2 := h.lt hl (p := p) (by rw [ha]; exact hp)
      simp at e
      have := e (by omega)
      omega
    · exact hG.inj D.opn.length hl p (by show p ∈ (D.undo _).names; rw [ha]; exact hp) D.opn.length hl q (by show q ∈ (D.undo _).names; rw [ha]; exact hq) e
theorem names_beyond {φ : Nat → Nat} {D : DSt} {M : RSt} (h : Twin φ D M) (k : Nat) : ∃ k', k' ≤ D.opn.length ∧ (D.undo k).names = (D.undo k').names ∧ M.names k = M.names k' := by
  rcases Nat.lt_or_ge D.opn.length k with c | c
  · refine ⟨D.opn.length, Nat.le_refl _, by rw [undo_all, undo_beyond _ _ (by omega)], ?_⟩
    unfold RSt.names
    rw [List.take_of_length_le (by rw [h.names.1]; omega), List.take_of_length_le (by rw [h.names.1]; exact Nat.le_refl _)]
  · exact ⟨k, c, rfl, rfl⟩
/-- The document's disk behind a crash. -/
def RSt.crash (M : RSt) (k : Nat) (bs : List Int) : RSt :=
  ⟨(M.names k).mapIdx (fun j p => (p.1, j)), [], (M.names k).mapIdx (fun j p => (M.files[p.2]?.getD ⟨[], 0⟩).crash (left bs j)), M.made, []⟩
/-- A crash, on both. -/
theorem Twin.crash {φ : Nat → Nat} {D : DSt} {M : RSt} (h : Twin φ D M) (k : Nat) (bs : List Int) : ∃ ψ, Twin ψ (D.crash k bs) (M.crash k bs) := by
  obtain ⟨k', hk', e1, e2⟩ := names_beyond h k
  have hn := h.once k' hk'
  have hs := h.sorted k' hk'
  have hR : M.names k = ren φ (D.undo k').names := by rw [e2]; exact h.names.2 k' hk'
  have hfile := h.file k' hk'
  obtain ⟨L, hL⟩ : ∃ L, L = (D.undo k').names := ⟨_, rfl⟩
  rw [← hL] at hn hs hR hfile e1
  have hC : ∀ j, ((D.crash k bs).undo j).names = L := fun j => by simp [DSt.undo, DSt.crash, ← e1]
  have hF : (D.crash k bs).files = crashFiles bs L 0 D.files := by rw [← e1]; rfl
  refine ⟨place L, ⟨rfl, fun j hj => ?_⟩, fun j _ => by rw [hC]; exact hs, fun j _ => by rw [hC]; exact hn, fun j _ p hp => ?_, fun j _ p hp j' _ q hq e => ?_, h.made, fun s _ => rfl⟩
  · have hz : ∀ X : RSt, X.opn = [] → X.names j = X.last := fun X h0 => by simp [RSt.names, h0]
    rw [hC, ren_place hn, hz _ rfl]
    show (M.names k).mapIdx (fun j p => (p.1, j)) = _
    rw [hR]
    refine List.ext_getElem (by simp [ren]) (fun x h1 h2 => ?_)
    simp [ren]
  · rw [hC] at hp
    obtain ⟨x, hx, rfl⟩ := List.getElem_of_mem hp
    obtain ⟨f, h1, h2⟩ := hfile _ hp
    refine ⟨f.crash (left bs x), ?_, ?_⟩
    · rw [hF, crashFiles_get bs L 0 D.files hn x hx, h1]; simp
    · rw [place_get hn x hx]
      show ((M.names k).mapIdx (fun j p => (M.files[p.2]?.getD ⟨[], 0⟩).crash (left bs j)))[x]? = _
      rw [hR]
      have hx' : x < (ren φ L).length := by simpa [ren] using hx
      have hx2 : (ren φ L)[x].2 = φ (L[x]).2 := by simp [ren]
      rw [List.getElem?_mapIdx, List.getElem?_eq_getElem hx']
      simp [hx2, h2]
  · rw [hC] at hp hq
    obtain ⟨x, hx, rfl⟩ := List.getElem_of_mem hp
    obtain ⟨y, hy, rfl⟩ := List.getElem_of_mem hq
    rw [place_get hn x hx, place_get hn y hy] at e
    subst e; rfl
/-- A plan laid, on both. -/
theorem Twin.planned {φ : Nat → Nat} {D : DSt} {M : RSt} (h : Twin φ D M) (l : List (Int × Int × Int)) : Twin φ { D with plan := l } { M with faults := l } :=
  ⟨h.names, h.sorted, h.once, h.file, h.inj, h.made, fun _ _ => rfl⟩
end Dk
end Go.Proofs.YtioidkbpjkcjeaaGreatDoor
namespace Go.Proofs.YtioidkbpjkcjeaaGreatDoor
set_option linter.unusedVariables false
open Go.RowKit Dk

/-- A row of names with the numbers of their files. -/
def RowN (w : World) (v : Value) (L : List (Nm × Nat)) : Prop :=
  (L = [] ∧ ∃ p c, v = .slice p 0 c) ∨ ∃ g off c, v = .slice (some ⟨g, off, none⟩) L.length c ∧ g < w.heap.size ∧
    ∀ W : World, W.heap[g]? = w.heap[g]? → ∀ j (h : j < L.length), W.cell? ⟨g, off + j * 2, none⟩ = some (.string (L[j]).1) ∧ W.cell? ⟨g, off + j * 2 + 1, none⟩ = some (.int .i64 (L[j]).2)
theorem RowN.kept {w w' : World} {v : Value} {L : List (Nm × Nat)} (h : RowN w v L) (hb : ∀ g, v.ownBlock = some g → w'.heap[g]? = w.heap[g]?) (hs : w.heap.size ≤ w'.heap.size) : RowN w' v L := by
  rcases h with h | ⟨g, off, c, rfl, hg, hc⟩
  · exact .inl h
  · have e := hb g rfl
    exact .inr ⟨g, off, c, rfl, by omega, fun W hW => hc W (hW.trans e)⟩
/-- The number of a name's file, or -1. -/
def fileNo (L : List (Nm × Nat)) (s : Nm) : Int := match nmGet L s with | some i => i | none => -1
theorem fileNo_hit {s : Nm} {x : Int} {L : List (Nm × Nat)} {k : Nat} (h : k < L.length) (hk : fileNo (L.drop k) s = x) (e : (L[k]).1 = s) : x = (L[k]).2 := by
  subst hk
  unfold fileNo nmGet
  rw [List.drop_eq_getElem_cons h, List.find?_cons_of_pos (by simpa using e)]
  rfl
theorem fileNo_miss {s : Nm} {L : List (Nm × Nat)} {k : Nat} (h : k < L.length) (e : (L[k]).1 ≠ s) : fileNo (L.drop k) s = fileNo (L.drop (k + 1)) s := by
  unfold fileNo nmGet
  rw [List.drop_eq_getElem_cons h, List.find?_cons_of_neg (by simpa using e)]
theorem toList_ne {a b : ByteArray} : (a.toList == b.toList) = decide (a = b) := by
  rw [Go.ByteArray.toList_eq, Go.ByteArray.toList_eq]
  by_cases e : a = b
  · subst e; simp
  · have : a.data.toList ≠ b.data.toList := fun h => e (nm_ext h)
    simp only [e, decide_false, beq_eq_false_iff_ne]
    exact this

set_option maxHeartbeats 1000000 in
theorem rfind_any (L : List (Nm × Nat)) (v : Value) (s : ByteArray) (w : World) (h : RowN w v L) (hl : L.length ≤ maxLen) :
    Calls Tryz.prog 49 #[v, .string s] w fun e w' => e = .returned (.int .i64 (fileNo L s)) ∧ w = w' := by
  unfold maxLen at hl
  rcases h with ⟨rfl, p, c, rfl⟩ | ⟨g, off, c, rfl, hg, hc⟩
  · have e : fileNo [] s = -1 := rfl
    rw [e]
    go_enter Tryz.func49, Tryz.ntmps49
    go_wp2
    go_loop [5] (fun i => i = .int .i64 0) (fun _ => 0)
    case atStart => rfl
    case round =>
      subst hrel
      go_wp2
      go_ret
      exact ⟨rfl, rfl⟩
  · go_enter Tryz.func49, Tryz.ntmps49
    have HC := Lib.hid hc
    clear hc
    go_wp2
    go_loop [5] (fun i => ∃ k : Nat, k ≤ L.length ∧ i = .int .i64 k ∧ fileNo (L.drop k) s = fileNo L s) (fun i => L.length - (intOf i).toNat)
    case atStart => exact ⟨0, Nat.zero_le _, rfl, by simp⟩
    case round =>
      obtain ⟨k, hk, rfl, hd⟩ := hrel
      have HD := Lib.hid hd
      clear hd
      by_cases hlt : k < L.length
      · obtain ⟨c0, c1⟩ := HC.out w rfl k hlt
        by_cases hs : (L[k]).1 = s
        · have hx := fileNo_hit hlt HD.out hs
          rw [hx]
          rw [hs] at c0
          obtain ⟨x, hx2⟩ : ∃ x, x = (L[k]).2 := ⟨_, rfl⟩
          rw [← hx2] at c1
          have HX := Lib.hid hx2
          clear hx2
          go_wp2
          go_ret
          exact ⟨by rw [← HX.out]; rfl, rfl⟩
        · have hm := fileNo_miss hlt hs
          have hb : ((L[k]).1.toList == s.toList) = false := by rw [toList_ne]; simpa using hs
          have HM := Lib.hid (hm.symm.trans HD.out)
          clear hm hs
          generalize (L[k]).1 = n at c0 hb
          clear c1
          go_wp2
          go_round
          case rel => exact ⟨k + 1, by omega, by go_num, HM.out⟩
          case measure => simp [intOf]; omega
      · obtain rfl : k = L.length := by omega
        have hx : fileNo L s = -1 := by rw [← HD.out]; simp [fileNo, nmGet]
        rw [hx]
        go_wp2
        go_ret
        exact ⟨rfl, rfl⟩

/-! ### without -/
def nameCells (L : List (Nm × Nat)) : List Value := L.flatMap (fun p => [.string p.1, .int .i64 p.2])
theorem infoName : (Tryz.prog.info? 119).map (fun i => (i.zero, i.size, i.bytes)) = some (some (.agg #[.string ⟨#[]⟩, .int .i64 0]), 2, 24) := by kernel_rfl
theorem take_del_keep {L : List (Nm × Nat)} {s : Nm} {k : Nat} (h : k < L.length) (e : (L[k]).1 ≠ s) : nmDel (L.take (k + 1)) s = nmDel (L.take k) s ++ [L[k]] := by
  unfold nmDel
  rw [List.take_succ_eq_append_getElem h, List.filter_append, List.filter_cons_of_pos (by simpa using e)]
  rfl
theorem take_del_drop {L : List (Nm × Nat)} {s : Nm} {k : Nat} (h : k < L.length) (e : (L[k]).1 = s) : nmDel (L.take (k + 1)) s = nmDel (L.take k) s := by
  unfold nmDel
  rw [List.take_succ_eq_append_getElem h, List.filter_append, List.filter_cons_of_neg (by simpa using e)]
  simp
theorem RowN.at {w : World} {q : Option Addr} {n c : Nat} {L : List (Nm × Nat)} (h : RowN w (.slice q n c) L) {k : Nat} (hk : k < L.length) :
    ∃ g off, q = some ⟨g, off, none⟩ ∧ g < w.heap.size ∧ ∀ W : World, W.heap[g]? = w.heap[g]? → W.cell? ⟨g, off + k * 2, none⟩ = some (.string (L[k]).1) ∧ W.cell? ⟨g, off + k * 2 + 1, none⟩ = some (.int .i64 (L[k]).2) := by
  rcases h with ⟨h, _⟩ | ⟨g, off, c, e, hg, hc⟩
  · rw [h] at hk; simp at hk
  · injection e with e1 _ _
    exact ⟨g, off, e1, hg, fun W hW => hc W hW k hk⟩
def WithoutR (w : World) (L : List (Nm × Nat)) (v : Value) (wr : World) : Prop := wr.ownsRow w.heap.size 119 2 v L.length (nameCells L) ∧ Below w.heap.size w wr
set_option maxHeartbeats 2000000 in
set_option maxRecDepth 100000 in
theorem without_any (L : List (Nm × Nat)) (v : Value) (s : ByteArray) (w : World) (h : RowN w v L) (hl : L.length ≤ 1099511627776) :
    Calls Tryz.prog 69 #[v, .string s] w fun e w' => ∃ u, e = .returned u ∧ WithoutR w (nmDel L s) u w' := by
  obtain ⟨i0, hi, hz0, hz1, hz2⟩ := info_parts infoName
  have hform : ∃ q c, v = .slice q L.length c := by
    rcases h with ⟨rfl, p, c, rfl⟩ | ⟨g, off, c, rfl, _⟩ <;> exact ⟨_, _, rfl⟩
  obtain ⟨q, c, rfl⟩ := hform
  have H := Lib.hid h
  clear h
  go_enter Tryz.func69, Tryz.ntmps69
  go_wp2
  go_loopw [5, 6] (fun u i wr => ∃ k : Nat, k ≤ L.length ∧ i = .int .i64 k ∧ WithoutR w (nmDel (L.take k) s) u wr) (fun _ i _ => L.length - (intOf i).toNat)
  case atStart => exact ⟨0, Nat.zero_le _, rfl, World.ownsRow_nil _ _ _ _, Below.refl _ _⟩
  case round =>
    obtain ⟨k, hk, rfl, hown, hbel⟩ := hrel
    by_cases hlt : k < L.length
    · obtain ⟨g, off, hp, hg, hc⟩ := H.out.at hlt
      obtain ⟨c0, c1⟩ := hc wr (hbel.block g hg)
      clear hc
      subst hp
      by_cases hs : (L[k]).1 = s
      · have HN : Hid (WithoutR w (nmDel (L.take (k + 1)) s) u5 wr) := Lib.hid (by rw [take_del_drop hlt hs]; exact ⟨hown, hbel⟩)
        rw [hs] at c0
        clear c1 hs hown hbel
        go_wp2
        go_roundw
        case rel => exact ⟨k + 1, by omega, by go_num, HN.out⟩
        case measure => simp [intOf]; omega
      · have hb : ((L[k]).1.toList == s.toList) = false := by rw [toList_ne]; simpa using hs
        have HT := Lib.hid (take_del_keep hlt hs)
        clear hs
        have hbd : (nmDel (L.take k) s).length ≤ 1099511627776 := by have := length_nmDel_le (L.take k) s; have := List.length_take_le k L; omega
        generalize hx : L[k] = x at c0 c1 hb HT
        obtain ⟨n, x⟩ := x
        simp only at c0 c1 hb
        clear hx
        have HO := Lib.hid hown
        have HB := Lib.hid hbel
        have HBD := Lib.hid hbd
        clear hown hbel hbd
        go_wp2_with (at_builtin; refine wpList_append_own _ rfl _ _ 28 rfl w.heap.size 119 i0 (.agg #[.string ⟨#[]⟩, .int .i64 0]) 2 24 Tryz.underlying28 hi hz0 hz1 hz2 rfl (by decide) _ _ _ rfl (HO.out.alloc _) ⟨wr.heap.size, 0, none⟩ 1 1 [.string n, .int .i64 (x : Int)] rfl rfl ?c1 ?c2 ?c3 ?c4 ?c5 ?_)
        case c1 =>
          intro j u hj
          match j, hj with
          | 0, hj => simp at hj; subst hj; simp [Addr.add]
          | 1, hj => simp at hj; subst hj; simp [Addr.add]
        case c2 => intro u hu; simp at hu; rcases hu with rfl | rfl <;> rfl
        case c3 => have := HBD.out; unfold maxLen; omega
        case c4 => have := HBD.out; omega
        case c5 => have := HB.out.size; simp; omega
        · intro v' w1 hown' hgrow _
          have hb2 : Below w.heap.size w w1 := by
            refine (HB.out.alloc HB.out.size _).grown hgrow (by have := HB.out.size; simp; omega) fun k hk => ?_
            obtain ⟨_, h | ⟨g, cap, cur, rfl, hg, _⟩⟩ := HO.out
            · rw [h.1] at hk; cases hk
            · simp [Value.ownBlock] at hk; omega
          have ho2 : w1.ownsRow w.heap.size 119 2 v' (nmDel (L.take (k + 1)) s).length (nameCells (nmDel (L.take (k + 1)) s)) := by
            rw [HT.out, List.length_append]
            have e : nameCells (nmDel (L.take k) s ++ [(n, x)]) = nameCells (nmDel (L.take k) s) ++ [.string n, .int .i64 (x : Int)] := by simp [nameCells]
            rw [e]; exact hown'
          have HN : Hid (WithoutR w (nmDel (L.take (k + 1)) s) v' w1) := Lib.hid ⟨ho2, hb2⟩
          clear hown' hgrow ho2 hb2
          go_wp2
          go_roundw
          case rel => exact ⟨k + 1, by omega, by go_num, HN.out⟩
          case measure => simp [intOf]; omega
    · obtain rfl : k = L.length := by omega
      have HN : Hid (WithoutR w (nmDel L s) u5 wr) := Lib.hid (by rw [List.take_length] at hown; exact ⟨hown, hbel⟩)
      clear hown hbel
      go_wp2
      go_ret
      exact ⟨_, rfl, HN.out⟩
theorem nameCells_get : ∀ (L : List (Nm × Nat)) (j : Nat) (h : j < L.length), (nameCells L)[j * 2]? = some (.string (L[j]).1) ∧ (nameCells L)[j * 2 + 1]? = some (.int .i64 (L[j]).2)
  | p :: r, 0, _ => ⟨rfl, rfl⟩
  | p :: r, j + 1, h => by
    have hj : j < r.length := by simpa using h
    have := nameCells_get r j hj
    have e : nameCells (p :: r) = .string p.1 :: .int .i64 p.2 :: nameCells r := rfl
    rw [e, show (j + 1) * 2 = j * 2 + 1 + 1 by omega]
    simpa using this
theorem row_names {w : World} {base : Nat} {v : Value} {L : List (Nm × Nat)} (h : w.ownsRow base 119 2 v L.length (nameCells L)) : RowN w v L := by
  rcases Nat.eq_zero_or_pos L.length with h0 | h0
  · have : L = [] := List.eq_nil_of_length_eq_zero h0
    subst this
    rcases h.2 with ⟨rfl, _⟩ | ⟨g, cap, cur, rfl, _⟩
    · exact .inl ⟨rfl, _, _, rfl⟩
    · exact .inl ⟨rfl, _, _, rfl⟩
  · obtain ⟨g, c, rfl, hg, _, _, hc⟩ := ownsRow_cell h h0
    exact .inr ⟨g, 0, c, rfl, hg, fun W hW j hj => by
      have := nameCells_get L j hj
      rw [Nat.zero_add]
      exact ⟨hc W hW _ _ this.1, hc W hW _ _ this.2⟩⟩
/-- How the order of names is spelled in a walk. -/
theorem less_list (x y : List UInt8) : Op.bytesLess x y = decide (x < y) := by
  induction x generalizing y with
  | nil => cases y <;> simp [Op.bytesLess]
  | cons a r ih =>
    cases y with
    | nil => simp [Op.bytesLess]
    | cons b q =>
      rw [Op.bytesLess, ih, Bool.eq_iff_iff]
      simp [List.cons_lt_cons_iff]
theorem less_lt (a b : ByteArray) : Op.bytesLess a.toList b.toList = ltN a b := by
  rw [less_list, Go.ByteArray.toList_eq, Go.ByteArray.toList_eq]; rfl
/-- A row of names behind an own one: the source may be nil. -/
theorem append_rows {w : World} {base : Nat} {v : Value} {A B : List (Nm × Nat)} {q : Option Addr} {c : Nat} (hown : w.ownsRow base 119 2 v A.length (nameCells A))
    (hs : (q = none ∧ B = []) ∨ ∃ ad, q = some ad ∧ ∀ j u, (nameCells B)[j]? = some u → w.cell? (ad.add j) = some u) (hb : A.length + B.length ≤ 2199023255552) (hbase : base ≤ w.heap.size) :
    ∃ v' w', (∀ ty, (Builtin.append_ #[28, 28] ty #[v, .slice q B.length c]).run Tryz.prog w = .ok v' w') ∧ w'.ownsRow base 119 2 v' (A ++ B).length (nameCells (A ++ B)) ∧ w.grownBy w' v.ownBlock := by
  obtain ⟨i0, hi, hz0, hz1, hz2⟩ := info_parts infoName
  have hlen : ∀ L : List (Nm × Nat), (nameCells L).length = L.length * 2 := fun L => by
    induction L with
    | nil => rfl
    | cons p r ih => show (nameCells r).length + 1 + 1 = _; rw [ih, List.length_cons]; omega
  rcases hs with ⟨rfl, rfl⟩ | ⟨ad, rfl, hc⟩
  · refine ⟨v, w, fun ty => ?_, by simpa using hown, ⟨rfl, rfl, rfl, Nat.le_refl _, fun _ _ _ => rfl⟩⟩
    have ht := Tryz.underlying28
    rcases hown.2 with ⟨rfl, h0⟩ | ⟨g, cap, cur, rfl, _, hg, h1, _⟩
    · simp [Builtin.append_, run_underlying ht, sizeOf, typeInfo, hi, Builtin.lenOf, Builtin.firstCells]
    · simp [Builtin.append_, run_underlying ht, sizeOf, typeInfo, hi, Builtin.lenOf, Builtin.firstCells, storeCells, h1]
  · obtain ⟨v', w', hr, h2, h3, _⟩ := run_append_own_at (P := Tryz.prog) w base 28 28 119 i0 _ 2 24 Tryz.underlying28 hi hz0 hz1 hz2 rfl (by decide) v A.length (nameCells A) hown ad B.length c (nameCells B) (hlen B) hc
      (fun u hu => by
        obtain ⟨p, _, hp⟩ := List.mem_flatMap.1 hu
        simp at hp
        rcases hp with rfl | rfl <;> rfl) (by unfold maxLen; omega) (by omega) hbase
    have e : nameCells (A ++ B) = nameCells A ++ nameCells B := by simp [nameCells]
    exact ⟨v', w', fun _ => hr, by rw [e, List.length_append]; exact h2, h3⟩
end Go.Proofs.YtioidkbpjkcjeaaGreatDoor
namespace Go.Proofs.YtioidkbpjkcjeaaGreatDoor
set_option linter.unusedVariables false
open Go.RowKit Dk
theorem while_split {α : Type} (f : α → Bool) : ∀ (M : List α) (k : Nat), (M.take k).all f = true → (∀ h : k < M.length, f (M[k]) = false) → k ≤ M.length → M.takeWhile f = M.take k ∧ M.dropWhile f = M.drop k
  | [], k, _, _, hk => by simp
  | x :: M, 0, _, h, _ => by
    have := h (by simp)
    simp only [List.getElem_cons_zero] at this
    simp [List.takeWhile_cons, List.dropWhile_cons, this]
  | x :: M, k + 1, h1, h2, hk => by
    simp only [List.take_succ_cons, List.all_cons, Bool.and_eq_true] at h1
    obtain ⟨i1, i2⟩ := while_split f M k h1.2 (fun h => by have := h2 (by simpa using h); simpa using this) (by simpa using hk)
    simp [List.takeWhile_cons, List.dropWhile_cons, h1.1, i1, i2]
theorem all_more {α : Type} (f : α → Bool) {M : List α} {k : Nat} (h : k < M.length) (h1 : (M.take k).all f = true) (h2 : f (M[k]) = true) : (M.take (k + 1)).all f = true := by
  rw [List.take_succ_eq_append_getElem h, List.all_append, h1]
  simp [h2]
theorem ownsRow_base {w : World} {base b2 : Nat} {e : TypeId} {z : Nat} {v : Value} {n : Nat} {xs : List Value} (h : w.ownsRow base e z v n xs) (hb : b2 ≤ base) : w.ownsRow b2 e z v n xs := by
  refine ⟨h.1, ?_⟩
  rcases h.2 with h0 | ⟨g, cap, cur, rfl, h1, h2⟩
  · exact .inl h0
  · exact .inr ⟨g, cap, cur, rfl, Nat.le_trans hb h1, h2⟩
theorem cells_length : ∀ (M : List (Nm × Nat)), (nameCells M).length = M.length * 2
  | [] => rfl
  | p :: r => by
    have := cells_length r
    show (nameCells r).length + 1 + 1 = _
    rw [this, List.length_cons]; omega
theorem row_cells {w : World} {g n c : Nat} {M : List (Nm × Nat)} (h : RowN w (.slice (some ⟨g, 0, none⟩) n c) M) (W : World) (hW : W.heap[g]? = w.heap[g]?) (j : Nat) (u : Value) (hj : (nameCells M)[j]? = some u) : W.cell? ⟨g, j, none⟩ = some u := by
  have hl : j < (nameCells M).length := (List.getElem?_eq_some_iff.1 hj).1
  rw [cells_length] at hl
  have ha : j / 2 < M.length := by omega
  obtain ⟨g', off, hp, -, hc⟩ := h.at ha
  obtain ⟨rfl, rfl⟩ : g' = g ∧ off = 0 := by injection hp with hp; injection hp with h1 h2; exact ⟨h1.symm, h2.symm⟩
  obtain ⟨c0, c1⟩ := hc W hW
  obtain ⟨d0, d1⟩ := nameCells_get M (j / 2) ha
  rw [Nat.zero_add] at c0 c1
  rcases Nat.mod_two_eq_zero_or_one j with hm | hm
  · have e : j / 2 * 2 = j := by omega
    rw [e] at c0 d0
    rw [c0, ← d0, hj]
  · have e : j / 2 * 2 + 1 = j := by omega
    rw [e] at c1 d1
    rw [c1, ← d1, hj]
theorem cells_app (A B : List (Nm × Nat)) : nameCells (A ++ B) = nameCells A ++ nameCells B := by simp [nameCells]
theorem take_cells {M : List (Nm × Nat)} {k j : Nat} {u : Value} (h : (nameCells (M.take k))[j]? = some u) : (nameCells M)[j]? = some u := by
  rw [← List.take_append_drop k M, cells_app, List.getElem?_append_left (List.getElem?_eq_some_iff.1 h).1, h]
theorem drop_cells {M : List (Nm × Nat)} {k j : Nat} {u : Value} (hk : k ≤ M.length) (h : (nameCells (M.drop k))[j]? = some u) : (nameCells M)[k * 2 + j]? = some u := by
  have hl : (nameCells (M.take k)).length = k * 2 := by rw [cells_length]; simp; omega
  have e : nameCells M = nameCells (M.take k) ++ nameCells (M.drop k) := by rw [← cells_app, List.take_append_drop]
  rw [e, List.getElem?_append_right (by omega), hl, show k * 2 + j - k * 2 = j by omega, h]
set_option maxHeartbeats 2000000 in
set_option maxRecDepth 100000 in
theorem with_any (L : List (Nm × Nat)) (v : Value) (s : ByteArray) (i : Nat) (w : World) (h : RowN w v L) (hl : L.length ≤ 1099511627776) :
    Calls Tryz.prog 68 #[v, .string s, .int .i64 i] w fun e w' => ∃ u, e = .returned u ∧ WithoutR w (nmPut L s i) u w' := by
  have hform : ∃ q c, v = .slice q L.length c := by
    rcases h with ⟨rfl, p, c, rfl⟩ | ⟨g, off, c, rfl, _⟩ <;> exact ⟨_, _, rfl⟩
  have HWO := Lib.hid (without_any L v s w h hl)
  have hM : (nmDel L s).length ≤ 1099511627776 := Nat.le_trans (length_nmDel_le L s) hl
  obtain ⟨q, c, rfl⟩ := hform
  have HPU : Hid (∀ A B, (nmDel L s).takeWhile (fun p => ltN p.1 s) = A → (nmDel L s).dropWhile (fun p => ltN p.1 s) = B → nmPut L s i = (A ++ [(s, i)]) ++ B) := Lib.hid (fun A B h1 h2 => by unfold nmPut; rw [h1, h2]; simp)
  generalize nmDel L s = M at *
  generalize nmPut L s i = R at *
  generalize L.length = nL at *
  clear h
  go_enter Tryz.func68, Tryz.ntmps68
  go_wp2_with fail
  refine HWO.out.mono ?_
  clear HWO
  rintro e w1 ⟨u0, rfl, hown, hbel⟩
  have HR := Lib.hid (row_names hown)
  have HB := Lib.hid hbel
  have HM := Lib.hid hM
  rcases hown with ⟨-, ⟨rfl, h0⟩ | ⟨g, cap, cur, rfl, hbg, hgc, hcap, hmax, -⟩⟩
  · obtain rfl : M = [] := List.eq_nil_of_length_eq_zero h0
    clear h0 hbel hM hl
    obtain ⟨v1, W1, run1, own1, gr1⟩ := append_rows (base := w1.heap.size) (w := w1) (v := .slice none 0 0) (A := []) (B := []) (q := none) (c := 0) (World.ownsRow_nil w1 _ _ _) (.inl ⟨rfl, rfl⟩) (by simp) (Nat.le_refl _)
    have own1' : (W1.alloc (.cells #[.string s, .int .i64 i] 119)).ownsRow w1.heap.size 119 2 v1 ([] ++ [] : List (Nm × Nat)).length (nameCells ([] ++ [])) := own1.alloc _
    have hwg : w1.heap.size ≤ W1.heap.size := gr1.size
    obtain ⟨v2, W2, run2, own2, gr2⟩ := append_rows (base := w1.heap.size) (A := [] ++ []) (B := [(s, i)]) (q := some ⟨W1.heap.size, 0, none⟩) (c := 1) own1' (.inr ⟨_, rfl, fun j u hu => by
      match j, hu with
      | 0, hu => simp [nameCells] at hu; subst hu; simp [Addr.add]
      | 1, hu => simp [nameCells] at hu; subst hu; simp [Addr.add]⟩) (by simp) (by simp; omega)
    obtain ⟨v3, W3, run3, own3, gr3⟩ := append_rows (base := w1.heap.size) (A := [] ++ [] ++ [(s, i)]) (B := []) (q := none) (c := 0) own2 (.inl ⟨rfl, rfl⟩) (by simp) (by have := gr2.size; simp at this; omega)
    have b1 : Below w1.heap.size w1 W1 := (Below.refl _ _).grown gr1 (Nat.le_refl _) (fun k hk => by cases hk)
    have b1' := b1.alloc b1.size (.cells #[.string s, .int .i64 i] 119)
    have b2 := b1'.grown gr2 b1'.size (fun g hg => (own1.lt g hg).1)
    have b3 := b2.grown gr3 b2.size (fun g hg => (own2.lt g hg).1)
    have HF : Hid (WithoutR w R v3 W3) := Lib.hid (by
      have e := HPU.out [] [] rfl rfl
      rw [e]
      exact ⟨ownsRow_base own3 HB.out.size, HB.out.trans (b3.mono HB.out.size)⟩)
    clear b1 b1' b2 b3 own1 own1' own2 own3 gr1 gr2 gr3 hwg
    go_wp2_with fail
    go_loopw [7] (fun j wr => j = .int .i64 0 ∧ wr = w1) (fun _ _ => 0)
    case atStart => exact ⟨rfl, rfl⟩
    case round =>
      obtain ⟨rfl, hwr⟩ := hrel
      subst hwr
      go_wp2_with (first
        | (at_builtin; refine wpList_append_run (by rfl) _ _ _ _ (by rfl) _ _ v1 W1 (by rfl) (by rfl) run1 ?_)
        | (at_builtin; refine wpList_append_run (by rfl) _ _ _ _ (by rfl) _ _ v2 W2 (by rfl) (by rfl) run2 ?_)
        | (at_builtin; refine wpList_append_run (by rfl) _ _ _ _ (by rfl) _ _ v3 W3 (by rfl) (by rfl) run3 ?_))
      go_ret
      exact ⟨_, rfl, HF.out⟩
  · have hg : g < w1.heap.size := (Array.getElem?_eq_some_iff.1 hgc).1
    have HG := Lib.hid hg
    have HBG := Lib.hid hbg
    have HCAP := Lib.hid hcap
    have HMAX := Lib.hid hmax
    clear hgc hbg hbel hM hl hcap hmax hg
    go_wp2_with fail
    obtain ⟨w2, hw2⟩ : ∃ w2 : World, w2 = w1 := ⟨_, rfl⟩
    have HW2 := Lib.hid hw2
    clear hw2
    go_loopw [7] (fun j wr => ∃ k : Nat, k ≤ M.length ∧ j = .int .i64 k ∧ (M.take k).all (fun p => ltN p.1 s) = true ∧ wr = w1) (fun j _ => M.length - (intOf j).toNat)
    case atStart => exact ⟨0, Nat.zero_le _, rfl, by simp, rfl⟩
    case round =>
      obtain ⟨k, hk, rfl, hall, hwr⟩ := hrel
      subst hwr
      have hcase : (∃ h : k < M.length, ltN (M[k]).1 s = true) ∨ (∃ h : k < M.length, ltN (M[k]).1 s = false) ∨ k = M.length := by
        by_cases hlt : k < M.length
        · cases hb : ltN (M[k]).1 s with
          | true => exact .inl ⟨hlt, hb⟩
          | false => exact .inr (.inl ⟨hlt, hb⟩)
        · exact .inr (.inr (by omega))
      rcases hcase with ⟨hlt, hb⟩ | hend
      · obtain ⟨g', off, hp, -, hc⟩ := HR.out.at hlt
        obtain ⟨rfl, rfl⟩ : g' = g ∧ off = 0 := by injection hp with hp; injection hp with h1 h2; exact ⟨h1.symm, h2.symm⟩
        obtain ⟨c0, -⟩ := hc wr rfl
        rw [Nat.zero_add] at c0
        have hbb : Op.bytesLess (M[k]).1.toList s.toList = true := by rw [less_lt]; exact hb
        have HN := Lib.hid (all_more _ hlt hall hb)
        have hkb : k < 1099511627777 := by have := HM.out; omega
        clear hc hp hb hall
        generalize (M[k]).1 = n at c0 hbb
        go_wp2
        go_roundw
        case rel => exact ⟨k + 1, by omega, by go_num, HN.out, trivial⟩
        case measure => simp [intOf]; omega
      · have HT := Lib.hid (while_split (fun p => ltN p.1 s) M k hall (fun h => by
          rcases hend with ⟨_, hb⟩ | rfl
          · exact hb
          · omega) hk)
        have hend' : (∃ n : ByteArray, wr.cell? ⟨g, k * 2, none⟩ = some (.string n) ∧ Op.bytesLess n.toList s.toList = false ∧ k < M.length) ∨ k = M.length := by
          rcases hend with ⟨hlt, hb⟩ | h
          · obtain ⟨g', off, hp, -, hc⟩ := HR.out.at hlt
            obtain ⟨rfl, rfl⟩ : g' = g ∧ off = 0 := by injection hp with hp; injection hp with h1 h2; exact ⟨h1.symm, h2.symm⟩
            exact .inl ⟨_, by have := (hc wr rfl).1; rwa [Nat.zero_add] at this, by rw [less_lt]; exact hb, hlt⟩
          · exact .inr h
        clear hend hall
        have hkc : (k : Int) ≤ (cap : Int) := by have := HCAP.out; omega
        have hlen1 : (M.take k).length = k := by simp; omega
        obtain ⟨v1, W1, run1, own1, gr1⟩ := append_rows (base := wr.heap.size) (v := .slice none 0 0) (A := []) (B := M.take k) (q := some ⟨g, 0, none⟩) (c := cap) (World.ownsRow_nil wr _ _ _) (.inr ⟨_, rfl, fun j u hu => by
          have := row_cells HR.out wr rfl j u (take_cells hu)
          rw [show (⟨g, 0, none⟩ : Addr).add j = ⟨g, j, none⟩ by unfold Addr.add; simp; intro h; rw [h]]
          exact this⟩) (by have := HM.out; simp; omega) (Nat.le_refl _)
        rw [hlen1] at run1
        have hwg : wr.heap.size ≤ W1.heap.size := gr1.size
        have own1' : (W1.alloc (.cells #[.string s, .int .i64 i] 119)).ownsRow wr.heap.size 119 2 v1 ([] ++ M.take k).length (nameCells ([] ++ M.take k)) := own1.alloc _
        obtain ⟨v2, W2, run2, own2, gr2⟩ := append_rows (base := wr.heap.size) (A := [] ++ M.take k) (B := [(s, i)]) (q := some ⟨W1.heap.size, 0, none⟩) (c := 1) own1' (.inr ⟨_, rfl, fun j u hu => by
          match j, hu with
          | 0, hu => simp [nameCells] at hu; subst hu; simp [Addr.add]
          | 1, hu => simp [nameCells] at hu; subst hu; simp [Addr.add]⟩) (by have := HM.out; simp; omega) (by simp; omega)
        have hgW : W2.heap[g]? = wr.heap[g]? := by
          have hgl := HG.out
          have h1 := gr1.block g hgl (by simp [Value.ownBlock])
          have h2 := gr2.block g (by simp; omega) (fun e => by have := (own1.lt g e.symm).1; omega)
          rw [h2, heap_alloc_lt (by omega), h1]
        rcases Nat.lt_or_ge k cap with hck | hck
        · have hne : ¬ cap = k := by omega
          obtain ⟨v3, W3, run3, own3, gr3⟩ := append_rows (base := wr.heap.size) (A := [] ++ M.take k ++ [(s, i)]) (B := M.drop k) (q := some ⟨g, k * 2, none⟩) (c := cap - k) own2 (.inr ⟨_, rfl, fun j u hu => by
            have := row_cells HR.out W2 hgW (k * 2 + j) u (drop_cells hk hu)
            rw [show (⟨g, k * 2, none⟩ : Addr).add j = ⟨g, k * 2 + j, none⟩ by unfold Addr.add; split <;> simp_all]
            exact this⟩) (by have := HM.out; simp; omega) (by have := gr2.size; simp at this; omega)
          rw [List.length_drop] at run3
          have b1 : Below wr.heap.size wr W1 := (Below.refl _ _).grown gr1 (Nat.le_refl _) (fun k hk => by cases hk)
          have b1' := b1.alloc b1.size (.cells #[.string s, .int .i64 i] 119)
          have b2 := b1'.grown gr2 b1'.size (fun g hg => (own1.lt g hg).1)
          have b3 := b2.grown gr3 b2.size (fun g hg => (own2.lt g hg).1)
          have HF : Hid (WithoutR w R v3 W3) := Lib.hid (by
            have e := HPU.out _ _ HT.out.1 HT.out.2
            rw [List.nil_append] at own3
            rw [e]
            exact ⟨ownsRow_base own3 HB.out.size, HB.out.trans (b3.mono HB.out.size)⟩)
          clear b1 b1' b2 b3 own1 own1' own2 own3 gr1 gr2 gr3 hlen1 hwg hgW
          clear hck
          rcases hend' with ⟨n, c0, hbb, hlt⟩ | hke
          · go_wp2_with (first
              | (at_builtin; refine wpList_append_run (by rfl) _ _ _ _ (by rfl) _ _ v1 W1 (by rfl) (by rfl) run1 ?_)
              | (at_builtin; refine wpList_append_run (by rfl) _ _ _ _ (by rfl) _ _ v2 W2 (by rfl) (by rfl) run2 ?_)
              | (at_builtin; refine wpList_append_run (by rfl) _ _ _ _ (by rfl) _ _ v3 W3 (by rfl) (by rfl) run3 ?_))
            go_ret
            exact ⟨_, rfl, HF.out⟩
          · have hnl : ¬ (k < M.length) := by omega
            have hnk : ((k : Int) < (M.length : Int)) = False := by simp; omega
            clear hke
            go_wp2_with (first
              | (at_builtin; refine wpList_append_run (by rfl) _ _ _ _ (by rfl) _ _ v1 W1 (by rfl) (by rfl) run1 ?_)
              | (at_builtin; refine wpList_append_run (by rfl) _ _ _ _ (by rfl) _ _ v2 W2 (by rfl) (by rfl) run2 ?_)
              | (at_builtin; refine wpList_append_run (by rfl) _ _ _ _ (by rfl) _ _ v3 W3 (by rfl) (by rfl) run3 ?_))
            go_ret
            exact ⟨_, rfl, HF.out⟩
        · have hkM : k = M.length := by have := HCAP.out; omega
          obtain rfl : cap = k := by have := HCAP.out; omega
          have hdr : M.drop cap = [] := List.drop_of_length_le (by omega)
          obtain ⟨v3, W3, run3, own3, gr3⟩ := append_rows (base := wr.heap.size) (A := [] ++ M.take cap ++ [(s, i)]) (B := M.drop cap) (q := some ⟨g, 0, none⟩) (c := 0) own2 (.inr ⟨_, rfl, fun j u hu => by rw [hdr] at hu; simp [nameCells] at hu⟩) (by have := HM.out; simp; omega) (by have := gr2.size; simp at this; omega)
          rw [List.length_drop] at run3
          have b1 : Below wr.heap.size wr W1 := (Below.refl _ _).grown gr1 (Nat.le_refl _) (fun cap hk => by cases hk)
          have b1' := b1.alloc b1.size (.cells #[.string s, .int .i64 i] 119)
          have b2 := b1'.grown gr2 b1'.size (fun g hg => (own1.lt g hg).1)
          have b3 := b2.grown gr3 b2.size (fun g hg => (own2.lt g hg).1)
          have HF : Hid (WithoutR w R v3 W3) := Lib.hid (by
            have e := HPU.out _ _ HT.out.1 HT.out.2
            rw [List.nil_append] at own3
            rw [e]
            exact ⟨ownsRow_base own3 HB.out.size, HB.out.trans (b3.mono HB.out.size)⟩)
          clear b1 b1' b2 b3 own1 own1' own2 own3 gr1 gr2 gr3 hlen1 hwg hgW
          have hnk : ((cap : Int) < (M.length : Int)) = False := by simp; omega
          clear hck hend' hdr hkM
          go_wp2_with (first
            | (at_builtin; refine wpList_append_run (by rfl) _ _ _ _ (by rfl) _ _ v1 W1 (by rfl) (by rfl) run1 ?_)
            | (at_builtin; refine wpList_append_run (by rfl) _ _ _ _ (by rfl) _ _ v2 W2 (by rfl) (by rfl) run2 ?_)
            | (at_builtin; refine wpList_append_run (by rfl) _ _ _ _ (by rfl) _ _ v3 W3 (by rfl) (by rfl) run3 ?_))
          go_ret
          exact ⟨_, rfl, HF.out⟩
end Go.Proofs.YtioidkbpjkcjeaaGreatDoor
namespace Go.Proofs.YtioidkbpjkcjeaaGreatDoor
set_option linter.unusedVariables false
open Go.RowKit Dk
/-- A change of names as the document's disk keeps it. -/
structure Chg where
  kind : Int
  a : Nm
  b : Nm
  f : Nat
def Chg.sets (c : Chg) : List (Nm × Option Nat) := if c.kind = 1 then [(c.a, some c.f)] else if c.kind = 2 then [(c.a, none), (c.b, some c.f)] else [(c.a, none)]
theorem Chg.one {c : Chg} (h : c.kind = 1) (L : List (Nm × Nat)) : c.sets.foldl nmSet L = nmPut L c.a c.f := by unfold Chg.sets; rw [if_pos h]; rfl
theorem Chg.two {c : Chg} (h : c.kind = 2) (L : List (Nm × Nat)) : c.sets.foldl nmSet L = nmPut (nmDel L c.a) c.b c.f := by unfold Chg.sets; rw [if_neg (by omega), if_pos h]; rfl
theorem Chg.more {c : Chg} (h1 : c.kind ≠ 1) (h2 : c.kind ≠ 2) (L : List (Nm × Nat)) : c.sets.foldl nmSet L = nmDel L c.a := by unfold Chg.sets; rw [if_neg h1, if_neg h2]; rfl
theorem WithoutR.from {w0 w w' : World} {L : List (Nm × Nat)} {v : Value} (h : WithoutR w L v w') (hb : Below w0.heap.size w0 w) : WithoutR w0 L v w' := ⟨ownsRow_base h.1 hb.size, hb.trans (h.2.mono hb.size)⟩
theorem RowN.below {w w' : World} {v : Value} {L : List (Nm × Nat)} (h : RowN w v L) (g : Below w.heap.size w w') : RowN w' v L := by
  rcases h with h | ⟨b, off, c, rfl, hb, hc⟩
  · exact .inl h
  · exact .inr ⟨b, off, c, rfl, Nat.lt_of_lt_of_le hb g.size, fun W hW => hc W (hW.trans (g.block b hb))⟩
theorem RowN.form {w : World} {v : Value} {L : List (Nm × Nat)} (h : RowN w v L) : ∃ p c, v = .slice p L.length c := by
  rcases h with ⟨rfl, p, c, rfl⟩ | ⟨g, off, c, rfl, _⟩
  · exact ⟨p, c, rfl⟩
  · exact ⟨_, c, rfl⟩
theorem cellsFour {w : World} {g : Nat} {a b c d : Value} {T : TypeId} {m : Nat × Nat} (h : w.heap[g]? = some (.cells #[a, b, c, d] T m)) : w.cell? ⟨g, 0, none⟩ = some a ∧ w.cell? ⟨g, 1, none⟩ = some b ∧ w.cell? ⟨g, 2, none⟩ = some c ∧ w.cell? ⟨g, 3, none⟩ = some d := by
  refine ⟨?_, ?_, ?_, ?_⟩ <;> simp [World.cell?, h]
theorem heapLast (w : World) (o : Obj) : (w.alloc o).heap[w.heap.size]? = some o := by show (w.heap.push o)[w.heap.size]? = some o; simp
theorem belowNew (w : World) (o : Obj) : Below w.heap.size w (w.alloc o) := Below.alloc (Below.refl _ w) (Nat.le_refl _) o
/-- What the region of a renaming reads. -/
def DnS (w : World) (a b : Nm) (f : Int) (y : World) : Prop :=
  y.cell? ⟨w.heap.size, 1, none⟩ = some (.string a) ∧ y.cell? ⟨w.heap.size, 2, none⟩ = some (.string b) ∧ y.cell? ⟨w.heap.size, 3, none⟩ = some (.int .i64 f) ∧ Below w.heap.size w y
theorem DnS.then {w y z : World} {a b : Nm} {f : Int} (h : DnS w a b f y) (hb : Below y.heap.size y z) : DnS w a b f z := by
  obtain ⟨h1, h2, h3, h4⟩ := h
  have c : ∀ g j v, y.cell? ⟨g, j, none⟩ = some v → z.cell? ⟨g, j, none⟩ = some v := fun g j v e => by
    rw [← e]; exact World.cell?_of_block (w := y) (hb.block g (World.block_lt_of_cell? y _ e))
  exact ⟨c _ _ _ h1, c _ _ _ h2, c _ _ _ h3, h4.trans (hb.mono h4.size)⟩
set_option maxHeartbeats 2000000 in
set_option maxRecDepth 100000 in
theorem done_any (L : List (Nm × Nat)) (v : Value) (c : Chg) (w : World) (h : RowN w v L) (hl : L.length ≤ 1099511627776) :
    Calls Tryz.prog 48 #[v, .agg #[.int .i64 c.kind, .string c.a, .string c.b, .int .i64 c.f]] w fun e w' => ∃ u, e = .returned u ∧ WithoutR w (c.sets.foldl nmSet L) u w' := by
  obtain ⟨kd, a, b, f⟩ := c
  have HD := Lib.hid (fun W (g : Below w.heap.size w W) => without_any L v a W (h.below g) hl)
  have HP := Lib.hid (fun W (g : Below w.heap.size w W) => with_any L v a f W (h.below g) hl)
  have HW2 := Lib.hid (fun u W W0 (g : WithoutR W0 (nmDel L a) u W) => with_any (nmDel L a) u b f W (row_names g.1) (Nat.le_trans (length_nmDel_le L a) hl))
  have H1 := Lib.hid (Chg.one (c := ⟨kd, a, b, f⟩))
  have H2 := Lib.hid (Chg.two (c := ⟨kd, a, b, f⟩))
  have H3 := Lib.hid (Chg.more (c := ⟨kd, a, b, f⟩))
  simp only at H1 H2 H3
  generalize hR : (Chg.mk kd a b f).sets.foldl nmSet L = R
  have HR := Lib.hid hR
  clear hR
  obtain ⟨q, cc, rfl⟩ := h.form
  clear h hl
  generalize L.length = n at *
  obtain ⟨d0, d1, d2, d3⟩ := cellsFour (heapLast w (.cells #[.int .i64 kd, .string a, .string b, .int .i64 f] 117))
  have HB := Lib.hid (belowNew w (.cells #[.int .i64 kd, .string a, .string b, .int .i64 f] 117))
  go_enter Tryz.func48, Tryz.ntmps48
  by_cases h1 : kd = 1
  · have HE : Hid (R = nmPut L a f) := Lib.hid (by rw [← HR.out]; exact H1.out h1 L)
    have h1' : (kd == 1) = true := by simp [h1]
    clear h1
    go_wp2_with fail
    refine (HP.out _ HB.out).mono ?_
    rintro e w2 ⟨u, rfl, hu⟩
    have HU := Lib.hid (hu.from HB.out)
    clear hu d0 d1 d2 d3
    go_wp2_with fail
    go_ret
    rw [HE.out]
    exact ⟨_, rfl, HU.out⟩
  · have h1' : (kd == 1) = false := by simp [h1]
    by_cases h2 : kd = 2
    · have HE : Hid (R = nmPut (nmDel L a) b f) := Lib.hid (by rw [← HR.out]; exact H2.out h2 L)
      have h2' : (kd == 2) = true := by simp [h2]
      clear h1 h2 H1 H2 H3
      go_wp2_with fail
      generalize w.alloc (.cells #[.int .i64 kd, .string a, .string b, .int .i64 f] 117) = W0 at *
      have hS0 : W0.drew.cell? ⟨w.heap.size, 1, none⟩ = some (.string a) ∧ W0.drew.cell? ⟨w.heap.size, 2, none⟩ = some (.string b) ∧ W0.drew.cell? ⟨w.heap.size, 3, none⟩ = some (.int .i64 f) ∧ Below w.heap.size w W0.drew := ⟨d1, d2, d3, HB.out.drew⟩
      clear d0 d1 d2 d3
      go_region_held3 (fun y => y.cell? ⟨w.heap.size, 1, none⟩ = some (.string a) ∧ y.cell? ⟨w.heap.size, 2, none⟩ = some (.string b) ∧ y.cell? ⟨w.heap.size, 3, none⟩ = some (.int .i64 f) ∧ Below w.heap.size w y) (first | assumption | exact DnS.then (by assumption) hb | go_keep)
        (first
          | (go_at_call 69; refine (HD.out _ HB.out.drew).mono ?_; rintro e w5 ⟨u5, rfl, hu5⟩; have hb := hu5.2)
          | (go_at_call 68; refine (HW2.out _ _ _ hu5).mono ?_; rintro e w6 ⟨u6, rfl, hu6⟩; have hb := hu6.2))
      have HU := Lib.hid (hu6.from (HB.out.drew.trans (hu5.2.mono HB.out.drew.size)))
      clear hu5 hu6
      go_wp2_with fail
      go_ret
      rw [HE.out]
      exact ⟨_, rfl, HU.out⟩
    · have HE : Hid (R = nmDel L a) := Lib.hid (by rw [← HR.out]; exact H3.out h1 h2 L)
      have h2' : (kd == 2) = false := by simp [h2]
      clear h1 h2
      go_wp2_with fail
      refine (HD.out _ HB.out).mono ?_
      rintro e w2 ⟨u, rfl, hu⟩
      have HU := Lib.hid (hu.from HB.out)
      clear hu d0 d1 d2 d3
      go_wp2_with fail
      go_ret
      rw [HE.out]
      exact ⟨_, rfl, HU.out⟩
end Go.Proofs.YtioidkbpjkcjeaaGreatDoor
namespace Go.Proofs.YtioidkbpjkcjeaaGreatDoor
set_option linter.unusedVariables false
open Go.RowKit Dk
def ChgR (w : World) (v : Value) (L : List Chg) : Prop :=
  (L = [] ∧ ∃ p c, v = .slice p 0 c) ∨ ∃ g off c, v = .slice (some ⟨g, off, none⟩) L.length c ∧ g < w.heap.size ∧
    ∀ W : World, W.heap[g]? = w.heap[g]? → ∀ j (h : j < L.length), W.cell? ⟨g, off + j * 4, none⟩ = some (.int .i64 (L[j]).kind) ∧ W.cell? ⟨g, off + j * 4 + 1, none⟩ = some (.string (L[j]).a) ∧
      W.cell? ⟨g, off + j * 4 + 2, none⟩ = some (.string (L[j]).b) ∧ W.cell? ⟨g, off + j * 4 + 3, none⟩ = some (.int .i64 (L[j]).f)
def FltR (w : World) (v : Value) (L : List (Int × Int × Int)) : Prop :=
  (L = [] ∧ ∃ p c, v = .slice p 0 c) ∨ ∃ g off c, v = .slice (some ⟨g, off, none⟩) L.length c ∧ g < w.heap.size ∧
    ∀ W : World, W.heap[g]? = w.heap[g]? → ∀ j (h : j < L.length), W.cell? ⟨g, off + j * 3, none⟩ = some (.int .i64 (L[j]).1) ∧ W.cell? ⟨g, off + j * 3 + 1, none⟩ = some (.int .i64 (L[j]).2.1) ∧
      W.cell? ⟨g, off + j * 3 + 2, none⟩ = some (.int .i64 (L[j]).2.2)
theorem ChgR.kept {w w' : World} {v : Value} {L : List Chg} (h : ChgR w v L) (hb : ∀ g, v.ownBlock = some g → w'.heap[g]? = w.heap[g]?) (hs : w.heap.size ≤ w'.heap.size) : ChgR w' v L := by
  rcases h with h | ⟨g, off, c, rfl, hg, hc⟩
  · exact .inl h
  · have e := hb g rfl
    exact .inr ⟨g, off, c, rfl, by omega, fun W hW => hc W (hW.trans e)⟩
theorem FltR.kept {w w' : World} {v : Value} {L : List (Int × Int × Int)} (h : FltR w v L) (hb : ∀ g, v.ownBlock = some g → w'.heap[g]? = w.heap[g]?) (hs : w.heap.size ≤ w'.heap.size) : FltR w' v L := by
  rcases h with h | ⟨g, off, c, rfl, hg, hc⟩
  · exact .inl h
  · have e := hb g rfl
    exact .inr ⟨g, off, c, rfl, by omega, fun W hW => hc W (hW.trans e)⟩
theorem FltR.form {w : World} {v : Value} {L : List (Int × Int × Int)} (h : FltR w v L) : ∃ p c, v = .slice p L.length c := by
  rcases h with ⟨rfl, p, c, rfl⟩ | ⟨g, off, c, rfl, _⟩
  · exact ⟨p, c, rfl⟩
  · exact ⟨_, c, rfl⟩
theorem ChgR.form {w : World} {v : Value} {L : List Chg} (h : ChgR w v L) : ∃ p c, v = .slice p L.length c := by
  rcases h with ⟨rfl, p, c, rfl⟩ | ⟨g, off, c, rfl, _⟩
  · exact ⟨p, c, rfl⟩
  · exact ⟨_, c, rfl⟩
theorem flt_cell {w : World} {p : Option Addr} {n c : Nat} {L : List (Int × Int × Int)} (h : FltR w (.slice p n c) L) {j : Nat} (hj : j < L.length) :
    ∃ g off, p = some ⟨g, off, none⟩ ∧ ∀ W : World, W.heap[g]? = w.heap[g]? → W.cell? ⟨g, off + j * 3, none⟩ = some (.int .i64 (L[j]).1) ∧ W.cell? ⟨g, off + j * 3 + 1, none⟩ = some (.int .i64 (L[j]).2.1) ∧ W.cell? ⟨g, off + j * 3 + 2, none⟩ = some (.int .i64 (L[j]).2.2) := by
  rcases h with ⟨rfl, _⟩ | ⟨g, off, c2, hs, hg, hc⟩
  · cases hj
  · injection hs with e1 e2 e3
    exact ⟨g, off, e1, fun W hW => hc W hW j hj⟩
def fileCells (fs : List FileC) : List Value := fs.flatMap fun f => [.string ⟨f.data.toArray⟩, .int .i64 f.synced]
/-- The six cells of the document's disk, and that its rows lie apart. -/
structure RfTop (w : World) (B : Nat) (X : Nat → Prop) (M : RSt) (fv nv lv ov pv : Value) (cs : List Chg) : Prop where
  box : w.heap[B]? = some (.cells #[fv, nv, lv, ov, pv, .int .i64 M.made] 32 (0, 0))
  files : w.ownsRow 0 86 2 fv M.files.length (fileCells M.files)
  now : RowN w nv M.now
  last : RowN w lv M.last
  opn : ChgR w ov cs
  sets : M.opn = cs.map Chg.sets
  flt : FltR w pv M.faults
  apart : ∀ v, v = nv ∨ v = lv ∨ v = ov ∨ v = pv → ∀ g, v.ownBlock = some g → X g ∧ g ≠ B ∧ fv.ownBlock ≠ some g
  own : ∀ g, fv.ownBlock = some g → X g ∧ g ≠ B
  here : X B
  lt : ∀ b, X b → b < w.heap.size
def RfAt (w : World) (B : Nat) (X : Nat → Prop) (M : RSt) : Prop := ∃ fv nv lv ov pv cs, RfTop w B X M fv nv lv ov pv cs
/-- Blocks of others stay, those of the disk may turn, new ones come. -/
structure Rk (X : Nat → Prop) (w w' : World) : Prop where
  os : w'.os = w.os
  tape : w'.tape = w.tape
  output : w'.output = w.output
  size : w.heap.size ≤ w'.heap.size
  block : ∀ b, b < w.heap.size → ¬ X b → w'.heap[b]? = w.heap[b]?
theorem Rk.refl (X : Nat → Prop) (w : World) : Rk X w w := ⟨rfl, rfl, rfl, Nat.le_refl _, fun _ _ _ => rfl⟩
theorem Rk.trans {X : Nat → Prop} {w w1 w2 : World} (h : Rk X w w1) (k : Rk X w1 w2) : Rk X w w2 :=
  ⟨k.os.trans h.os, k.tape.trans h.tape, k.output.trans h.output, Nat.le_trans h.size k.size, fun b hb hx => (k.block b (Nat.lt_of_lt_of_le hb h.size) hx).trans (h.block b hb hx)⟩
/-- The disk's own blocks grow by new ones alone. -/
theorem Rk.trans' {X Y : Nat → Prop} {w w1 w2 : World} (h : Rk X w w1) (hy : ∀ b, Y b → X b ∨ w.heap.size ≤ b) (k : Rk Y w1 w2) : Rk X w w2 :=
  ⟨k.os.trans h.os, k.tape.trans h.tape, k.output.trans h.output, Nat.le_trans h.size k.size, fun b hb hx => (k.block b (Nat.lt_of_lt_of_le hb h.size) (fun c => (hy b c).elim hx (fun c => by omega))).trans (h.block b hb hx)⟩
theorem Rk.of {X : Nat → Prop} {w w' : World} (h : Below w.heap.size w w') : Rk X w w' := ⟨h.os, h.tape, h.output, h.size, fun b hb _ => h.block b hb⟩
theorem Rk.set {X : Nat → Prop} {w w' : World} (h : Rk X w w') {B k : Nat} {v : Value} (hB : X B ∨ w.heap.size ≤ B) : Rk X w (w'.setCell ⟨B, k, none⟩ v) :=
  ⟨h.os, h.tape, h.output, by simpa [World.setCell] using h.size, fun b hb hx => (heap_setCell_other _ _ _ _ (by rintro rfl; exact hB.elim hx (fun c => by omega))).trans (h.block b hb hx)⟩
section
variable {w w' : World} {B : Nat} {X : Nat → Prop} {M : RSt} {fv nv lv ov pv : Value} {cs : List Chg}
theorem RfTop.kept (h : RfTop w B X M fv nv lv ov pv cs) (hs : w.heap.size ≤ w'.heap.size) (hb : ∀ b, X b → w'.heap[b]? = w.heap[b]?) : RfTop w' B X M fv nv lv ov pv cs where
  box := (hb B h.here).trans h.box
  files := ownsRow_same h.files fun g hg => hb g (h.own g hg).1
  now := h.now.kept (fun g hg => hb g (h.apart nv (.inl rfl) g hg).1) hs
  last := h.last.kept (fun g hg => hb g (h.apart lv (.inr (.inl rfl)) g hg).1) hs
  opn := h.opn.kept (fun g hg => hb g (h.apart ov (.inr (.inr (.inl rfl))) g hg).1) hs
  sets := h.sets
  flt := h.flt.kept (fun g hg => hb g (h.apart pv (.inr (.inr (.inr rfl))) g hg).1) hs
  apart := h.apart
  own := h.own
  here := h.here
  lt := fun b hx => Nat.lt_of_lt_of_le (h.lt b hx) hs
theorem RfTop.below (h : RfTop w B X M fv nv lv ov pv cs) (hb : Below w.heap.size w w') : RfTop w' B X M fv nv lv ov pv cs := h.kept hb.size fun b hx => hb.block b (h.lt b hx)
theorem RfAt.kept (h : RfAt w B X M) (hs : w.heap.size ≤ w'.heap.size) (hb : ∀ b, X b → w'.heap[b]? = w.heap[b]?) : RfAt w' B X M := by
  obtain ⟨fv, nv, lv, ov, pv, cs, h⟩ := h
  exact ⟨fv, nv, lv, ov, pv, cs, h.kept hs hb⟩
theorem RfAt.below (h : RfAt w B X M) (hb : Below w.heap.size w w') : RfAt w' B X M := by
  obtain ⟨fv, nv, lv, ov, pv, cs, h⟩ := h
  exact ⟨fv, nv, lv, ov, pv, cs, h.below hb⟩
/-- A store into one of the six cells. -/
theorem RfTop.set (h : RfTop w B X M fv nv lv ov pv cs) (k : Nat) (v : Value) : (w.setCell ⟨B, k, none⟩ v).heap[B]? = some (.cells ((#[fv, nv, lv, ov, pv, .int .i64 M.made] : Array Value).setIfInBounds k v) 32 (0, 0)) ∧
    (w.setCell ⟨B, k, none⟩ v).heap.size = w.heap.size ∧ (∀ b, b ≠ B → (w.setCell ⟨B, k, none⟩ v).heap[b]? = w.heap[b]?) := by
  refine ⟨?_, by simp [World.setCell], fun b hb => heap_setCell_other _ _ _ _ hb⟩
  have := h.box
  simp [World.setCell, this, Array.getElem?_modify]
theorem RfTop.tick (h : RfTop w B X M fv nv lv ov pv cs) (m : Int) : RfTop (w.setCell ⟨B, 5, none⟩ (.int .i64 m)) B X { M with made := m } fv nv lv ov pv cs := by
  obtain ⟨h1, h2, h3⟩ := h.set 5 (.int .i64 m)
  have hs : w.heap.size ≤ (w.setCell ⟨B, 5, none⟩ (.int .i64 m)).heap.size := by rw [h2]; exact Nat.le_refl _
  exact ⟨h1, ownsRow_same h.files fun g hg => h3 g (h.own g hg).2, h.now.kept (fun g hg => h3 g (h.apart nv (.inl rfl) g hg).2.1) hs, h.last.kept (fun g hg => h3 g (h.apart lv (.inr (.inl rfl)) g hg).2.1) hs,
    h.opn.kept (fun g hg => h3 g (h.apart ov (.inr (.inr (.inl rfl))) g hg).2.1) hs, h.sets, h.flt.kept (fun g hg => h3 g (h.apart pv (.inr (.inr (.inr rfl))) g hg).2.1) hs, h.apart, h.own, h.here, fun b hx => by rw [h2]; exact h.lt b hx⟩
theorem RfTop.cells (h : RfTop w B X M fv nv lv ov pv cs) : (w.cell? ⟨B, 0, none⟩ = some fv ∧ w.cell? ⟨B, 1, none⟩ = some nv ∧ w.cell? ⟨B, 2, none⟩ = some lv) ∧ (w.cell? ⟨B, 3, none⟩ = some ov ∧ w.cell? ⟨B, 4, none⟩ = some pv ∧ w.cell? ⟨B, 5, none⟩ = some (.int .i64 M.made)) := by
  have := h.box
  refine ⟨⟨?_, ?_, ?_⟩, ?_, ?_, ?_⟩ <;> simp [World.cell?, this]
theorem RfTop.free (h : RfTop w B X M fv nv lv ov pv cs) (i : Nat) : w.frozen? ⟨B, i, none⟩ = false := by
  have := h.box
  simp [World.frozen?, this]
end
/-- What a step answers: its error, how many bytes a short one lays. -/
def hitE : Option (Int × Int × Int) → Int
  | none => 0
  | some f => if f.2.1 = 3 then 23 else 22
def hitN : Option (Int × Int × Int) → Int
  | none => -1
  | some f => if f.2.1 = 3 then -1 else if f.2.1 = 2 then f.2.2 else -1
def Dk.RSt.hit (M : RSt) : Option (Int × Int × Int) := M.faults.find? fun p => decide (p.1 = M.made + 1)
theorem find_hit {α} {L : List α} {p : α → Bool} {k : Nat} (h : k < L.length) (hn : (L.take k).find? p = none) (hp : p L[k] = true) : L.find? p = some L[k] := by
  have e : L.find? p = (L.take k ++ L.drop k).find? p := by rw [List.take_append_drop]
  rw [e, List.find?_append, hn, List.drop_eq_getElem_cons h, List.find?_cons, hp]; rfl
theorem find_miss {α} {L : List α} {p : α → Bool} {k : Nat} (h : k < L.length) (hn : (L.take k).find? p = none) (hp : p L[k] = false) : (L.take (k + 1)).find? p = none := by
  rw [List.take_succ_eq_append_getElem h, List.find?_append, hn]
  simp [hp]
theorem cellsThree {w : World} {g : Nat} {a b c : Value} {T : TypeId} {m : Nat × Nat} (h : w.heap[g]? = some (.cells #[a, b, c] T m)) : w.cell? ⟨g, 0, none⟩ = some a ∧ w.cell? ⟨g, 1, none⟩ = some b ∧ w.cell? ⟨g, 2, none⟩ = some c := by
  refine ⟨?_, ?_, ?_⟩ <;> simp [World.cell?, h]
theorem wrapNext {n k : Nat} (h : n ≤ maxLen) (hk : k < n) : wrap64 ((k : Int) + 1) = ((k + 1 : Nat) : Int) := by
  unfold maxLen at h; unfold wrap64; omega
theorem nextLess {n k : Nat} (h : k < n) : n - (intOf (.int .i64 ((k + 1 : Nat) : Int))).toNat < n - (intOf (.int .i64 (k : Int))).toNat := by
  simp only [intOf, Int.toNat_natCast]; omega
theorem belowDrewN {B : Nat} {w w' : World} (h : Below B w w') (n : Nat) : Below B w (w'.drewN n) := ⟨h.os, h.tape, h.output, h.size, h.block⟩
set_option maxHeartbeats 2000000 in
set_option maxRecDepth 100000 in
theorem rstep_any (B : Nat) (X : Nat → Prop) (M : RSt) (w : World) (h : RfAt w B X M) (h0 : 0 ≤ M.made) (h1 : M.made ≤ 4611686018427387904) (hl : M.faults.length ≤ maxLen) :
    Calls Tryz.prog 58 #[.pointer (some ⟨B, 0, none⟩)] w fun e w' => e = .returned (.tuple #[.int .i64 (hitE M.hit), .int .i64 (hitN M.hit)]) ∧ RfAt w' B X { M with made := M.made + 1 } ∧ Rk X w w' := by
  obtain ⟨fv, nv, lv, ov, pv, cs, ht⟩ := h
  obtain ⟨m1, hm1⟩ : ∃ m1, m1 = M.made + 1 := ⟨_, rfl⟩
  have hwr : wrap64 (M.made + 1) = m1 := by unfold wrap64; omega
  have HT := Lib.hid ht
  have HT1 := Lib.hid (ht.tick m1)
  have HK := Lib.hid ((Rk.refl X w).set (k := 5) (v := .int .i64 m1) (.inl ht.here))
  have HH : Hid (M.hit = M.faults.find? fun p => decide (p.1 = m1)) := Lib.hid (by rw [hm1]; rfl)
  obtain ⟨E, hE⟩ : ∃ E, E = hitE M.hit := ⟨_, rfl⟩
  obtain ⟨N, hN⟩ : ∃ N, N = hitN M.hit := ⟨_, rfl⟩
  rw [← hE, ← hN, ← hm1]
  have HEE := Lib.hid hE
  have HNN := Lib.hid hN
  obtain ⟨p, c, rfl⟩ := ht.flt.form
  obtain ⟨⟨a0, a1, a2⟩, a3, a4, a5⟩ := ht.cells
  have k5 := ht.free 5
  generalize M.made = m0 at *
  clear ht hm1 h0 h1 hE hN a0 a1 a2 a3 a4
  have HL := Lib.hid hl
  clear hl
  go_enter Tryz.func58, Tryz.ntmps58
  go_wp2_with fail
  clear a5 k5 hwr
  generalize w.setCell ⟨B, 5, none⟩ (.int .i64 m1) = W1 at *
  obtain ⟨n, hn⟩ : ∃ n, n = M.faults.length := ⟨_, rfl⟩
  have HNL := Lib.hid hn
  have hnl : n ≤ maxLen := by rw [hn]; exact HL.out
  have HNM := Lib.hid hnl
  rw [← hn] at HT1
  clear hn hnl HT
  have HFIN := Lib.hid (fun W (hb : Below W1.heap.size W1 W) => And.intro (show RfAt W B X { M with made := m1 } from ⟨_, _, _, _, _, _, HT1.out.below hb⟩) (HK.out.trans (Rk.of hb)))
  go_loopw [4] (fun i wr => ∃ k : Nat, k ≤ n ∧ i = .int .i64 k ∧ Below W1.heap.size W1 wr ∧ Hid ((M.faults.take k).find? (fun p => decide (p.1 = m1)) = none)) (fun i _ => n - (intOf i).toNat)
  case atStart => exact ⟨0, Nat.zero_le _, rfl, Below.refl _ _, Lib.hid rfl⟩
  case round =>
    obtain ⟨k, hk, rfl, hb, HA⟩ := hrel
    have HB := Lib.hid hb
    obtain ⟨wq, rfl⟩ : ∃ wq : World, wq = wr := ⟨_, rfl⟩
    have HQ := Lib.hid (HT1.out.below hb)
    obtain ⟨-, -, a4, a5⟩ := HQ.out.cells
    clear hb
    by_cases hlt : k < n
    · have hlk : k < M.faults.length := by rw [← HNL.out]; exact hlt
      obtain ⟨g, off, rfl, hc⟩ := flt_cell HQ.out.flt hlk
      obtain ⟨c0, c1, c2⟩ := hc wq rfl
      have VX := Lib.hid (find_hit hlk HA.out)
      have VY := Lib.hid (find_miss hlk HA.out)
      generalize M.faults[k] = y at *
      obtain ⟨ys, yk, yn⟩ := y
      simp only at c0 c1 c2
      obtain ⟨e0, e1, e2⟩ := cellsThree (heapLast wq (.cells #[.int .i64 ys, .int .i64 yk, .int .i64 yn] 40))
      have HQ2 := Lib.hid (HQ.out.below (belowNew wq (.cells #[.int .i64 ys, .int .i64 yk, .int .i64 yn] 40)))
      obtain ⟨-, -, b4, b5⟩ := HQ2.out.cells
      have HB2 := Lib.hid (HB.out.trans ((belowNew wq (.cells #[.int .i64 ys, .int .i64 yk, .int .i64 yn] 40)).mono HB.out.size))
      simp only at a5 b5
      clear hc hlk
      by_cases hs : ys = m1
      · have hs1 : (ys != m1) = false := by simp [hs]
        have HF : Hid (M.hit = some (ys, yk, yn)) := Lib.hid (HH.out.trans (VX.out (by simp [hs])))
        clear hs
        by_cases h3 : yk = 3
        · have hk3 : (yk == 3) = true := by simp [h3]
          have HE1 : Hid (E = 23 ∧ N = -1) := Lib.hid ⟨by rw [HEE.out, HF.out]; simp [hitE, h3], by rw [HNN.out, HF.out]; simp [hitN, h3]⟩
          clear h3
          go_wp2_with fail
          go_quiet (fail)
          go_wp2_with fail
          go_ret2
          rw [HE1.out.1, HE1.out.2]
          exact ⟨rfl, HFIN.out _ (belowDrewN HB2.out _)⟩
        · have hk3 : (yk == 3) = false := by simp [h3]
          by_cases h2 : yk = 2
          · have hk2 : (yk == 2) = true := by simp [h2]
            have HE1 : Hid (E = 22 ∧ N = yn) := Lib.hid ⟨by rw [HEE.out, HF.out]; simp [hitE, h3], by rw [HNN.out, HF.out]; simp [hitN, h2]⟩
            clear h3 h2
            go_wp2_with fail
            go_quiet (fail)
            go_wp2_with fail
            go_quiet (fail)
            go_wp2_with fail
            go_ret2
            rw [HE1.out.1, HE1.out.2]
            exact ⟨rfl, HFIN.out _ (belowDrewN (belowDrewN HB2.out _) _)⟩
          · have hk2 : (yk == 2) = false := by simp [h2]
            have HE1 : Hid (E = 22 ∧ N = -1) := Lib.hid ⟨by rw [HEE.out, HF.out]; simp [hitE, h3], by rw [HNN.out, HF.out]; simp [hitN, h2]⟩
            clear h3 h2
            go_wp2_with fail
            go_quiet (fail)
            go_wp2_with fail
            go_ret2
            rw [HE1.out.1, HE1.out.2]
            exact ⟨rfl, HFIN.out _ (belowDrewN HB2.out _)⟩
      · have hs1 : (ys != m1) = true := by simp [hs]
        have HX := Lib.hid (VY.out (by simp [hs]))
        clear hs
        go_wp2_with fail
        go_quiet (fail)
        go_wp2_with fail
        go_roundw
        case rel => exact ⟨k + 1, by omega, congrArg _ (wrapNext HNM.out hlt), belowDrewN HB2.out _, HX⟩
        case measure => rw [wrapNext HNM.out hlt]; exact nextLess hlt
    · obtain rfl : k = n := by omega
      have HE1 : Hid (E = 0 ∧ N = -1) := Lib.hid (by
        have h := HA.out
        rw [HNL.out, List.take_length] at h
        exact ⟨by rw [HEE.out, HH.out, h]; rfl, by rw [HNN.out, HH.out, h]; rfl⟩)
      go_wp2_with fail
      go_ret2
      rw [HE1.out.1, HE1.out.2]
      exact ⟨rfl, HFIN.out _ HB.out⟩
end Go.Proofs.YtioidkbpjkcjeaaGreatDoor
namespace Go.Proofs.YtioidkbpjkcjeaaGreatDoor
set_option linter.unusedVariables false
open Go.RowKit Dk
def chgCells (L : List Chg) : List Value := L.flatMap fun c => [.int .i64 c.kind, .string c.a, .string c.b, .int .i64 c.f]
theorem infoChg : (Tryz.prog.info? 117).map (fun i => (i.zero, i.size, i.bytes)) = some (some (.agg #[.int .i64 0, .string ⟨#[]⟩, .string ⟨#[]⟩, .int .i64 0]), 4, 48) := by kernel_rfl
/-- A row of changes behind an own one: the source may be nil. -/
theorem append_chgs {w : World} {base : Nat} {v : Value} {A B : List Chg} {q : Option Addr} {c : Nat} (hown : w.ownsRow base 117 4 v A.length (chgCells A))
    (hs : (q = none ∧ B = []) ∨ ∃ ad, q = some ad ∧ ∀ j u, (chgCells B)[j]? = some u → w.cell? (ad.add j) = some u) (hb : A.length + B.length ≤ 2199023255552) (hbase : base ≤ w.heap.size) :
    ∃ v' w', (∀ ty, (Builtin.append_ #[29, 29] ty #[v, .slice q B.length c]).run Tryz.prog w = .ok v' w') ∧ w'.ownsRow base 117 4 v' (A ++ B).length (chgCells (A ++ B)) ∧ w.grownBy w' v.ownBlock := by
  obtain ⟨i0, hi, hz0, hz1, hz2⟩ := info_parts infoChg
  have hlen : ∀ L : List Chg, (chgCells L).length = L.length * 4 := fun L => by
    induction L with
    | nil => rfl
    | cons p r ih => show (chgCells r).length + 1 + 1 + 1 + 1 = _; rw [ih, List.length_cons]; omega
  rcases hs with ⟨rfl, rfl⟩ | ⟨ad, rfl, hc⟩
  · refine ⟨v, w, fun ty => ?_, by simpa using hown, ⟨rfl, rfl, rfl, Nat.le_refl _, fun _ _ _ => rfl⟩⟩
    have ht := Tryz.underlying29
    rcases hown.2 with ⟨rfl, h0⟩ | ⟨g, cap, cur, rfl, _, hg, h1, _⟩
    · simp [Builtin.append_, run_underlying ht, sizeOf, typeInfo, hi, Builtin.lenOf, Builtin.firstCells]
    · simp [Builtin.append_, run_underlying ht, sizeOf, typeInfo, hi, Builtin.lenOf, Builtin.firstCells, storeCells, h1]
  · obtain ⟨v', w', hr, h2, h3, _⟩ := run_append_own_at (P := Tryz.prog) w base 29 29 117 i0 _ 4 48 Tryz.underlying29 hi hz0 hz1 hz2 rfl (by decide) v A.length (chgCells A) hown ad B.length c (chgCells B) (hlen B) hc
      (fun u hu => by
        obtain ⟨p, _, hp⟩ := List.mem_flatMap.1 hu
        simp at hp
        rcases hp with rfl | rfl | rfl | rfl <;> rfl) (by unfold maxLen; omega) (by omega) hbase
    have e : chgCells (A ++ B) = chgCells A ++ chgCells B := by simp [chgCells]
    exact ⟨v', w', fun _ => hr, by rw [e, List.length_append]; exact h2, h3⟩
theorem chgCells_get : ∀ (L : List Chg) (j : Nat) (h : j < L.length), (chgCells L)[j * 4]? = some (.int .i64 (L[j]).kind) ∧ (chgCells L)[j * 4 + 1]? = some (.string (L[j]).a) ∧ (chgCells L)[j * 4 + 2]? = some (.string (L[j]).b) ∧ (chgCells L)[j * 4 + 3]? = some (.int .i64 (L[j]).f)
  | x :: r, 0, h => ⟨rfl, rfl, rfl, rfl⟩
  | x :: r, j + 1, h => by
    have ih := chgCells_get r j (by simpa using h)
    have e : chgCells (x :: r) = [.int .i64 x.kind, .string x.a, .string x.b, .int .i64 x.f] ++ chgCells r := rfl
    rw [e]
    have q : ∀ d, ([.int .i64 x.kind, .string x.a, .string x.b, .int .i64 x.f] ++ chgCells r)[(j + 1) * 4 + d]? = (chgCells r)[j * 4 + d]? := fun d => by
      rw [List.getElem?_append_right (by simp; omega)]
      congr 1
      simp; omega
    have q0 := q 0
    rw [Nat.add_zero, Nat.add_zero] at q0
    rw [q0, q 1, q 2, q 3]
    simpa using ih
theorem row_chgs {w : World} {base : Nat} {v : Value} {L : List Chg} (h : w.ownsRow base 117 4 v L.length (chgCells L)) : ChgR w v L := by
  rcases h.2 with ⟨rfl, h0⟩ | ⟨g, cap, cur, rfl, hb, hg, h1, h2, h3, h4⟩
  · exact .inl ⟨List.length_eq_zero_iff.mp h0, none, 0, rfl⟩
  · refine .inr ⟨g, 0, cap, rfl, (Array.getElem?_eq_some_iff.1 hg).1, fun W hW j hj => ?_⟩
    have hc : ∀ i u, i < L.length * 4 → (chgCells L)[i]? = some u → W.cell? ⟨g, i, none⟩ = some u := fun i u hi hu => by
      have hw := hW.trans hg
      have e : cur[i]? = some u := by rw [← hu, ← h4, List.getElem?_take, if_pos hi, Array.getElem?_toList]
      simp [World.cell?, hw, e]
    obtain ⟨e0, e1, e2, e3⟩ := chgCells_get L j hj
    rw [Nat.zero_add]
    exact ⟨hc _ _ (by omega) e0, hc _ _ (by omega) e1, hc _ _ (by omega) e2, hc _ _ (by omega) e3⟩
theorem now_snoc (M : RSt) (l : List (Nm × Option Nat)) : RSt.now { M with opn := M.opn ++ [l] } = l.foldl nmSet M.now := by
  show ((M.opn ++ [l]).take (M.opn ++ [l]).length).foldl _ M.last = l.foldl nmSet ((M.opn.take M.opn.length).foldl _ M.last)
  rw [List.take_length, List.take_length, List.foldl_append]; rfl
section
variable {w w2 W5 : World} {B : Nat} {X : Nat → Prop} {M : RSt} {fv nv lv ov pv u v2 : Value} {cs : List Chg} {c : Chg}
/-- Both stores of a change, in memory. -/
theorem turn_top (h : RfTop w B X M fv nv lv ov pv cs) (h2 : Below w.heap.size w w2) (hu : w2.ownsRow w.heap.size 119 2 u (c.sets.foldl nmSet M.now).length (nameCells (c.sets.foldl nmSet M.now)))
    (h5 : Below w2.heap.size (w2.setCell ⟨B, 1, none⟩ u) W5) (hv : W5.ownsRow w2.heap.size 117 4 v2 (cs ++ [c]).length (chgCells (cs ++ [c]))) :
    RfTop (W5.setCell ⟨B, 3, none⟩ v2) B (fun b => X b ∨ (w.heap.size ≤ b ∧ b < W5.heap.size)) { M with opn := M.opn ++ [c.sets] } fv u lv v2 pv (cs ++ [c]) ∧ Rk X w (W5.setCell ⟨B, 3, none⟩ v2) := by
  have hB := h.lt B h.here
  have hs2 := h2.size
  have hsz : ∀ (W : World) a v, (W.setCell a v).heap.size = W.heap.size := fun W a v => by simp [World.setCell]
  have hs5 : w2.heap.size ≤ W5.heap.size := by have := h5.size; rwa [hsz] at this
  have old : ∀ b, b < w2.heap.size → b ≠ B → (W5.setCell ⟨B, 3, none⟩ v2).heap[b]? = w2.heap[b]? := fun b hb hne => by
    rw [heap_setCell_other _ _ _ _ hne, h5.block b hb, heap_setCell_other _ _ _ _ hne]
  have oldw : ∀ b, b < w.heap.size → b ≠ B → (W5.setCell ⟨B, 3, none⟩ v2).heap[b]? = w.heap[b]? := fun b hb hne => (old b (by omega) hne).trans (h2.block b hb)
  have hle : w.heap.size ≤ (W5.setCell ⟨B, 3, none⟩ v2).heap.size := by rw [hsz]; omega
  have box2 := (h2.block B hB).trans h.box
  have box3 : (w2.setCell ⟨B, 1, none⟩ u).heap[B]? = some (.cells #[fv, u, lv, ov, pv, .int .i64 M.made] 32 (0, 0)) := by simp [World.setCell, box2, Array.getElem?_modify]
  have box5 := (h5.block B (by omega)).trans box3
  have hul := fun g (hg : u.ownBlock = some g) => hu.lt g hg
  have hvl := fun g (hg : v2.ownBlock = some g) => hv.lt g hg
  have kp : ∀ v, v = nv ∨ v = lv ∨ v = ov ∨ v = pv → ∀ g, v.ownBlock = some g → (W5.setCell ⟨B, 3, none⟩ v2).heap[g]? = w.heap[g]? := fun v hv g hg => oldw g (h.lt g (h.apart v hv g hg).1) (h.apart v hv g hg).2.1
  have fvl := fun g (hg : fv.ownBlock = some g) => h.lt g (h.own g hg).1
  refine ⟨⟨?_, ownsRow_same h.files fun g hg => oldw g (h.lt g (h.own g hg).1) (h.own g hg).2, ?_, h.last.kept (kp lv (.inr (.inl rfl))) hle, ?_, ?_, h.flt.kept (kp pv (.inr (.inr (.inr rfl)))) hle, ?_, fun g hg => ⟨.inl (h.own g hg).1, (h.own g hg).2⟩, .inl h.here, ?_⟩, ?_⟩
  · simp [World.setCell, box5, Array.getElem?_modify]
  · rw [now_snoc]
    exact (row_names hu).kept (fun g hg => old g (hul g hg).2 (by have := (hul g hg).1; omega)) (by rw [hsz]; omega)
  · exact (row_chgs hv).kept (fun g hg => heap_setCell_other _ _ _ _ (by have := (hvl g hg).1; show g ≠ B; omega)) (by rw [hsz]; exact Nat.le_refl _)
  · show M.opn ++ [c.sets] = (cs ++ [c]).map Chg.sets
    rw [h.sets, List.map_append]; rfl
  · intro v hv0 g hg
    rcases hv0 with rfl | rfl | rfl | rfl
    · have := hul g hg
      exact ⟨.inr ⟨this.1, by omega⟩, by omega, fun e => by have := fvl g e; omega⟩
    · have := h.apart _ (.inr (.inl rfl)) g hg; exact ⟨.inl this.1, this.2⟩
    · have := hvl g hg
      exact ⟨.inr ⟨by omega, this.2⟩, by omega, fun e => by have := fvl g e; omega⟩
    · have := h.apart _ (.inr (.inr (.inr rfl))) g hg; exact ⟨.inl this.1, this.2⟩
  · intro b hb
    rw [hsz]
    rcases hb with hb | hb
    · have := h.lt b hb; omega
    · exact hb.2
  · refine ⟨?_, ?_, ?_, hle, fun b hb hx => oldw b hb (fun e => hx (by rw [e]; exact h.here))⟩
    · show W5.os = w.os; exact h5.os.trans h2.os
    · show W5.tape = w.tape; exact h5.tape.trans h2.tape
    · show W5.output = w.output; exact h5.output.trans h2.output
end
theorem chg_src {w : World} {q : Option Addr} {n c : Nat} {L : List Chg} (h : ChgR w (.slice q n c) L) : (q = none ∧ L = []) ∨ ∃ ad, q = some ad ∧ ∀ j u, (chgCells L)[j]? = some u → w.cell? (ad.add j) = some u := by
  rcases h with ⟨rfl, p, c2, hs⟩ | ⟨g, off, c2, hs, hg, hc⟩
  · injection hs with e1 e2 e3
    cases q with
    | none => exact .inl ⟨rfl, rfl⟩
    | some ad => exact .inr ⟨ad, rfl, fun j u hu => by simp [chgCells] at hu⟩
  · injection hs with e1 e2 e3
    refine .inr ⟨_, e1, fun j u hu => ?_⟩
    have hlen : ∀ L : List Chg, (chgCells L).length = L.length * 4 := fun L => by
      induction L with
      | nil => rfl
      | cons p r ih => show (chgCells r).length + 1 + 1 + 1 + 1 = _; rw [ih, List.length_cons]; omega
    have hl := (List.getElem?_eq_some_iff.1 hu).1
    rw [hlen] at hl
    have hd : j / 4 < L.length := by omega
    obtain ⟨c0, c1, c2, c3⟩ := hc w rfl (j / 4) hd
    obtain ⟨d0, d1, d2, d3⟩ := chgCells_get L (j / 4) hd
    have ea : (⟨g, off, none⟩ : Addr).add j = ⟨g, off + j, none⟩ := by unfold Addr.add; split <;> simp_all
    rw [ea]
    rcases (by omega : j = j / 4 * 4 ∨ j = j / 4 * 4 + 1 ∨ j = j / 4 * 4 + 2 ∨ j = j / 4 * 4 + 3) with e | e | e | e
    · rw [← e] at c0 d0; rw [c0, ← d0, hu]
    · rw [← e] at d1; rw [Nat.add_assoc, ← e] at c1; rw [c1, ← d1, hu]
    · rw [← e] at d2; rw [Nat.add_assoc, ← e] at c2; rw [c2, ← d2, hu]
    · rw [← e] at d3; rw [Nat.add_assoc, ← e] at c3; rw [c3, ← d3, hu]
theorem boxSix {w : World} {B : Nat} {a b c d e f : Value} {T : TypeId} (h : w.heap[B]? = some (.cells #[a, b, c, d, e, f] T (0, 0))) :
    ((w.cell? ⟨B, 0, none⟩ = some a ∧ w.cell? ⟨B, 1, none⟩ = some b ∧ w.cell? ⟨B, 2, none⟩ = some c) ∧ (w.cell? ⟨B, 3, none⟩ = some d ∧ w.cell? ⟨B, 4, none⟩ = some e ∧ w.cell? ⟨B, 5, none⟩ = some f)) ∧ ∀ i, w.frozen? ⟨B, i, none⟩ = false := by
  refine ⟨⟨⟨?_, ?_, ?_⟩, ?_, ?_, ?_⟩, fun i => ?_⟩ <;> simp [World.cell?, World.frozen?, h]
set_option maxHeartbeats 4000000 in
set_option maxRecDepth 100000 in
theorem rturn_any (B : Nat) (X : Nat → Prop) (M : RSt) (c : Chg) (w : World) (fv nv lv ov pv : Value) (cs : List Chg) (h : RfTop w B X M fv nv lv ov pv cs) (hn : M.now.length ≤ 1099511627776) (ho : cs.length ≤ 1099511627776) :
    Calls Tryz.prog 59 #[.pointer (some ⟨B, 0, none⟩), .agg #[.int .i64 c.kind, .string c.a, .string c.b, .int .i64 c.f]] w fun e w' => e = .returned (.tuple #[]) ∧
      ∃ u v2 X', RfTop w' B X' { M with opn := M.opn ++ [c.sets] } fv u lv v2 pv (cs ++ [c]) ∧ (∀ b, X' b → X b ∨ w.heap.size ≤ b) ∧ Rk X w w' := by
  have hb0 := belowNew w (.cells #[.int .i64 c.kind, .string c.a, .string c.b, .int .i64 c.f] 117)
  have ht := h.below hb0
  have HT := Lib.hid ht
  have HB0 := Lib.hid hb0
  have HX := Lib.hid (heapLast w (.cells #[.int .i64 c.kind, .string c.a, .string c.b, .int .i64 c.f] 117))
  have HS : Hid (w.heap.size < (w.alloc (.cells #[.int .i64 c.kind, .string c.a, .string c.b, .int .i64 c.f] 117)).heap.size) := Lib.hid (by simp)
  have HBw : Hid (B < w.heap.size) := Lib.hid (h.lt B h.here)
  have HDN := Lib.hid (fun W (g : Below w.heap.size w W) => done_any M.now nv c W (h.now.below g) hn)
  have HO := Lib.hid ho
  obtain ⟨q1, c1, rfl⟩ := h.now.form
  obtain ⟨q2, c2, rfl⟩ := h.opn.form
  clear h hn ho hb0
  obtain ⟨kd, a, b, f⟩ := c
  simp only at ht HT HB0 HX HS HDN
  go_enter Tryz.func59, Tryz.ntmps59
  go_upto_region 1 with (fail)
  generalize w.alloc (.cells #[.int .i64 kd, .string a, .string b, .int .i64 f] 117) = W0 at *
  obtain ⟨⟨⟨a0, a1, a2⟩, a3, a4, a5⟩, fz⟩ := boxSix ht.box
  obtain ⟨d0, d1, d2, d3⟩ := cellsFour HX.out
  have HFZ : Hid (∀ w8, Below W0.drew.heap.size W0.drew w8 → w8.frozen? ⟨B, 1, none⟩ = false ∧ w8.cell? ⟨B, 1, none⟩ = some (.slice q1 M.now.length c1)) := Lib.hid fun w8 g => by
    have e := (g.block B (show B < W0.heap.size by have := HS.out; have := HBw.out; omega)).trans ht.box
    exact ⟨(boxSix e).2 1, (boxSix e).1.1.2.1⟩
  clear ht a0 a2 a3 a4 a5 fz
  go_cut [] from 5 to 13 (fun wx => ∃ u w2, WithoutR W0 ((Chg.mk kd a b f).sets.foldl nmSet M.now) u w2 ∧ wx = w2.setCell ⟨B, 1, none⟩ u)
  case first =>
    go_region_with (go_at_call 48; refine (HDN.out _ HB0.out.drew).mono ?_; rintro e w8 ⟨u, rfl, hu⟩; obtain ⟨pu, cu, rfl⟩ := (row_names hu.1).form; obtain ⟨fz1, fc1⟩ := HFZ.out w8 hu.2)
    all_goals go_wp2_with fail
    all_goals go_meet
    all_goals exact ⟨_, _, WithoutR.from hu (Below.refl _ _).drew, rfl⟩
  case rest =>
    obtain ⟨u, w2, hu, rfl⟩ := hcut
    obtain ⟨pu, cu, rfl⟩ := (row_names hu.1).form
    have hsz : ∀ (W : World) a v, (W.setCell a v).heap.size = W.heap.size := fun W a v => by simp [World.setCell]
    have hBw : B < W0.heap.size := by have := HS.out; have := HBw.out; omega
    have box2 := (hu.2.block B hBw).trans HT.out.box
    generalize hRR : (Chg.mk kd a b f).sets.foldl nmSet M.now = R at *
    have HRR := Lib.hid hRR
    clear hRR
    have box3 : (w2.setCell ⟨B, 1, none⟩ (.slice pu R.length cu)).heap[B]? = some (.cells #[fv, .slice pu R.length cu, lv, .slice q2 cs.length c2, pv, .int .i64 M.made] 32 (0, 0)) := by simp [World.setCell, box2, Array.getElem?_modify]
    have ov3 : ChgR (w2.setCell ⟨B, 1, none⟩ (.slice pu R.length cu)) (.slice q2 cs.length c2) cs := HT.out.opn.kept (fun g hg => by
      have hap := HT.out.apart _ (.inr (.inr (.inl rfl))) g hg
      rw [heap_setCell_other _ _ _ _ (show g ≠ B from hap.2.1)]
      exact hu.2.block g (HT.out.lt g hap.1)) (by rw [hsz]; exact hu.2.size)
    have chg3 : (w2.setCell ⟨B, 1, none⟩ (.slice pu R.length cu)).heap[w.heap.size]? = some (.cells #[.int .i64 kd, .string a, .string b, .int .i64 f] 117 (0, 0)) := by
      rw [heap_setCell_other _ _ _ _ (show w.heap.size ≠ B by have := HBw.out; omega)]
      exact (hu.2.block _ HS.out).trans HX.out
    obtain ⟨v1, W4, run1, own1, gr1⟩ := append_chgs (base := w2.heap.size) (v := .slice none 0 0) (A := []) (B := cs) (q := q2) (c := c2) (World.ownsRow_nil (w2.setCell ⟨B, 1, none⟩ (.slice pu R.length cu)) _ _ _) (chg_src ov3) (by have := HO.out; simp; omega) (by rw [hsz]; exact Nat.le_refl _)
    have hs4 : w2.heap.size ≤ W4.heap.size := by have := gr1.size; rwa [hsz] at this
    have own1' : (W4.alloc (.cells #[.int .i64 kd, .string a, .string b, .int .i64 f] 117)).ownsRow w2.heap.size 117 4 v1 ([] ++ cs).length (chgCells ([] ++ cs)) := own1.alloc _
    obtain ⟨v2, W5, run2, own2, gr2⟩ := append_chgs (base := w2.heap.size) (A := [] ++ cs) (B := [⟨kd, a, b, f⟩]) (q := some ⟨W4.heap.size, 0, none⟩) (c := 1) own1' (.inr ⟨_, rfl, fun j u hu => by
      have e : chgCells [⟨kd, a, b, f⟩] = [.int .i64 kd, .string a, .string b, .int .i64 f] := rfl
      rw [e] at hu
      have ea : (⟨W4.heap.size, 0, none⟩ : Addr).add j = ⟨W4.heap.size, j, none⟩ := by unfold Addr.add; split <;> simp_all
      rw [ea]
      have hx := heapLast W4 (.cells #[.int .i64 kd, .string a, .string b, .int .i64 f] 117)
      simp only [World.cell?, hx]
      simpa using hu⟩) (by have := HO.out; simp; omega) (by simp; omega)
    have b3 : Below w2.heap.size (w2.setCell ⟨B, 1, none⟩ (.slice pu R.length cu)) W4 := (Below.refl w2.heap.size (w2.setCell ⟨B, 1, none⟩ (.slice pu R.length cu))).grown gr1 (by rw [hsz]; exact Nat.le_refl _) (fun k hk => by cases hk)
    have b4 := b3.alloc hs4 (.cells #[.int .i64 kd, .string a, .string b, .int .i64 f] 117)
    have b5 := b4.grown gr2 (by simp; omega) (fun g hg => (own1.lt g hg).1)
    have hB2 : B < w2.heap.size := Nat.lt_of_lt_of_le hBw hu.2.size
    have box5 := (b5.block B hB2).trans box3
    have box4 := (b3.block B hB2).trans box3
    have chg4 := (b3.block w.heap.size (Nat.lt_of_lt_of_le HS.out hu.2.size)).trans chg3
    rw [List.nil_append] at own2
    obtain ⟨pv2, cv2, rfl⟩ := (row_chgs own2).form
    have HTOP := Lib.hid (turn_top (c := ⟨kd, a, b, f⟩) HT.out hu.2 (by rw [HRR.out]; exact hu.1) b5 own2)
    obtain ⟨⟨-, a3, -, -⟩, -⟩ := boxSix box3
    obtain ⟨-, fz5⟩ := boxSix box5
    have fz := fz5 3
    obtain ⟨⟨-, a35, -, -⟩, -⟩ := boxSix box5
    obtain ⟨d0, d1, d2, d3⟩ := cellsFour chg4
    have hst : (W4.alloc (.cells #[.int .i64 kd, .string a, .string b, .int .i64 f] 117)).heap.size = W4.heap.size + 1 := by simp
    generalize (cs ++ [(⟨kd, a, b, f⟩ : Chg)]).length = n2 at *
    clear box2 box3 ov3 chg3 own1 own1' own2 gr1 gr2 b3 b4 b5 hs4 box4 box5 chg4 fz5 hu hBw hB2 hst
    go_wp2_with (first
      | (at_builtin; refine wpList_append_run (by rfl) _ _ _ _ (by rfl) _ _ v1 W4 (by rfl) (by rfl) run1 ?_)
      | (at_builtin; refine wpList_append_run (by rfl) _ _ _ _ (by rfl) _ _ (.slice pv2 n2 cv2) W5 (by rfl) (by rfl) run2 ?_))
    go_end0
    exact ⟨rfl, _, _, _, HTOP.out.1, fun b hb => hb.elim .inl (fun hb => .inr (Nat.le_trans HB0.out.size hb.1)), (Rk.of HB0.out).trans HTOP.out.2⟩
end Go.Proofs.YtioidkbpjkcjeaaGreatDoor
