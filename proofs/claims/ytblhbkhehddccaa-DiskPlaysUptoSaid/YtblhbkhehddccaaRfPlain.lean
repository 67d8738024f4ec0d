/- The document's own disk as plain data, beside the program's: names in their order, changes that can be undone or made again. No program is named here. Conditions: those that each theorem names. -/
import Derived.Test.YtblhbkhehddccaaDkPlain
namespace Go.Proofs.Ytblhbkhehddccaa
namespace Dk

/-! ### lists of names -/
theorem sorted_mem_ext : ∀ {L M : List (Nm × Nat)}, Sorted L → Sorted M → (∀ p, p ∈ L ↔ p ∈ M) → L = M
  | [], [], _, _, _ => rfl
  | [], y :: s, _, _, h => absurd ((h y).2 (by simp)) (by simp)
  | x :: r, [], _, _, h => absurd ((h x).1 (by simp)) (by simp)
  | x :: r, y :: s, hL, hM, h => by
    obtain ⟨h1, h2⟩ := List.pairwise_cons.1 hL
    obtain ⟨m1, m2⟩ := List.pairwise_cons.1 hM
    have e : x = y := by
      rcases List.mem_cons.1 ((h x).1 (by simp)) with e | e
      · exact e
      rcases List.mem_cons.1 ((h y).2 (by simp)) with e' | e'
      · exact e'.symm
      have := ltN_trans (m1 x e) (h1 y e')
      rw [ltN_irrefl] at this; cases this
    subst e
    have hr : r = s := sorted_mem_ext h2 m2 (fun p => by
      constructor
      · intro hp
        rcases List.mem_cons.1 ((h p).1 (by simp [hp])) with e | e
        · subst e; have := h1 p hp; rw [ltN_irrefl] at this; cases this
        · exact e
      · intro hp
        rcases List.mem_cons.1 ((h p).2 (by simp [hp])) with e | e
        · subst e; have := m1 p hp; rw [ltN_irrefl] at this; cases this
        · exact e)
    rw [hr]
theorem sorted_get_ext {L M : List (Nm × Nat)} (hL : Sorted L) (hM : Sorted M) (h : ∀ n, nmGet L n = nmGet M n) : L = M :=
  sorted_mem_ext hL hM (fun p => by obtain ⟨n, i⟩ := p; rw [← nmGet_some hL, ← nmGet_some hM, h])
theorem get_set {L : List (Nm × Nat)} (hs : Sorted L) (x : Nm × Option Nat) (n : Nm) : nmGet (nmSet L x) n = if n = x.1 then x.2 else nmGet L n := by
  obtain ⟨m, v⟩ := x
  have key : ∀ o : Option Nat, (∀ i, (n, i) ∈ nmSet L (m, v) ↔ o = some i) → nmGet (nmSet L (m, v)) n = o := by
    intro o ho
    cases o with
    | none => exact nmGet_none.2 (fun i hi => by have := (ho i).1 hi; cases this)
    | some j => exact (nmGet_some (sorted_nmSet hs _)).2 ((ho j).2 rfl)
  apply key
  intro i
  split
  · rename_i e
    simp only at e
    subst e
    cases v with
    | none => simp [nmSet, mem_nmDel]
    | some j => simp [nmSet, mem_nmPut, eq_comm]
  · rename_i e
    simp only at e
    rw [nmGet_some hs]
    cases v with
    | none => simp [nmSet, mem_nmDel, e]
    | some j => simp [nmSet, mem_nmPut, e]
theorem get_foldl {L : List (Nm × Nat)} (hs : Sorted L) (l : List (Nm × Option Nat)) (n : Nm) (h : ∀ x ∈ l, x.1 ≠ n) : nmGet (l.foldl nmSet L) n = nmGet L n := by
  induction l generalizing L with
  | nil => rfl
  | cons x r ih =>
    rw [List.foldl_cons, ih (sorted_nmSet hs x) (fun y hy => h y (by simp [hy])), get_set hs, if_neg (fun e => h x (by simp) e.symm)]
theorem sorted_foldl {L : List (Nm × Nat)} (hs : Sorted L) (l : List (Nm × Option Nat)) : Sorted (l.foldl nmSet L) := by
  induction l generalizing L with
  | nil => exact hs
  | cons x r ih => exact ih (sorted_nmSet hs x)
/-- One change undone. -/
theorem undo_one {L : List (Nm × Nat)} (hs : Sorted L) (x : Nm × Option Nat) : undoOne (nmSet L x) [(x.1, nmGet L x.1)] = L := by
  refine sorted_get_ext (sorted_nmSet (sorted_nmSet hs _) _) hs (fun n => ?_)
  show nmGet (nmSet (nmSet L x) (x.1, nmGet L x.1)) n = _
  rw [get_set (sorted_nmSet hs _), get_set hs]
  by_cases e : n = x.1
  · simp [e]
  · simp [e]
/-- A renaming undone. -/
theorem undo_two {L : List (Nm × Nat)} (hs : Sorted L) (x y : Nm × Option Nat) (hne : x.1 ≠ y.1) : undoOne ([x, y].foldl nmSet L) (befores L [x, y]) = L := by
  refine sorted_get_ext (sorted_foldl (sorted_foldl hs _) _) hs (fun n => ?_)
  show nmGet (nmSet (nmSet (nmSet (nmSet L x) y) (x.1, nmGet L x.1)) (y.1, nmGet (nmSet L x) y.1)) n = _
  rw [get_set (sorted_nmSet (sorted_nmSet (sorted_nmSet hs _) _) _), get_set (sorted_nmSet (sorted_nmSet hs _) _), get_set (sorted_nmSet hs _), get_set hs, get_set hs]
  by_cases e : n = x.1
  · subst e; simp [hne]
  · by_cases e' : n = y.1
    · subst e'; simp [e]
    · simp [e, e']

/-! ### the program's files and the document's -/
/-- The same names over files that are numbered otherwise. -/
def ren (φ : Nat → Nat) (L : List (Nm × Nat)) : List (Nm × Nat) := L.map (fun p => (p.1, φ p.2))
def renC (φ : Nat → Nat) (l : List (Nm × Option Nat)) : List (Nm × Option Nat) := l.map (fun x => (x.1, x.2.map φ))
theorem ren_del (φ : Nat → Nat) (L : List (Nm × Nat)) (n : Nm) : nmDel (ren φ L) n = ren φ (nmDel L n) := by
  simp [ren, nmDel, List.filter_map]; rfl
theorem ren_put (φ : Nat → Nat) (L : List (Nm × Nat)) (n : Nm) (i : Nat) : nmPut (ren φ L) n (φ i) = ren φ (nmPut L n i) := by
  unfold nmPut
  rw [ren_del]
  simp [ren, List.takeWhile_map, List.dropWhile_map]; rfl
theorem ren_set (φ : Nat → Nat) (L : List (Nm × Nat)) (x : Nm × Option Nat) : nmSet (ren φ L) (x.1, x.2.map φ) = ren φ (nmSet L x) := by
  obtain ⟨n, v⟩ := x
  cases v with
  | none => exact ren_del φ L n
  | some i => exact ren_put φ L n i
theorem ren_foldl (φ : Nat → Nat) (l : List (Nm × Option Nat)) (L : List (Nm × Nat)) : (renC φ l).foldl nmSet (ren φ L) = ren φ (l.foldl nmSet L) := by
  induction l generalizing L with
  | nil => rfl
  | cons x r ih => rw [List.foldl_cons, ← ih, ← ren_set]; rfl
theorem ren_get (φ : Nat → Nat) (L : List (Nm × Nat)) (n : Nm) : nmGet (ren φ L) n = (nmGet L n).map φ := by
  unfold nmGet ren
  induction L with
  | nil => rfl
  | cons p r ih =>
    rw [List.map_cons, List.find?_cons, List.find?_cons]
    by_cases e : p.1 = n
    · simp [e]
    · simp only [e, decide_false]; exact ih
theorem ren_sorted {φ : Nat → Nat} {L : List (Nm × Nat)} (h : Sorted L) : Sorted (ren φ L) := by
  unfold Sorted ren; rw [List.pairwise_map]; exact h

/-- What the document's disk holds: the names that last, the changes behind them. -/
structure RSt where
  last : List (Nm × Nat)
  opn : List (List (Nm × Option Nat))
  files : List FileC
  made : Int
  faults : List (Int × Int × Int)
def RSt.names (M : RSt) (k : Nat) : List (Nm × Nat) := (M.opn.take k).foldl (fun L l => l.foldl nmSet L) M.last
/-- The names behind the first k open changes are the same on both disks. -/
def SameNames (φ : Nat → Nat) (D : DSt) (M : RSt) : Prop := M.opn.length = D.opn.length ∧ ∀ k, k ≤ D.opn.length → M.names k = ren φ (D.undo k).names
theorem undo_all (D : DSt) : (D.undo D.opn.length).names = D.names := by simp [DSt.undo]
theorem undo_beyond (D : DSt) (k : Nat) (h : D.opn.length ≤ k) : (D.undo k).names = D.names := by simp [DSt.undo, List.drop_of_length_le h]
theorem undo_relink {D : DSt} {l : List (Nm × Option Nat)} (hu : undoOne (l.foldl nmSet D.names) (befores D.names l) = D.names) (k : Nat) (hk : k ≤ D.opn.length) :
    ((D.relink l).undo k).names = (D.undo k).names := by
  simp only [DSt.undo, DSt.relink]
  rw [List.drop_append_of_le_length hk, List.reverse_append]
  simp [hu]
/-- A change more, on both. -/
theorem SameNames.relink {φ : Nat → Nat} {D : DSt} {M : RSt} (h : SameNames φ D M) {l : List (Nm × Option Nat)} (hu : undoOne (l.foldl nmSet D.names) (befores D.names l) = D.names) :
    SameNames φ (D.relink l) { M with opn := M.opn ++ [renC φ l] } := by
  obtain ⟨h1, h2⟩ := h
  have hlen : (D.relink l).opn.length = D.opn.length + 1 := by simp [DSt.relink]
  refine ⟨by simp [DSt.relink, h1], fun k hk => ?_⟩
  rw [hlen] at hk
  rcases Nat.lt_or_ge D.opn.length k with c | c
  · have hk' : k = D.opn.length + 1 := by omega
    subst hk'
    have e := h2 D.opn.length (Nat.le_refl _)
    rw [undo_all] at e
    rw [undo_beyond _ _ (by rw [hlen]; exact Nat.le_refl _)]
    show ((M.opn ++ [renC φ l]).take (D.opn.length + 1)).foldl _ M.last = ren φ (l.foldl nmSet D.names)
    rw [← ren_foldl, ← e, List.take_of_length_le (by simp [h1]), List.foldl_append]
    unfold RSt.names
    rw [List.take_of_length_le (by omega)]
    rfl
  · rw [undo_relink hu k c, ← h2 k c]
    show ((M.opn ++ [renC φ l]).take k).foldl _ M.last = _
    rw [List.take_append_of_le_length (by omega)]
    rfl

/-! ### a crash -/
theorem crashFiles_other (bs : List Int) : ∀ (L : List (Nm × Nat)) (j : Nat) (fs : List FileC) (i : Nat), i ∉ L.map (·.2) → (crashFiles bs L j fs)[i]? = fs[i]?
  | [], _, _, _, _ => rfl
  | p :: r, j, fs, i, h => by
    rw [List.map_cons, List.mem_cons, not_or] at h
    have hne : p.2 ≠ i := fun e => h.1 e.symm
    rw [crashFiles, crashFiles_other bs r (j + 1) _ i h.2, List.getElem?_modify]
    simp [hne]
theorem crashFiles_get (bs : List Int) : ∀ (L : List (Nm × Nat)) (j0 : Nat) (fs : List FileC), (L.map (·.2)).Nodup → ∀ (j : Nat) (h : j < L.length), (crashFiles bs L j0 fs)[(L[j]).2]? = (fs[(L[j]).2]?).map (fun f => f.crash (left bs (j0 + j)))
  | [], _, _, _, _, h => absurd h (by simp)
  | p :: r, j0, fs, hn, 0, _ => by
    rw [List.map_cons, List.nodup_cons] at hn
    show (crashFiles bs r (j0 + 1) _)[p.2]? = _
    rw [crashFiles_other bs r _ _ _ hn.1, List.getElem?_modify]
    simp
  | p :: r, j0, fs, hn, j + 1, h => by
    rw [List.map_cons, List.nodup_cons] at hn
    have hj : j < r.length := by simpa using h
    have hne : p.2 ≠ (r[j]).2 := fun e => hn.1 (by rw [e]; exact List.mem_map.2 ⟨_, List.getElem_mem hj, rfl⟩)
    show (crashFiles bs r (j0 + 1) _)[(r[j]).2]? = _
    rw [crashFiles_get bs r (j0 + 1) _ hn.2 j hj, List.getElem?_modify]
    simp [hne, Nat.add_assoc, Nat.add_comm 1 j]
/-- Where a file's number stands. -/
def place (L : List (Nm × Nat)) (i : Nat) : Nat := (L.map (·.2)).idxOf i
theorem place_get {L : List (Nm × Nat)} (hn : (L.map (·.2)).Nodup) (j : Nat) (h : j < L.length) : place L (L[j]).2 = j := by
  have := hn.idxOf_getElem j (by simpa using h)
  simpa [place] using this
/-- Behind a crash the document's files are numbered by their names' places. -/
theorem ren_place {L : List (Nm × Nat)} (hn : (L.map (·.2)).Nodup) : ren (place L) L = L.mapIdx (fun j p => (p.1, j)) := by
  refine List.ext_getElem (by simp [ren]) (fun j h1 h2 => ?_)
  have hj : j < L.length := by simpa [ren] using h1
  simp [ren, place_get hn j hj]

/-! ### both disks side by side -/
/-- What both disks hold alike: φ tells the document's number of each of the program's files that a name can still reach. -/
structure Twin (φ : Nat → Nat) (D : DSt) (M : RSt) : Prop where
  names : SameNames φ D M
  sorted : ∀ k, k ≤ D.opn.length → Sorted (D.undo k).names
  once : ∀ k, k ≤ D.opn.length → ((D.undo k).names.map (·.2)).Nodup
  file : ∀ k, k ≤ D.opn.length → ∀ p ∈ (D.undo k).names, ∃ f, D.files[p.2]? = some f ∧ M.files[φ p.2]? = some f
  inj : ∀ k, k ≤ D.opn.length → ∀ p ∈ (D.undo k).names, ∀ k', k' ≤ D.opn.length → ∀ q ∈ (D.undo k').names, φ p.2 = φ q.2 → p.2 = q.2
  made : M.made = D.steps
  plan : ∀ s, D.steps < s → D.plan.find? (fun p => decide (p.1 = s)) = M.faults.find? (fun p => decide (p.1 = s))
def RSt.now (M : RSt) : List (Nm × Nat) := M.names M.opn.length
theorem Twin.now {φ : Nat → Nat} {D : DSt} {M : RSt} (h : Twin φ D M) : M.now = ren φ D.names := by
  have := h.names.2 D.opn.length (Nat.le_refl _)
  rw [undo_all] at this
  unfold RSt.now
  rw [h.names.1, this]
theorem Twin.get {φ : Nat → Nat} {D : DSt} {M : RSt} (h : Twin φ D M) (n : Nm) : nmGet M.now n = (nmGet D.names n).map φ := by
  rw [h.now, ren_get]
/-- A new disk. -/
theorem Twin.new : Twin id Dk.new ⟨[], [], [], 0, []⟩ := by
  have hn : ∀ k, (Dk.new.undo k).names = [] := fun k => by simp [DSt.undo, Dk.new]
  refine ⟨⟨rfl, fun k hk => ?_⟩, fun k _ => ?_, fun k _ => ?_, fun k _ p hp => ?_, fun k _ p hp => ?_, rfl, fun s _ => rfl⟩
  · rw [hn]; simp [RSt.names, ren]
  · rw [hn]; exact List.Pairwise.nil
  · rw [hn]; simp
  · rw [hn] at hp; simp at hp
  · rw [hn] at hp; simp at hp
/-- A step made. -/
theorem Twin.tick {φ : Nat → Nat} {D : DSt} {M : RSt} (h : Twin φ D M) : Twin φ D.tick { M with made := M.made + 1 } := by
  refine ⟨h.names, h.sorted, h.once, h.file, h.inj, by simp [DSt.tick, h.made], fun s hs => ?_⟩
  have hs' : D.steps + 1 < s := hs
  rw [show M.faults.find? (fun p => decide (p.1 = s)) = _ from (h.plan s (by omega)).symm]
  show (D.plan.filter (fun p => decide (p.1 ≠ D.steps + 1))).find? (fun p => decide (p.1 = s)) = _
  rw [List.find?_filter]
  refine congrArg (fun q => D.plan.find? q) (funext fun p => ?_)
  by_cases e : p.1 = s
  · have : p.1 ≠ D.steps + 1 := by omega
    simp [e]; omega
  · simp [e]
theorem Twin.hit {φ : Nat → Nat} {D : DSt} {M : RSt} (h : Twin φ D M) : D.hit = M.faults.find? (fun p => decide (p.1 = M.made + 1)) := by
  rw [h.made]; exact h.plan _ (by omega)
/-- The names made to last. -/
theorem Twin.close {φ : Nat → Nat} {D : DSt} {M : RSt} (h : Twin φ D M) : Twin φ { D with opn := [] } { M with last := M.now, opn := [] } := by
  have hn : ∀ k, (DSt.undo { D with opn := [] } k).names = D.names := fun k => by simp [DSt.undo]
  have hl := Nat.le_refl D.opn.length
  have ha := undo_all D
  refine ⟨⟨rfl, fun k hk => ?_⟩, fun k _ => ?_, fun k _ => ?_, fun k _ p hp => ?_, fun k _ p hp k' _ q hq => ?_, h.made, h.plan⟩
  · rw [hn, ← h.now]; simp [RSt.names]
  · rw [hn, ← ha]; exact h.sorted _ hl
  · rw [hn, ← ha]; exact h.once _ hl
  · rw [hn, ← ha] at hp; exact h.file _ hl p hp
  · rw [hn, ← ha] at hp hq; exact h.inj _ hl p hp _ hl q hq
/-- A file turned, on both. -/
theorem Twin.turn {φ : Nat → Nat} {D : DSt} {M : RSt} (h : Twin φ D M) {n : Nm} {i : Nat} (hi : (n, i) ∈ D.names) (f : FileC) : Twin φ { D with files := D.files.set i f } { M with files := M.files.set (φ i) f } := by
  have hl := Nat.le_refl D.opn.length
  have ha := undo_all D
  refine ⟨h.names, h.sorted, h.once, fun k hk p hp => ?_, h.inj, h.made, h.plan⟩
  obtain ⟨f0, h1, h2⟩ := h.file k hk p hp
  by_cases e : p.2 = i
  · have l1 : i < D.files.length := by rw [← e]; exact (List.getElem?_eq_some_iff.1 h1).1
    have l2 : φ i < M.files.length := by rw [← e]; exact (List.getElem?_eq_some_iff.1 h2).1
    exact ⟨f, by rw [e]; simp [l1], by rw [e]; simp [l2]⟩
  · have e' : φ p.2 ≠ φ i := fun c => e (h.inj k hk p hp _ hl (n, i) (by rw [ha]; exact hi) c)
    exact ⟨f0, by show (D.files.set i f)[p.2]? = _; rw [List.getElem?_set_ne (fun c => e c.symm)]; exact h1, by show (M.files.set (φ i) f)[φ p.2]? = _; rw [List.getElem?_set_ne (fun c => e' c.symm)]; exact h2⟩
/-- A change of names, on both. -/
theorem Twin.relink {φ : Nat → Nat} {D : DSt} {M : RSt} (h : Twin φ D M) {l : List (Nm × Option Nat)} (hu : undoOne (l.foldl nmSet D.names) (befores D.names l) = D.names)
    (hnd : ((l.foldl nmSet D.names).map (·.2)).Nodup) (hf : ∀ p ∈ l.foldl nmSet D.names, ∃ f, D.files[p.2]? = some f ∧ M.files[φ p.2]? = some f)
    (hi : ∀ p ∈ l.foldl nmSet D.names, ∀ k, k ≤ D.opn.length → ∀ q ∈ (D.undo k).names, φ p.2 = φ q.2 → p.2 = q.2)
    (hj : ∀ p ∈ l.foldl nmSet D.names, ∀ q ∈ l.foldl nmSet D.names, φ p.2 = φ q.2 → p.2 = q.2) :
    Twin φ (D.relink l) { M with opn := M.opn ++ [renC φ l] } := by
  have hlen : (D.relink l).opn.length = D.opn.length + 1 := by simp [DSt.relink]
  have hs : Sorted D.names := by rw [← undo_all]; exact h.sorted _ (Nat.le_refl _)
  have key : ∀ k, k ≤ (D.relink l).opn.length → (k ≤ D.opn.length ∧ ((D.relink l).undo k).names = (D.undo k).names) ∨ ((D.relink l).undo k).names = l.foldl nmSet D.names := fun k hk => by
    rcases Nat.lt_or_ge D.opn.length k with c | c
    · exact .inr (undo_beyond _ _ (by omega))
    · exact .inl ⟨c, undo_relink hu k c⟩
  refine ⟨h.names.relink hu, fun k hk => ?_, fun k hk => ?_, fun k hk p hp => ?_, fun k hk p hp k' hk' q hq e => ?_, h.made, h.plan⟩
  · rcases key k hk with ⟨c, e⟩ | e <;> rw [e]
    · exact h.sorted k c
    · exact sorted_foldl hs l
  · rcases key k hk with ⟨c, e⟩ | e <;> rw [e]
    · exact h.once k c
    · exact hnd
  · rcases key k hk with ⟨c, e⟩ | e <;> rw [e] at hp
    · exact h.file k c p hp
    · exact hf p hp
  · rcases key k hk with ⟨c, e1⟩ | e1 <;> rw [e1] at hp <;> rcases key k' hk' with ⟨c', e2⟩ | e2 <;> rw [e2] at hq
    · exact h.inj k c p hp k' c' q hq e
    · exact (hi q hq k c p hp e.symm).symm
    · exact hi p hp k' c' q hq e
    · exact hj p hp q hq e
/-- A change that brings no other file. -/
theorem Twin.relink_same {φ : Nat → Nat} {D : DSt} {M : RSt} (h : Twin φ D M) {l : List (Nm × Option Nat)} (hu : undoOne (l.foldl nmSet D.names) (befores D.names l) = D.names)
    (hnd : ((l.foldl nmSet D.names).map (·.2)).Nodup) (hq : ∀ p ∈ l.foldl nmSet D.names, ∃ q ∈ D.names, q.2 = p.2) : Twin φ (D.relink l) { M with opn := M.opn ++ [renC φ l] } := by
  have hl := Nat.le_refl D.opn.length
  have ha := undo_all D
  refine h.relink hu hnd (fun p hp => ?_) (fun p hp k hk q hq' e => ?_) (fun p hp q hp' e => ?_)
  · obtain ⟨q, hq, e⟩ := hq p hp
    rw [← e]; exact h.file _ hl q (by rw [ha]; exact hq)
  · obtain ⟨p', hp', e'⟩ := hq p hp
    rw [← e'] at e ⊢; exact h.inj _ hl p' (by rw [ha]; exact hp') k hk q hq' e
  · obtain ⟨p', h1, e1⟩ := hq p hp
    obtain ⟨q', h2, e2⟩ := hq q hp'
    rw [← e1, ← e2] at e ⊢; exact h.inj _ hl p' (by rw [ha]; exact h1) _ hl q' (by rw [ha]; exact h2) e
theorem map_inj {α β : Type} {f : α → β} {l : List α} (hn : (l.map f).Nodup) {a b : α} (ha : a ∈ l) (hb : b ∈ l) (e : f a = f b) : a = b := by
  obtain ⟨x, hx, rfl⟩ := List.getElem_of_mem ha
  obtain ⟨y, hy, rfl⟩ := List.getElem_of_mem hb
  rcases Nat.lt_trichotomy x y with c | c | c
  · exact absurd (by rw [List.getElem_map, List.getElem_map]; exact e) (List.pairwise_iff_getElem.1 hn x y (by simpa using hx) (by simpa using hy) c)
  · subst c; rfl
  · exact absurd (by rw [List.getElem_map, List.getElem_map]; exact e.symm) (List.pairwise_iff_getElem.1 hn y x (by simpa using hy) (by simpa using hx) c)
theorem nodup_del {L : List (Nm × Nat)} (hn : (L.map (·.2)).Nodup) (n : Nm) : ((nmDel L n).map (·.2)).Nodup := hn.sublist (List.filter_sublist.map _)
theorem nodup_put {L : List (Nm × Nat)} (hn : (L.map (·.2)).Nodup) (n : Nm) (i : Nat) (hi : ∀ p ∈ L, p.1 ≠ n → p.2 ≠ i) : ((nmPut L n i).map (·.2)).Nodup := by
  unfold nmPut
  refine (List.Perm.nodup_iff (List.Perm.map (fun p : Nm × Nat => p.2) List.perm_middle)).2 ?_
  rw [List.takeWhile_append_dropWhile, List.map_cons, List.nodup_cons]
  refine ⟨fun h => ?_, nodup_del hn n⟩
  obtain ⟨p, hp, e⟩ := List.mem_map.1 h
  have := mem_nmDel.1 hp
  exact hi p this.2 this.1 e
theorem Twin.names_sorted {φ : Nat → Nat} {D : DSt} {M : RSt} (h : Twin φ D M) : Sorted D.names := by rw [← undo_all]; exact h.sorted _ (Nat.le_refl _)
theorem Twin.names_once {φ : Nat → Nat} {D : DSt} {M : RSt} (h : Twin φ D M) : (D.names.map (·.2)).Nodup := by rw [← undo_all]; exact h.once _ (Nat.le_refl _)
/-- A name removed. -/
theorem Twin.remove {φ : Nat → Nat} {D : DSt} {M : RSt} (h : Twin φ D M) (s : Nm) : Twin φ (D.relink [(s, none)]) { M with opn := M.opn ++ [[(s, none)]] } :=
  h.relink_same (l := [(s, none)]) (undo_one h.names_sorted (s, none)) (nodup_del h.names_once s) (fun p hp => ⟨p, (mem_nmDel.1 hp).2, rfl⟩)
/-- A name in the place of another. -/
theorem Twin.rename {φ : Nat → Nat} {D : DSt} {M : RSt} (h : Twin φ D M) {s t : Nm} (hst : s ≠ t) {i : Nat} (hg : nmGet D.names s = some i) : Twin φ (D.relink [(s, none), (t, some i)]) { M with opn := M.opn ++ [[(s, none), (t, some (φ i))]] } := by
  have hs := h.names_sorted
  have hm := (nmGet_some hs).1 hg
  refine h.relink_same (l := [(s, none), (t, some i)]) (undo_two hs _ _ hst) (nodup_put (nodup_del h.names_once s) t i (fun p hp _ e => ?_)) (fun p hp => ?_)
  · have hp' := mem_nmDel.1 hp
    have := map_inj h.names_once hp'.2 hm e
    exact hp'.1 (by rw [this])
  · rcases mem_nmPut.1 hp with rfl | ⟨_, hp'⟩
    · exact ⟨_, hm, rfl⟩
    · exact ⟨p, (mem_nmDel.1 hp').2, rfl⟩
theorem Twin.lt {φ : Nat → Nat} {D : DSt} {M : RSt} (h : Twin φ D M) {k : Nat} (hk : k ≤ D.opn.length) {p : Nm × Nat} (hp : p ∈ (D.undo k).names) : p.2 < D.files.length ∧ φ p.2 < M.files.length := by
  obtain ⟨f, h1, h2⟩ := h.file k hk p hp
  exact ⟨(List.getElem?_eq_some_iff.1 h1).1, (List.getElem?_eq_some_iff.1 h2).1⟩
/-- A file more, that no name reaches yet. -/
theorem Twin.grow {φ : Nat → Nat} {D : DSt} {M : RSt} (h : Twin φ D M) (x : FileC) : Twin (fun j => if j = D.files.length then M.files.length else φ j) { D with files := D.files ++ [x] } { M with files := M.files ++ [x] } := by
  have hne : ∀ k, k ≤ D.opn.length → ∀ p ∈ (D.undo k).names, (if p.2 = D.files.length then M.files.length else φ p.2) = φ p.2 := fun k hk p hp => if_neg (by have := (h.lt hk hp).1; omega)
  refine ⟨⟨h.names.1, fun k hk => ?_⟩, h.sorted, h.once, fun k hk p hp => ?_, fun k hk p hp k' hk' q hq e => ?_, h.made, h.plan⟩
  · refine (h.names.2 k hk).trans ?_
    show (D.undo k).names.map _ = (D.undo k).names.map _
    refine List.map_congr_left (fun p hp => ?_)
    show (p.1, φ p.2) = (p.1, if p.2 = D.files.length then M.files.length else φ p.2)
    rw [hne k hk p hp]
  · obtain ⟨f, h1, h2⟩ := h.file k hk p hp
    have hl := h.lt hk hp
    refine ⟨f, ?_, ?_⟩
    · show (D.files ++ [x])[p.2]? = _; rw [List.getElem?_append_left hl.1]; exact h1
    · show (M.files ++ [x])[if p.2 = D.files.length then M.files.length else φ p.2]? = _; rw [hne k hk p hp, List.getElem?_append_left hl.2]; exact h2
  · have e' : (if p.2 = D.files.length then M.files.length else φ p.2) = (if q.2 = D.files.length then M.files.length else φ q.2) := e
    rw [hne k hk p hp, hne k' hk' q hq] at e'
    exact h.inj k hk p hp k' hk' q hq e'
/-- A file begun. -/
theorem Twin.begun {φ : Nat → Nat} {D : DSt} {M : RSt} (h : Twin φ D M) {n : Nm} (hg : nmGet D.names n = none) :
    Twin (fun j => if j = D.files.length then M.files.length else φ j) (D.begun n) { M with files := M.files ++ [⟨[], 0⟩], opn := M.opn ++ [[(n, some M.files.length)]] } := by
  have hG := h.grow ⟨[], 0⟩
  have hs := h.names_sorted
  have ha := undo_all D
  have hl := Nat.le_refl D.opn.length
  have hlt : ∀ p ∈ D.names, p.2 < D.files.length := fun p hp => (h.lt hl (by rw [ha]; exact hp)).1
  have hb : D.begun n = ({ D with files := D.files ++ [⟨[], 0⟩] } : DSt).relink [(n, some D.files.length)] := by unfold DSt.begun; rw [hg]
  have hmem : ∀ p, p ∈ [(n, some D.files.length)].foldl nmSet D.names → p = (n, D.files.length) ∨ p ∈ D.names := fun p hp => by
    rcases mem_nmPut.1 hp with e | e
    · exact .inl e
    · exact .inr e.2
  rw [hb]
  have hr : renC (fun j => if j = D.files.length then M.files.length else φ j) [(n, some D.files.length)] = [(n, some M.files.length)] := by simp [renC]
  have := hG.relink (l := [(n, some D.files.length)]) (undo_one hs (n, some D.files.length)) (nodup_put h.names_once n _ (fun p hp _ e => by have := hlt p hp; omega)) (fun p hp => ?_) (fun p hp k hk q hq e => ?_) (fun p hp q hq e => ?_)
  · rw [hr] at this; exact this
  · rcases hmem p hp with rfl | hp
    · exact ⟨⟨[], 0⟩, by simp, by simp⟩
    · exact hG.file D.opn.length hl p (by show p ∈ (D.undo _).names; rw [ha]; exact hp)
  · have hq' := h.lt hk hq
    rcases hmem p hp with rfl | hp
    · simp at e
      have := e (by omega)
      omega
    · exact hG.inj D.opn.length hl p (by show p ∈ (D.undo _).names; rw [ha]; exact hp) k hk q hq e
  · rcases hmem p hp with rfl | hp <;> rcases hmem q hq with rfl | hq
    · rfl
    · have h2 := h.lt hl (p := q) (by rw [ha]; exact hq)
      simp at e
      have := e (by omega)
      omega
    · have h2 := h.lt hl (p := p) (by rw [ha]; exact hp)
      simp at e
      have := e (by omega)
      omega
    · exact hG.inj D.opn.length hl p (by show p ∈ (D.undo _).names; rw [ha]; exact hp) D.opn.length hl q (by show q ∈ (D.undo _).names; rw [ha]; exact hq) e
theorem names_beyond {φ : Nat → Nat} {D : DSt} {M : RSt} (h : Twin φ D M) (k : Nat) : ∃ k', k' ≤ D.opn.length ∧ (D.undo k).names = (D.undo k').names ∧ M.names k = M.names k' := by
  rcases Nat.lt_or_ge D.opn.length k with c | c
  · refine ⟨D.opn.length, Nat.le_refl _, by rw [undo_all, undo_beyond _ _ (by omega)], ?_⟩
    unfold RSt.names
    rw [List.take_of_length_le (by rw [h.names.1]; omega), List.take_of_length_le (by rw [h.names.1]; exact Nat.le_refl _)]
  · exact ⟨k, c, rfl, rfl⟩
/-- The document's disk behind a crash. -/
def RSt.crash (M : RSt) (k : Nat) (bs : List Int) : RSt :=
  ⟨(M.names k).mapIdx (fun j p => (p.1, j)), [], (M.names k).mapIdx (fun j p => (M.files[p.2]?.getD ⟨[], 0⟩).crash (left bs j)), M.made, []⟩
/-- A crash, on both. -/
theorem Twin.crash {φ : Nat → Nat} {D : DSt} {M : RSt} (h : Twin φ D M) (k : Nat) (bs : List Int) : ∃ ψ, Twin ψ (D.crash k bs) (M.crash k bs) := by
  obtain ⟨k', hk', e1, e2⟩ := names_beyond h k
  have hn := h.once k' hk'
  have hs := h.sorted k' hk'
  have hR : M.names k = ren φ (D.undo k').names := by rw [e2]; exact h.names.2 k' hk'
  have hfile := h.file k' hk'
  obtain ⟨L, hL⟩ : ∃ L, L = (D.undo k').names := ⟨_, rfl⟩
  rw [← hL] at hn hs hR hfile e1
  have hC : ∀ j, ((D.crash k bs).undo j).names = L := fun j => by simp [DSt.undo, DSt.crash, ← e1]
  have hF : (D.crash k bs).files = crashFiles bs L 0 D.files := by rw [← e1]; rfl
  refine ⟨place L, ⟨rfl, fun j hj => ?_⟩, fun j _ => by rw [hC]; exact hs, fun j _ => by rw [hC]; exact hn, fun j _ p hp => ?_, fun j _ p hp j' _ q hq e => ?_, h.made, fun s _ => rfl⟩
  · have hz : ∀ X : RSt, X.opn = [] → X.names j = X.last := fun X h0 => by simp [RSt.names, h0]
    rw [hC, ren_place hn, hz _ rfl]
    show (M.names k).mapIdx (fun j p => (p.1, j)) = _
    rw [hR]
    refine List.ext_getElem (by simp [ren]) (fun x h1 h2 => ?_)
    simp [ren]
  · rw [hC] at hp
    obtain ⟨x, hx, rfl⟩ := List.getElem_of_mem hp
    obtain ⟨f, h1, h2⟩ := hfile _ hp
    refine ⟨f.crash (left bs x), ?_, ?_⟩
    · rw [hF, crashFiles_get bs L 0 D.files hn x hx, h1]; simp
    · rw [place_get hn x hx]
      show ((M.names k).mapIdx (fun j p => (M.files[p.2]?.getD ⟨[], 0⟩).crash (left bs j)))[x]? = _
      rw [hR]
      have hx' : x < (ren φ L).length := by simpa [ren] using hx
      have hx2 : (ren φ L)[x].2 = φ (L[x]).2 := by simp [ren]
      rw [List.getElem?_mapIdx, List.getElem?_eq_getElem hx']
      simp [hx2, h2]
  · rw [hC] at hp hq
    obtain ⟨x, hx, rfl⟩ := List.getElem_of_mem hp
    obtain ⟨y, hy, rfl⟩ := List.getElem_of_mem hq
    rw [place_get hn x hx, place_get hn y hy] at e
    subst e; rfl
/-- A plan laid, on both. -/
theorem Twin.planned {φ : Nat → Nat} {D : DSt} {M : RSt} (h : Twin φ D M) (l : List (Int × Int × Int)) : Twin φ { D with plan := l } { M with faults := l } :=
  ⟨h.names, h.sorted, h.once, h.file, h.inj, h.made, fun _ _ => rfl⟩
end Dk
end Go.Proofs.Ytblhbkhehddccaa
