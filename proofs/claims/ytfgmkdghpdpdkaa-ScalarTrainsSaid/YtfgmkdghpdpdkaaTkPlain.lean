/- Hits, their order, rows of hits sorted, heaps, and the best k, as plain data. Conditions: those that each theorem names. -/
import Derived.Test.YtfgmkdghpdpdkaaProg
import Derived.Lib.Hide
import Derived.Lib.Small
import Derived.Shelf.SlSortCmp.Insertion
import Derived.Sort.Statements
namespace Go.Proofs.Ytfgmkdghpdpdkaa
set_option linter.unusedVariables false
open Go
namespace Tk
/-- A hit: its id, its score. -/
abbrev Ht := Int × Int
def orL : List Int → Int
  | [] => 0
  | x :: r => if x = 0 then orL r else x
theorem orL_at {L : List Int} {k : Nat} {n : Int} (h : L[k]? = some n) : orL (L.drop k) = if n = 0 then orL (L.drop (k + 1)) else n := by
  have hk : k < L.length := (List.getElem?_eq_some_iff.1 h).1
  have e := (List.getElem?_eq_some_iff.1 h).2
  rw [List.drop_eq_getElem_cons hk, e]
  rfl
def knownB (m : Int) : Bool := decide (m = 1) || (decide (m = 2) || decide (m = 3))
/-- The order of two hits under a metric: below 0 where the first is better. -/
def cfH (m : Int) (a b : Ht) : Int :=
  if m = 1 then orL [Lib.compareInt a.2 b.2, Lib.compareInt a.1 b.1] else if m = 2 ∨ m = 3 then orL [Lib.compareInt b.2 a.2, Lib.compareInt a.1 b.1] else 0
abbrev ltH (m : Int) (a b : Ht) : Bool := ltOf (cfH m) a b
/-- The score, the smaller the better. -/
def sc (m : Int) (a : Ht) : Int := if m = 1 then a.2 else -a.2
theorem known_iff {m : Int} : knownB m = true ↔ m = 1 ∨ m = 2 ∨ m = 3 := by simp [knownB]
theorem ltH_iff {m : Int} (h : knownB m = true) (a b : Ht) : ltH m a b = true ↔ sc m a < sc m b ∨ (sc m a = sc m b ∧ a.1 < b.1) := by
  rw [known_iff] at h
  unfold ltH ltOf cfH sc orL orL orL Lib.compareInt
  obtain ⟨a1, a2⟩ := a
  obtain ⟨b1, b2⟩ := b
  rcases h with rfl | rfl | rfl
  all_goals
    simp only [decide_eq_true_eq]
    repeat' split
    all_goals first | omega | (simp; omega) | simp_all
theorem ltH_no {m : Int} (h : knownB m = true) (a b : Ht) : ltH m a b = false ↔ sc m b < sc m a ∨ (sc m b = sc m a ∧ b.1 ≤ a.1) := by
  rw [← Bool.not_eq_true, ltH_iff h]; omega
theorem ltH_unknown {m : Int} (h : knownB m = false) (a b : Ht) : ltH m a b = false := by
  have : ¬ (m = 1 ∨ m = 2 ∨ m = 3) := by rw [← known_iff, h]; simp
  unfold ltH ltOf cfH
  rw [if_neg (by omega), if_neg (by omega)]
  rfl
theorem ht_eq {m : Int} {a b : Ht} (h1 : sc m a = sc m b) (h2 : a.1 = b.1) : a = b := by
  obtain ⟨a1, a2⟩ := a
  obtain ⟨b1, b2⟩ := b
  unfold sc at h1
  simp only at h1 h2
  split at h1 <;> simp <;> omega
theorem ltH_irrefl (m : Int) (a : Ht) : ltH m a a = false := by
  cases h : knownB m with
  | false => exact ltH_unknown h _ _
  | true => rw [ltH_no h]; omega
theorem swo (m : Int) : Sort.SWO (ltOf (cfH m)) where
  irrefl x := ltH_irrefl m x
  trans x y z h1 h2 := by
    cases h : knownB m with
    | false => exact absurd h1 (by rw [show ltOf (cfH m) x y = false from ltH_unknown h x y]; simp)
    | true => have a := (ltH_iff h x y).1 h1; have b := (ltH_iff h y z).1 h2; exact (ltH_iff h x z).2 (by omega)
  ntrans x y z h1 h2 := by
    cases h : knownB m with
    | false => exact ltH_unknown h _ _
    | true => have a := (ltH_no h x y).1 h1; have b := (ltH_no h y z).1 h2; exact (ltH_no h x z).2 (by omega)
theorem ltH_both {m : Int} (h : knownB m = true) (x y : Ht) (h1 : ltH m x y = false) (h2 : ltH m y x = false) : x = y := by
  rw [ltH_no h] at h1 h2
  exact ht_eq (m := m) (by omega) (by omega)
theorem ltH_asym {m : Int} {x y : Ht} (h1 : ltH m x y = true) : ltH m y x = false := by
  cases h : ltH m y x with
  | false => rfl
  | true => have := (swo m).trans x y x h1 h; rw [(swo m).irrefl] at this; cases this
/-! ### Rows sorted -/
def Sd (m : Int) (l : List Ht) : Prop := l.Pairwise (fun a b => ltH m b a = false)
def srt (m : Int) (l : List Ht) : List Ht := l.mergeSort (fun x y => !(ltOf (cfH m)) y x)
theorem srt_perm (m : Int) (l : List Ht) : (srt m l).Perm l := List.mergeSort_perm _ _
theorem srt_sd (m : Int) (l : List Ht) : Sd m (srt m l) := by
  have := List.pairwise_mergeSort (le := fun x y => !(ltOf (cfH m)) y x) (fun a b c h1 h2 => by
      simp only [Bool.not_eq_true'] at *; exact (swo m).ntrans c b a h2 h1) (fun a b => by
      cases h : ltOf (cfH m) b a with
      | false => simp
      | true => simp [ltH_asym h]) l
  exact this.imp (fun h => by simpa using h)
theorem sd_unique {m : Int} (h : knownB m = true) {l l' : List Ht} (h1 : Sd m l) (h2 : Sd m l') (hp : l.Perm l') : l = l' :=
  List.Perm.eq_of_pairwise (fun a b _ _ ha hb => ltH_both h a b hb ha) h1 h2 hp
def insR (m : Int) (h : Ht) : List Ht → List Ht
  | [] => [h]
  | x :: r => if ltH m h x then h :: x :: r else x :: insR m h r
theorem insR_perm (m : Int) (h : Ht) : ∀ l, (insR m h l).Perm (h :: l)
  | [] => List.Perm.refl _
  | x :: r => by
    unfold insR
    split
    · exact List.Perm.refl _
    · exact ((insR_perm m h r).cons x).trans (List.Perm.swap h x r)
theorem insR_length (m : Int) (h : Ht) (l : List Ht) : (insR m h l).length = l.length + 1 := by simpa using (insR_perm m h l).length_eq
theorem insR_sd (m : Int) (h : Ht) : ∀ l, Sd m l → Sd m (insR m h l)
  | [], _ => by simp [insR, Sd]
  | x :: r, hs => by
    unfold insR
    obtain ⟨a, b⟩ := List.pairwise_cons.1 hs
    split
    · rename_i hx
      refine List.pairwise_cons.2 ⟨fun y hy => ?_, hs⟩
      rcases List.mem_cons.1 hy with rfl | hy
      · exact ltH_asym hx
      · exact (swo m).ntrans y x h (a y hy) (ltH_asym hx)
    · rename_i hx
      refine List.pairwise_cons.2 ⟨fun y hy => ?_, insR_sd m h r b⟩
      rcases List.mem_cons.1 ((insR_perm m h r).mem_iff.1 hy) with rfl | hy
      · simpa using hx
      · exact a y hy
/-- Insertion, where every element is no worse. -/
theorem insR_last (m : Int) (h : Ht) : ∀ l, (∀ a ∈ l, ltH m h a = false) → insR m h l = l ++ [h]
  | [], _ => rfl
  | x :: r, hl => by
    unfold insR
    rw [if_neg (by rw [hl x (by simp)]; simp), insR_last m h r (fun a ha => hl a (by simp [ha]))]
    rfl
theorem insR_take (m : Int) (h : Ht) : ∀ (l : List Ht) (k : Nat), (insR m h (l.take k)).take k = (insR m h l).take k
  | [], k => by simp
  | x :: r, 0 => by simp
  | x :: r, k + 1 => by
    simp only [List.take_succ_cons, insR]
    split
    · simp only [List.take_succ_cons]
      rw [show (x :: r.take k) = (x :: r).take (k + 1) by simp, List.take_take]
      congr 2; omega
    · simp only [List.take_succ_cons, insR_take m h r k]
theorem insR_of {m : Int} (hm : knownB m = true) {h : Ht} {l U : List Ht} (hp : U.Perm (h :: l)) : insR m h (srt m l) = srt m U :=
  sd_unique hm (insR_sd m h _ (srt_sd m l)) (srt_sd m U) ((insR_perm m h _).trans (((srt_perm m l).cons h).trans (hp.symm.trans (srt_perm m U).symm)))
/-- The document's Sort. -/
def foldR (m : Int) (l : List Ht) : List Ht := l.foldl (fun o h => insR m h o) []
theorem foldR_is {m : Int} (hm : knownB m = true) (l : List Ht) : foldR m l = srt m l := by
  have key : ∀ (l o : List Ht), Sd m o → Sd m (l.foldl (fun o h => insR m h o) o) ∧ (l.foldl (fun o h => insR m h o) o).Perm (l ++ o) := by
    intro l
    induction l with
    | nil => intro o h; exact ⟨h, List.Perm.refl _⟩
    | cons x r ih =>
      intro o h
      have := ih _ (insR_sd m x o h)
      exact ⟨this.1, this.2.trans (((insR_perm m x o).append_left r).trans (List.perm_middle))⟩
  have h0 := key l [] List.Pairwise.nil
  exact sd_unique hm h0.1 (srt_sd m l) (h0.2.trans (by simpa using (srt_perm m l).symm))
theorem foldR_take {m : Int} {l : List Ht} {k : Nat} {x : Ht} (h : l[k]? = some x) : foldR m (l.take (k + 1)) = insR m x (foldR m (l.take k)) := by
  unfold foldR
  rw [List.take_add_one, h, List.foldl_append]
  rfl
theorem foldR_length (m : Int) (l : List Ht) : (foldR m l).length = l.length := by
  have : ∀ (l o : List Ht), (l.foldl (fun o h => insR m h o) o).length = l.length + o.length := by
    intro l
    induction l with
    | nil => intro o; simp
    | cons x r ih => intro o; simp only [List.foldl_cons, ih, insR_length, List.length_cons]; omega
  unfold foldR
  rw [this l []]
  simp
def sortR (m : Int) (l : List Ht) : List Ht := if knownB m = true then foldR m l else []
def sortH (m : Int) (l : List Ht) : List Ht := if knownB m = true then srt m l else []
theorem sort_alike (m : Int) (l : List Ht) : sortR m l = sortH m l := by
  unfold sortR sortH
  split
  · rename_i h; exact foldR_is h l
  · rfl
/-! ### Heaps -/
def sw (R : List Ht) (i j : Nat) : List Ht := (R.set i R[j]!).set j R[i]!
theorem sw_length (R : List Ht) (i j : Nat) : (sw R i j).length = R.length := by simp [sw]
theorem set_get! (R : List Ht) (i t : Nat) (x : Ht) (hi : i < R.length) : (R.set i x)[t]! = if t = i then x else R[t]! := by
  simp only [List.getElem!_eq_getElem?_getD, List.getElem?_set]
  by_cases h : i = t
  · subst h; simp [hi]
  · simp [h, Ne.symm h]
theorem sw_get (R : List Ht) {i j : Nat} (hi : i < R.length) (hj : j < R.length) (t : Nat) : (sw R i j)[t]! = if t = j then R[i]! else if t = i then R[j]! else R[t]! := by
  unfold sw
  rw [set_get! _ _ _ _ (by simpa using hj), set_get! _ _ _ _ hi]
theorem get!_of {R : List Ht} {i : Nat} (hi : i < R.length) : R[i]! = R[i] := by simp [hi]
theorem sw_perm (R : List Ht) {i j : Nat} (hi : i < R.length) (hj : j < R.length) : (sw R i j).Perm R := by
  rw [List.perm_iff_count]
  intro a
  rw [show sw R i j = (R.set i R[j]).set j R[i] by unfold sw; rw [get!_of hi, get!_of hj]]
  rw [List.count_set (by simpa using hj), List.count_set hi, List.getElem_set]
  have c1 : (if R[i] == a then 1 else 0) ≤ R.count a := by
    split
    · rename_i h; have := beq_iff_eq.1 h; exact List.count_pos_iff.2 (this ▸ List.getElem_mem hi)
    · omega
  by_cases hij : i = j
  · subst hij
    rw [if_pos rfl]
    generalize (if R[i] == a then 1 else 0) = x at c1 ⊢
    omega
  · rw [if_neg hij]
    generalize (if R[i] == a then 1 else 0) = x at c1 ⊢
    generalize (if R[j] == a then 1 else 0) = y
    omega
def par (j : Nat) : Nat := (j - 1) / 2
def HpF (m : Int) (n : Nat) (f : Nat → Ht) : Prop := ∀ j, 0 < j → j < n → ltH m (f (par j)) (f j) = false
def HpX (m : Int) (n : Nat) (f : Nat → Ht) (i : Nat) : Prop :=
  (∀ j, 0 < j → j < n → j ≠ i → ltH m (f (par j)) (f j) = false) ∧ (∀ j, 0 < j → j < n → par j = i → 0 < i → ltH m (f (par i)) (f j) = false)
def HpS (m : Int) (n : Nat) (f : Nat → Ht) (i : Nat) : Prop :=
  (∀ j, 0 < j → j < n → par j ≠ i → ltH m (f (par j)) (f j) = false) ∧ (∀ j, 0 < j → j < n → par j = i → 0 < i → ltH m (f (par i)) (f j) = false)
theorem HpX.rise {m : Int} {n : Nat} {f g : Nat → Ht} {i : Nat} (h : HpX m n f i) (hi : 0 < i) (hin : i < n) (hw : ltH m (f (par i)) (f i) = true)
    (hg : ∀ t, g t = if t = par i then f i else if t = i then f (par i) else f t) : HpX m n g (par i) := by
  have hp : par i < i := by unfold par; omega
  refine ⟨fun j j0 jn jp => ?_, fun j j0 jn jp p0 => ?_⟩
  · rw [hg, hg]
    have e1 : j ≠ par i := jp
    rw [if_neg e1]
    by_cases hji : j = i
    · subst hji; rw [if_pos rfl, if_pos rfl]; exact ltH_asym hw
    · rw [if_neg hji]
      by_cases hjp : par j = par i
      · rw [if_pos hjp]
        have := h.1 j j0 jn hji
        rw [hjp] at this
        exact (swo m).ntrans _ _ _ (ltH_asym hw) this
      · rw [if_neg hjp]
        by_cases hpi : par j = i
        · rw [if_pos hpi]; exact h.2 j j0 jn hpi hi
        · rw [if_neg hpi]; exact h.1 j j0 jn hji
  · have hpp : par (par i) < par i := by show (par i - 1) / 2 < par i; omega
    rw [hg, hg, if_neg (by omega), if_neg (by omega)]
    have hb := h.1 (par i) p0 (by omega) (by omega)
    by_cases hji : j = i
    · subst hji; rw [if_neg (by omega), if_pos rfl]; exact hb
    · have : j ≠ par i := by unfold par at jp ⊢; omega
      rw [if_neg this, if_neg hji]
      have := h.1 j j0 jn hji
      rw [jp] at this
      exact (swo m).ntrans _ _ _ hb this
theorem HpX.stop {m : Int} {n : Nat} {f : Nat → Ht} {i : Nat} (h : HpX m n f i) (hw : i = 0 ∨ ltH m (f (par i)) (f i) = false) : HpF m n f := by
  intro j j0 jn
  by_cases hji : j = i
  · subst hji; exact hw.resolve_left (by omega)
  · exact h.1 j j0 jn hji
theorem HpS.sink {m : Int} {n : Nat} {f g : Nat → Ht} {i c : Nat} (h : HpS m n f i) (hc : par c = i) (c0 : 0 < c) (cn : c < n) (hmax : ∀ j, 0 < j → j < n → par j = i → ltH m (f c) (f j) = false)
    (hw : ltH m (f i) (f c) = true) (hg : ∀ t, g t = if t = c then f i else if t = i then f c else f t) : HpS m n g c := by
  have hic : i < c := by unfold par at hc; omega
  refine ⟨fun j j0 jn jp => ?_, fun j j0 jn jp _ => ?_⟩
  · rw [hg, hg, if_neg jp]
    by_cases hjc : j = c
    · subst hjc; rw [if_pos rfl, if_pos hc]; exact ltH_asym hw
    · rw [if_neg hjc]
      by_cases hji : j = i
      · subst hji
        have : par j ≠ j := by unfold par; omega
        rw [if_neg this, if_pos rfl]
        exact h.2 c c0 cn hc j0
      · rw [if_neg hji]
        by_cases hpi : par j = i
        · rw [if_pos hpi]; exact hmax j j0 jn hpi
        · rw [if_neg hpi]; exact h.1 j j0 jn hpi
  · rw [hg, hg, hc]
    have e1 : j ≠ c := by unfold par at jp; omega
    have e2 : j ≠ i := by unfold par at jp; omega
    rw [if_neg e1, if_neg e2, if_neg (by omega), if_pos rfl]
    have := h.1 j j0 jn (by rw [jp]; omega)
    rwa [jp] at this
theorem HpS.stop {m : Int} {n : Nat} {f : Nat → Ht} {i : Nat} (h : HpS m n f i) (hw : ∀ j, 0 < j → j < n → par j = i → ltH m (f i) (f j) = false) : HpF m n f := by
  intro j j0 jn
  by_cases hji : par j = i
  · rw [hji]; exact hw j j0 jn hji
  · exact h.1 j j0 jn hji
theorem HpF.root {m : Int} {n : Nat} {f : Nat → Ht} (h : HpF m n f) : ∀ j, j < n → ltH m (f 0) (f j) = false := by
  intro j
  induction j using Nat.strongRecOn with
  | ind j ih =>
    intro hj
    rcases Nat.eq_zero_or_pos j with rfl | h0
    · exact ltH_irrefl m _
    · have hp : par j < j := by unfold par; omega
      exact (swo m).ntrans _ _ _ (ih (par j) hp (by omega)) (h j h0 hj)
abbrev Heap (m : Int) (R : List Ht) : Prop := HpF m R.length (fun t => R[t]!)
theorem Heap.worst {m : Int} {R : List Ht} (h : Heap m R) : ∀ x ∈ R, ltH m R[0]! x = false := by
  intro x hx
  obtain ⟨j, hj, rfl⟩ := List.getElem_of_mem hx
  have := h.root j hj
  simpa [hj] using this
theorem Heap.push {m : Int} {R : List Ht} (h : Heap m R) (x : Ht) : HpX m (R ++ [x]).length (fun t => (R ++ [x])[t]!) R.length := by
  have e : ∀ t, t < R.length → (R ++ [x])[t]! = R[t]! := fun t ht => by
    simp only [List.getElem!_eq_getElem?_getD]; rw [List.getElem?_append_left ht]
  refine ⟨fun j j0 jn jx => ?_, fun j j0 jn jp _ => ?_⟩
  · simp only [List.length_append, List.length_singleton] at jn
    have : par j < R.length := by unfold par; omega
    simp only [e _ this, e j (by omega)]
    exact h j j0 (by omega)
  · simp only [List.length_append, List.length_singleton] at jn
    unfold par at jp; omega
theorem Heap.put {m : Int} {R : List Ht} (h : Heap m R) (x : Ht) (h0 : 0 < R.length) : HpS m (R.set 0 x).length (fun t => (R.set 0 x)[t]!) 0 := by
  refine ⟨fun j j0 jn jp => ?_, fun j _ _ _ hh => absurd hh (by omega)⟩
  simp only [List.length_set] at jn
  simp only [set_get! R 0 _ x h0]
  rw [if_neg jp, if_neg (by omega)]
  exact h j j0 jn
/-! ### The best k -/
/-- The document's Add. -/
def addW (m : Int) (k : Nat) (l : List Ht) (h : Ht) : List Ht × Bool :=
  if h ∈ l then (l, false) else if (insR m h l).length ≤ k then (insR m h l, true) else ((insR m h l).take k, decide ((insR m h l)[k]? ≠ some h))
theorem add_twice {m : Int} {k : Nat} {R : List Ht} {h : Ht} (hh : h ∈ R) : addW m k (srt m R) h = (srt m R, false) := by
  unfold addW; rw [if_pos ((srt_perm m R).mem_iff.2 hh)]
theorem add_push {m : Int} (hm : knownB m = true) {k : Nat} {R R' : List Ht} {h : Ht} (hh : h ∉ R) (hk : R.length < k) (hp : R'.Perm (h :: R)) : addW m k (srt m R) h = (srt m R', true) := by
  unfold addW
  rw [if_neg (fun x => hh ((srt_perm m R).mem_iff.1 x)), insR_of hm hp, if_pos]
  rw [(srt_perm m R').length_eq, hp.length_eq]; simp; omega
theorem add_no {m : Int} (hm : knownB m = true) {k : Nat} {R : List Ht} {h : Ht} (hh : h ∉ R) (hk : R.length = k) (H : Heap m R) (h0 : 0 < R.length) (hw : ltH m h R[0]! = false) : addW m k (srt m R) h = (srt m R, false) := by
  have hl : (srt m R).length = k := by rw [(srt_perm m R).length_eq, hk]
  have e := insR_last m h (srt m R) (fun a ha => (swo m).ntrans _ _ _ hw (H.worst a ((srt_perm m R).mem_iff.1 ha)))
  unfold addW
  rw [if_neg (fun x => hh ((srt_perm m R).mem_iff.1 x)), e, if_neg (by simp [hl])]
  subst hl
  simp
/-- The worst one stands last. -/
theorem srt_last {m : Int} (hm : knownB m = true) {R : List Ht} (H : Heap m R) (h0 : 0 < R.length) : ∃ P, srt m R = P ++ [R[0]!] ∧ (R[0]! :: P).Perm R := by
  have hm0 : R[0]! ∈ R := by rw [get!_of h0]; exact List.getElem_mem h0
  have hp : R.Perm (R[0]! :: R.erase R[0]!) := List.perm_cons_erase hm0
  refine ⟨srt m (R.erase R[0]!), ?_, ((srt_perm m _).cons _).trans hp.symm⟩
  rw [← insR_of hm hp, insR_last]
  intro a ha
  exact H.worst a (List.mem_of_mem_erase ((srt_perm m _).mem_iff.1 ha))
theorem add_yes {m : Int} (hm : knownB m = true) {k : Nat} {R R' : List Ht} {h : Ht} (hh : h ∉ R) (hk : R.length = k) (H : Heap m R) (h0 : 0 < R.length) (hw : ltH m h R[0]! = true) (hp : R'.Perm (R.set 0 h)) :
    addW m k (srt m R) h = (srt m R', true) := by
  obtain ⟨P, hP, hPp⟩ := srt_last hm H h0
  have hl : P.length + 1 = k := by rw [← hk, ← hPp.length_eq]; simp
  have e : insR m h (srt m R) = srt m (h :: P) ++ [R[0]!] := by
    rw [insR_of hm (List.Perm.refl (h :: R))]
    refine sd_unique hm (srt_sd m _) ?_ ?_
    · refine List.pairwise_append.2 ⟨srt_sd m _, by simp, fun a ha b hb => ?_⟩
      obtain rfl := List.mem_singleton.1 hb
      rcases List.mem_cons.1 ((srt_perm m _).mem_iff.1 ha) with rfl | ha
      · exact ltH_asym hw
      · exact H.worst a (hPp.mem_iff.1 (by simp [ha]))
    · refine (srt_perm m _).trans (.trans ?_ ((srt_perm m (h :: P)).append_right _).symm)
      refine (hPp.symm.cons h).trans ?_
      refine .trans ?_ (List.perm_append_comm (l₁ := [R[0]!]) (l₂ := h :: P))
      exact List.Perm.swap _ _ _
  have hs : (srt m (h :: P)).length = k := by rw [(srt_perm m _).length_eq]; simpa using hl
  have hne : R[0]! ≠ h := fun x => hh (by rw [← x, get!_of h0]; exact List.getElem_mem h0)
  have hR : R'.Perm (h :: P) := by
    refine hp.trans ?_
    cases R with
    | nil => simp at h0
    | cons x r =>
      have : (x :: P).Perm (x :: r) := by simpa using hPp
      simpa using ((List.perm_cons x).1 this).symm
  unfold addW
  rw [if_neg (fun x => hh ((srt_perm m R).mem_iff.1 x)), e, if_neg (by simp [hs])]
  subst hs
  simp only [List.take_left', List.getElem?_append_right (Nat.le_refl _), Nat.sub_self]
  refine Prod.ext ?_ ?_
  · simp only [List.take_left]
    exact sd_unique hm (srt_sd m _) (srt_sd m _) ((srt_perm m _).trans (hR.symm.trans (srt_perm m _).symm))
  · simpa using hne
/-- What is kept of hits, one by one. -/
def keptW (m : Int) (k : Nat) (l : List Ht) : List Ht := l.foldl (fun o h => (addW m k o h).1) []
theorem keptW_take {m : Int} {k : Nat} {l : List Ht} {j : Nat} {x : Ht} (h : l[j]? = some x) : keptW m k (l.take (j + 1)) = (addW m k (keptW m k (l.take j)) x).1 := by
  unfold keptW
  rw [List.take_add_one, h, List.foldl_append]
  rfl
theorem addW_length {m : Int} {k : Nat} {l : List Ht} {h : Ht} (hl : l.length ≤ k) : (addW m k l h).1.length ≤ k := by
  unfold addW
  split
  · exact hl
  · split
    · assumption
    · simp; omega
theorem addW_pos {m : Int} {k : Nat} {l : List Ht} {h : Ht} (hk : 0 < k) : 0 < (addW m k l h).1.length := by
  unfold addW
  split
  · rename_i hh; exact List.length_pos_of_mem hh
  · split
    · rw [insR_length]; omega
    · rw [List.length_take, insR_length]; omega
/-- The hits, each once. -/
def ddF (l : List Ht) : List Ht := l.foldl (fun o h => if h ∈ o then o else o ++ [h]) []
theorem ddF_take {l : List Ht} {j : Nat} {x : Ht} (h : l[j]? = some x) : ddF (l.take (j + 1)) = if x ∈ ddF (l.take j) then ddF (l.take j) else ddF (l.take j) ++ [x] := by
  unfold ddF
  rw [List.take_add_one, h, List.foldl_append]
  rfl
theorem ddF_fact (l : List Ht) : (ddF l).Nodup ∧ (∀ x, x ∈ ddF l ↔ x ∈ l) ∧ (ddF l).length ≤ l.length := by
  have key : ∀ (l o : List Ht), o.Nodup → (l.foldl (fun o h => if h ∈ o then o else o ++ [h]) o).Nodup ∧ (∀ x, x ∈ l.foldl (fun o h => if h ∈ o then o else o ++ [h]) o ↔ x ∈ o ∨ x ∈ l) ∧ (l.foldl (fun o h => if h ∈ o then o else o ++ [h]) o).length ≤ o.length + l.length := by
    intro l
    induction l with
    | nil => intro o h; simp [h]
    | cons x r ih =>
      intro o h
      simp only [List.foldl_cons]
      by_cases hx : x ∈ o
      · rw [if_pos hx]
        obtain ⟨a, b, c⟩ := ih o h
        refine ⟨a, fun y => ?_, by simp; omega⟩
        rw [b]; simp only [List.mem_cons]
        constructor
        · rintro (h | h) <;> simp [h]
        · rintro (h | rfl | h) <;> simp_all
      · rw [if_neg hx]
        obtain ⟨a, b, c⟩ := ih (o ++ [x]) (by
          rw [List.nodup_append]; exact ⟨h, by simp, fun y hy z hz => by simp at hz; subst hz; exact fun e => hx (e ▸ hy)⟩)
        refine ⟨a, fun y => ?_, by simp at c ⊢; omega⟩
        rw [b]; simp only [List.mem_append, List.mem_singleton, List.mem_cons, or_assoc, List.not_mem_nil, false_or]
  obtain ⟨a, b, c⟩ := key l [] List.nodup_nil
  exact ⟨a, fun x => by unfold ddF; rw [b]; simp, by unfold ddF; simpa using c⟩
/-- Whatever the order: the best of all. -/
theorem keptW_is {m : Int} (hm : knownB m = true) (k : Nat) (l : List Ht) : ∀ U : List Ht, U.Nodup → (∀ x, x ∈ U ↔ x ∈ l) → keptW m k l = (srt m U).take k := by
  have key : ∀ (l o U : List Ht), o = (srt m U).take k → U.Nodup → ∃ V, V.Nodup ∧ (∀ x, x ∈ V ↔ x ∈ U ∨ x ∈ l) ∧ l.foldl (fun o h => (addW m k o h).1) o = (srt m V).take k := by
    intro l
    induction l with
    | nil => intro o U h hn; exact ⟨U, hn, by simp, h⟩
    | cons h r ih =>
      intro o U ho hU
      simp only [List.foldl_cons]
      have hcut : ∀ q : List Ht, h ∉ q → (addW m k q h).1 = (insR m h q).take k := fun q hq => by
        unfold addW
        rw [if_neg hq]
        split
        · rename_i hl; simp only; rw [List.take_of_length_le hl]
        · rfl
      by_cases hhU : h ∈ U
      · have same : (addW m k o h).1 = (srt m U).take k := by
          by_cases hho : h ∈ o
          · unfold addW; rw [if_pos hho]; exact ho
          · rw [hcut o hho, ho]
            have hs : h ∈ srt m U := (srt_perm m U).mem_iff.2 hhU
            rw [← List.take_append_drop k (srt m U)] at hs
            have hd : h ∈ (srt m U).drop k := (List.mem_append.1 hs).resolve_left (ho ▸ hho)
            have hpw := srt_sd m U
            rw [← List.take_append_drop k (srt m U)] at hpw
            have hlt := (List.pairwise_append.1 hpw).2.2
            rw [insR_last m h _ (fun a ha => hlt a ha h hd)]
            have : ((srt m U).take k).length = k := by
              have := List.length_pos_of_mem hd
              simp at this ⊢; omega
            rw [List.take_append_of_le_length (by omega), List.take_take, Nat.min_self]
        obtain ⟨V, h1, h2, h3⟩ := ih _ U same hU
        refine ⟨V, h1, fun x => ?_, h3⟩
        rw [h2]
        simp only [List.mem_cons]
        constructor
        · rintro (x | x) <;> simp [x]
        · rintro (x | rfl | x) <;> simp_all
      · have hho : h ∉ o := fun x => hhU ((srt_perm m U).mem_iff.1 (List.mem_of_mem_take (ho ▸ x)))
        have nxt : (addW m k o h).1 = (srt m (h :: U)).take k := by
          rw [hcut o hho, ho, insR_take, insR_of hm (List.Perm.refl (h :: U))]
        obtain ⟨V, h1, h2, h3⟩ := ih _ (h :: U) nxt (List.nodup_cons.2 ⟨hhU, hU⟩)
        refine ⟨V, h1, fun x => ?_, h3⟩
        rw [h2]
        simp only [List.mem_cons]
        constructor
        · rintro ((x | x) | x) <;> simp [x]
        · rintro (x | x | x) <;> simp [x]
  intro U hU hmem
  obtain ⟨V, h1, h2, h3⟩ := key l [] [] (by simp [srt]) List.nodup_nil
  unfold keptW
  rw [h3]
  congr 1
  refine sd_unique hm (srt_sd m V) (srt_sd m U) ((srt_perm m V).trans (.trans ?_ (srt_perm m U).symm))
  exact (List.perm_ext_iff_of_nodup h1 hU).2 (fun x => by rw [h2, hmem]; simp)
end Tk
end Go.Proofs.Ytfgmkdghpdpdkaa
