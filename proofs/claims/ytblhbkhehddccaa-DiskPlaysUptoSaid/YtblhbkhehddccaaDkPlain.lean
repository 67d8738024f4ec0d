/- A disk as plain data: names in their order, files, open changes, planned faults; what each call does to it. No program is named here. Conditions: none but those that each theorem names. -/
import Derived.WalkKit
namespace Go.Proofs.Ytblhbkhehddccaa
namespace Dk

/-! ### names -/
abbrev Nm := ByteArray
def ltN (a b : Nm) : Bool := decide (a.data.toList < b.data.toList)
theorem ltN_irrefl (a : Nm) : ltN a a = false := by simp [ltN, List.lt_irrefl]
theorem ltN_trans {a b c : Nm} (h : ltN a b = true) (k : ltN b c = true) : ltN a c = true := by
  simp only [ltN, decide_eq_true_eq] at *; exact List.lt_trans h k
theorem nm_ext {a b : Nm} (h : a.data.toList = b.data.toList) : a = b := by
  cases a; cases b; simp at h; rw [h]
theorem ltN_total {a b : Nm} (h : a ≠ b) : ltN a b = true ∨ ltN b a = true := by
  simp only [ltN, decide_eq_true_eq]
  by_cases c : a.data.toList < b.data.toList
  · exact .inl c
  · refine .inr ?_
    have c' := List.not_lt.1 c
    rcases List.le_iff_lt_or_eq.1 c' with d | d
    · exact d
    · exact absurd (nm_ext d.symm) h
def Sorted (L : List (Nm × Nat)) : Prop := L.Pairwise (fun p q => ltN p.1 q.1 = true)
def nmGet (L : List (Nm × Nat)) (n : Nm) : Option Nat := (L.find? (fun p => decide (p.1 = n))).map (·.2)
def nmDel (L : List (Nm × Nat)) (n : Nm) : List (Nm × Nat) := L.filter (fun p => decide (p.1 ≠ n))
def nmPut (L : List (Nm × Nat)) (n : Nm) (i : Nat) : List (Nm × Nat) := (nmDel L n).takeWhile (fun p => ltN p.1 n) ++ (n, i) :: (nmDel L n).dropWhile (fun p => ltN p.1 n)
def nmSet (L : List (Nm × Nat)) (x : Nm × Option Nat) : List (Nm × Nat) := match x.2 with | none => nmDel L x.1 | some i => nmPut L x.1 i

theorem mem_nmDel {L : List (Nm × Nat)} {n : Nm} {p : Nm × Nat} : p ∈ nmDel L n ↔ p.1 ≠ n ∧ p ∈ L := by simp [nmDel, and_comm]
theorem mem_nmPut {L : List (Nm × Nat)} {n : Nm} {i : Nat} {p : Nm × Nat} : p ∈ nmPut L n i ↔ p = (n, i) ∨ (p.1 ≠ n ∧ p ∈ L) := by
  have h : p ∈ nmDel L n ↔ p ∈ (nmDel L n).takeWhile (fun p => ltN p.1 n) ∨ p ∈ (nmDel L n).dropWhile (fun p => ltN p.1 n) := by
    rw [← List.mem_append, List.takeWhile_append_dropWhile]
  rw [mem_nmDel] at h
  rw [h]
  simp only [nmPut, List.mem_append, List.mem_cons]
  constructor
  · rintro (a | a | a)
    · exact .inr (.inl a)
    · exact .inl a
    · exact .inr (.inr a)
  · rintro (a | a | a)
    · exact .inr (.inl a)
    · exact .inl a
    · exact .inr (.inr a)
theorem Sorted.inj {L : List (Nm × Nat)} (h : Sorted L) {n : Nm} {i j : Nat} (a : (n, i) ∈ L) (b : (n, j) ∈ L) : i = j := by
  obtain ⟨x, hx, ex⟩ := List.getElem_of_mem a
  obtain ⟨y, hy, ey⟩ := List.getElem_of_mem b
  rcases Nat.lt_trichotomy x y with c | c | c
  · have := List.pairwise_iff_getElem.1 h x y hx hy c
    rw [ex, ey, ltN_irrefl] at this; cases this
  · subst c; rw [ex] at ey; exact (Prod.mk.inj ey).2
  · have := List.pairwise_iff_getElem.1 h y x hy hx c
    rw [ex, ey, ltN_irrefl] at this; cases this
theorem nmGet_some {L : List (Nm × Nat)} (h : Sorted L) {n : Nm} {i : Nat} : nmGet L n = some i ↔ (n, i) ∈ L := by
  unfold nmGet
  constructor
  · intro e
    cases hf : L.find? (fun p => decide (p.1 = n)) with
    | none => rw [hf] at e; cases e
    | some p =>
      rw [hf] at e
      have h1 := List.find?_some hf
      have h2 := List.mem_of_find?_eq_some hf
      simp only [decide_eq_true_eq] at h1
      simp only [Option.map_some, Option.some.injEq] at e
      rw [← h1, ← e]; exact h2
  · intro m
    cases hf : L.find? (fun p => decide (p.1 = n)) with
    | none => have := List.find?_eq_none.1 hf _ m; simp at this
    | some p =>
      have h1 := List.find?_some hf
      have h2 := List.mem_of_find?_eq_some hf
      simp only [decide_eq_true_eq] at h1
      have h3 : (n, p.2) ∈ L := by rw [← h1]; exact h2
      simp only [Option.map_some, Option.some.injEq]
      exact h.inj h3 m
theorem nmGet_none {L : List (Nm × Nat)} {n : Nm} : nmGet L n = none ↔ ∀ i, (n, i) ∉ L := by
  unfold nmGet
  rw [Option.map_eq_none_iff, List.find?_eq_none]
  constructor
  · intro h i m; have := h _ m; simp at this
  · intro h p m; simp only [decide_eq_true_eq]; rintro rfl; exact h p.2 m
theorem sorted_nmDel {L : List (Nm × Nat)} (h : Sorted L) (n : Nm) : Sorted (nmDel L n) := List.Pairwise.filter _ h
theorem dropWhile_all {L : List (Nm × Nat)} (h : Sorted L) (n : Nm) (hn : ∀ p ∈ L, p.1 ≠ n) : ∀ p ∈ L.dropWhile (fun p => ltN p.1 n), ltN n p.1 = true := by
  induction L with
  | nil => intro p hp; simp at hp
  | cons x r ih =>
    intro p hp
    obtain ⟨h1, h2⟩ := List.pairwise_cons.1 h
    rw [List.dropWhile_cons] at hp
    split at hp
    · exact ih h2 (fun q hq => hn q (by simp [hq])) p hp
    · rename_i hx
      have hnx : ltN n x.1 = true := by
        rcases ltN_total (hn x (by simp)) with c | c
        · exact absurd c hx
        · exact c
      rcases List.mem_cons.1 hp with rfl | hp
      · exact hnx
      · exact ltN_trans hnx (h1 p hp)
theorem takeWhile_all {L : List (Nm × Nat)} (n : Nm) : ∀ p ∈ L.takeWhile (fun p => ltN p.1 n), ltN p.1 n = true := by
  induction L with
  | nil => intro p hp; simp at hp
  | cons x r ih =>
    intro p hp
    rw [List.takeWhile_cons] at hp
    split at hp
    · rename_i hx
      rcases List.mem_cons.1 hp with rfl | hp
      · exact hx
      · exact ih p hp
    · simp at hp
theorem sorted_nmPut {L : List (Nm × Nat)} (h : Sorted L) (n : Nm) (i : Nat) : Sorted (nmPut L n i) := by
  have hd := sorted_nmDel h n
  have hne : ∀ p ∈ nmDel L n, p.1 ≠ n := fun p hp => (mem_nmDel.1 hp).1
  unfold nmPut Sorted
  rw [List.pairwise_append]
  refine ⟨hd.sublist (List.takeWhile_sublist _), List.pairwise_cons.2 ⟨fun p hp => dropWhile_all hd n hne p hp, hd.sublist (List.dropWhile_sublist _)⟩, ?_⟩
  intro p hp q hq
  have hpn := takeWhile_all n p hp
  rcases List.mem_cons.1 hq with rfl | hq
  · exact hpn
  · exact ltN_trans hpn (dropWhile_all hd n hne q hq)
theorem sorted_nmSet {L : List (Nm × Nat)} (h : Sorted L) (x : Nm × Option Nat) : Sorted (nmSet L x) := by
  unfold nmSet; split
  · exact sorted_nmDel h _
  · exact sorted_nmPut h _ _
theorem nmDel_none {L : List (Nm × Nat)} {n : Nm} (h : nmGet L n = none) : nmDel L n = L := by
  have := nmGet_none.1 h
  unfold nmDel
  rw [List.filter_eq_self]
  intro p hp
  simp only [decide_eq_true_eq]
  rintro rfl; exact this p.2 hp
theorem length_nmDel_some {L : List (Nm × Nat)} (hs : Sorted L) {n : Nm} {i : Nat} (h : nmGet L n = some i) : (nmDel L n).length = L.length - 1 := by
  have hm := (nmGet_some hs).1 h
  clear h
  induction L with
  | nil => simp at hm
  | cons x r ih =>
    obtain ⟨h1, h2⟩ := List.pairwise_cons.1 hs
    rcases List.mem_cons.1 hm with rfl | hm
    · have : nmDel r n = r := by
        unfold nmDel; rw [List.filter_eq_self]; intro p hp; simp only [decide_eq_true_eq]; intro e
        have := h1 p hp; simp only [e, ltN_irrefl] at this; cases this
      unfold nmDel at this ⊢
      rw [List.filter_cons, if_neg (by simp), this]
      simp
    · have hx : x.1 ≠ n := by
        intro e
        have := h1 _ hm; simp only [e, ltN_irrefl] at this; cases this
      have := ih h2 hm
      have hl : 0 < r.length := List.length_pos_of_mem hm
      unfold nmDel at *
      rw [List.filter_cons, if_pos (by simpa using hx)]
      simp only [List.length_cons, this]; omega
theorem length_nmPut {L : List (Nm × Nat)} (n : Nm) (i : Nat) : (nmPut L n i).length = (nmDel L n).length + 1 := by
  have h : (nmDel L n).length = ((nmDel L n).takeWhile (fun p => ltN p.1 n)).length + ((nmDel L n).dropWhile (fun p => ltN p.1 n)).length := by
    rw [← List.length_append, List.takeWhile_append_dropWhile]
  unfold nmPut
  rw [List.length_append, List.length_cons]; omega
theorem length_nmDel_le (L : List (Nm × Nat)) (n : Nm) : (nmDel L n).length ≤ L.length := List.length_filter_le _ _
theorem length_nmSet_le (L : List (Nm × Nat)) (x : Nm × Option Nat) : (nmSet L x).length ≤ L.length + 1 := by
  unfold nmSet; split
  · have := length_nmDel_le L x.1; omega
  · rw [length_nmPut]; have := length_nmDel_le L x.1; omega

/-! ### the disk -/
structure FileC where
  data : List UInt8
  synced : Nat
structure DSt where
  names : List (Nm × Nat)
  opn : List (List (Nm × Option Nat))
  files : List FileC
  steps : Int
  plan : List (Int × Int × Int)
def new : DSt := ⟨[], [], [], 0, []⟩
def FileC.cut (f : FileC) (k : Nat) : FileC := ⟨f.data.take k, min f.synced (f.data.take k).length⟩
def linkOk (k : Nat) (x : Nm × Option Nat) : Prop := x.1.size ≤ maxLen ∧ ∀ i, x.2 = some i → i < k
structure DSt.Ok (D : DSt) : Prop where
  sorted : Sorted D.names
  named : ∀ p ∈ D.names, p.1.size ≤ maxLen ∧ p.2 < D.files.length
  opened : ∀ l ∈ D.opn, ∀ x ∈ l, linkOk D.files.length x
  synced : ∀ f ∈ D.files, f.synced ≤ f.data.length ∧ f.data.length ≤ maxLen
def DSt.tick (D : DSt) : DSt := { D with steps := D.steps + 1, plan := D.plan.filter (fun p => decide (p.1 ≠ D.steps + 1)) }
def DSt.hit (D : DSt) : Option (Int × Int × Int) := D.plan.find? (fun p => decide (p.1 = D.steps + 1))
def befores : List (Nm × Nat) → List (Nm × Option Nat) → List (Nm × Option Nat)
  | _, [] => []
  | L, x :: r => (x.1, nmGet L x.1) :: befores (nmSet L x) r
def DSt.relink (D : DSt) (l : List (Nm × Option Nat)) : DSt := { D with names := l.foldl nmSet D.names, opn := D.opn ++ [befores D.names l] }
def DSt.begun (D : DSt) (n : Nm) : DSt := match nmGet D.names n with | some _ => D | none => (DSt.mk D.names D.opn (D.files ++ [FileC.mk [] 0]) D.steps D.plan).relink [(n, some D.files.length)]
def DSt.at (D : DSt) (n : Nm) : Nat := (nmGet D.names n).getD D.files.length
def DSt.lay (D : DSt) (n : Nm) (s : List UInt8) : DSt := { D.begun n with files := (D.begun n).files.modify (D.at n) (fun f => { f with data := f.data ++ s }) }
def hitErr (f : Int × Int × Int) : Int := if f.2.1 = 3 then 23 else 22
def undoOne (L : List (Nm × Nat)) (l : List (Nm × Option Nat)) : List (Nm × Nat) := l.foldl nmSet L
def DSt.undo (D : DSt) (keep : Nat) : DSt := { D with names := (D.opn.drop keep).reverse.foldl undoOne D.names }
/-- how many open bytes the crash leaves of the file whose name stands at place j -/
def left (l : List Int) (j : Nat) : Nat := if l.length = 0 then 0 else (max (l.getD (j % l.length) 0) 0).toNat
def FileC.crash (f : FileC) (b : Nat) : FileC := ⟨f.data.take (f.synced + min b (f.data.length - f.synced)), (f.data.take (f.synced + min b (f.data.length - f.synced))).length⟩
def crashFiles (bs : List Int) : List (Nm × Nat) → Nat → List FileC → List FileC
  | [], _, fs => fs
  | p :: r, j, fs => crashFiles bs r (j + 1) (fs.modify p.2 (fun f => f.crash (left bs j)))
def DSt.crash (D : DSt) (keep : Nat) (bs : List Int) : DSt :=
  { D.undo keep with files := crashFiles bs (D.undo keep).names 0 D.files, opn := [], plan := [] }

theorem befores_length (L : List (Nm × Nat)) (l : List (Nm × Option Nat)) : (befores L l).length = l.length := by
  induction l generalizing L with
  | nil => rfl
  | cons x r ih => simp [befores, ih]
end Dk
end Go.Proofs.Ytblhbkhehddccaa
