/- Both disks, call by call: the answers are the same, and they stay alike. Conditions: those that each theorem names. -/
import Derived.Test.YtblhbkhehddccaaRfNames
import Derived.Test.YtblhbkhehddccaaDkD
namespace Go.Proofs.Ytblhbkhehddccaa
set_option linter.unusedVariables false
open Go.RowKit Dk
section
variable {φ : Nat → Nat} {D : DSt} {M : RSt}
theorem Dk.Twin.ask (h : Dk.Twin φ D M) (s : Nm) : askE M s = askD D s := by
  unfold askE askD
  rw [h.get]
  cases nmGet D.names s <;> rfl
theorem Dk.Twin.hits (h : Dk.Twin φ D M) : M.hit = D.hit := h.hit.symm
theorem hitE_D (h : Dk.Twin φ D M) : hitE M.hit = hitD D := by
  rw [h.hits]
  unfold hitD
  cases D.hit <;> rfl
theorem Dk.Twin.file_at (h : Dk.Twin φ D M) {s : Nm} {i : Nat} (hg : nmGet D.names s = some i) : ∃ f, D.files[i]? = some f ∧ M.files[φ i]? = some f ∧ (s, i) ∈ D.names := by
  have hm := (nmGet_some h.names_sorted).1 hg
  obtain ⟨f, h1, h2⟩ := h.file D.opn.length (Nat.le_refl _) (s, i) (by rw [undo_all]; exact hm)
  exact ⟨f, h1, h2, hm⟩
theorem fileD_at {s : Nm} {i : Nat} {f : FileC} (hg : nmGet D.names s = some i) (hf : D.files[i]? = some f) : fileD D s = f ∧ placeD D s = i := by
  unfold fileD placeD; rw [hg]; simp [hf]
theorem fileOf_at {s : Nm} {i : Nat} {f : FileC} (hg : nmGet M.now s = some i) (hf : M.files[i]? = some f) : fileOf M s = f ∧ placeOf M s = i := by
  unfold fileOf placeOf; rw [hg]; simp [hf]
theorem Dk.Twin.filed (h : Dk.Twin φ D M) (s : Nm) : Filed M s := by
  intro i hi
  rw [h.get] at hi
  cases hg : nmGet D.names s with
  | none => rw [hg] at hi; cases hi
  | some j =>
    rw [hg] at hi
    obtain rfl : φ j = i := Option.some.inj hi
    obtain ⟨f, _, h2, _⟩ := h.file_at hg
    exact ⟨f, h2⟩
/-- The files that a name leads to are the same. -/
theorem Dk.Twin.files (h : Dk.Twin φ D M) {s : Nm} {i : Nat} (hg : nmGet D.names s = some i) : fileOf M s = fileD D s ∧ placeOf M s = φ i ∧ placeD D s = i ∧ D.files[i]? = some (fileD D s) ∧ M.files[φ i]? = some (fileD D s) ∧ (s, i) ∈ D.names := by
  obtain ⟨f, h1, h2, h3⟩ := h.file_at hg
  have hg' : nmGet M.now s = some (φ i) := by rw [h.get, hg]; rfl
  obtain ⟨e1, e2⟩ := fileD_at hg h1
  obtain ⟨e3, e4⟩ := fileOf_at hg' h2
  rw [e1, e2, e3, e4]
  exact ⟨rfl, rfl, rfl, h1, h2, h3⟩
theorem ask_some {s : Nm} (h : askD D s = 0) : ∃ i, s.toList.isEmpty = false ∧ nmGet D.names s = some i := by
  rcases askD_ways D s with ⟨_, h2⟩ | ⟨_, _, h2⟩ | ⟨i, h1, hg, _⟩
  · omega
  · omega
  · exact ⟨i, h1, hg⟩
theorem two_remove (h : Dk.Twin φ D M) (s : Nm) : (removeR M s).1 = (removeD D s).1 ∧ Dk.Twin φ (removeD D s).2 (removeR M s).2 := by
  unfold removeD removeR
  rw [h.ask, hitE_D h]
  split
  · exact ⟨rfl, h⟩
  split
  · exact ⟨rfl, h.tick⟩
  · exact ⟨rfl, h.tick.remove s⟩
theorem two_rename (h : Dk.Twin φ D M) (s t : Nm) : (renameR M s t).1 = (renameD D s t).1 ∧ Dk.Twin φ (renameD D s t).2 (renameR M s t).2 := by
  unfold renameD renameR
  rw [h.ask, hitE_D h]
  split
  · exact ⟨rfl, h⟩
  split
  · exact ⟨rfl, h⟩
  split
  · exact ⟨rfl, h.tick⟩
  split
  · exact ⟨rfl, h.tick⟩
  · rename_i ha _ hst
    obtain ⟨i, h1, hg⟩ := ask_some (D := D) (s := s) (by omega)
    obtain ⟨_, _, e3, _⟩ := h.files hg
    have e : (askF M s).toNat = φ i := by
      unfold askF
      rw [if_neg (by rw [h1]; decide), h.get, hg]; rfl
    rw [e, e3]
    exact ⟨rfl, h.tick.rename hst hg⟩
theorem two_sync (h : Dk.Twin φ D M) (s : Nm) : (syncR M s).1 = (syncD D s).1 ∧ Dk.Twin φ (syncD D s).2 (syncR M s).2 := by
  unfold syncD syncR
  rw [h.ask, hitE_D h]
  split
  · exact ⟨rfl, h⟩
  split
  · exact ⟨rfl, h.tick⟩
  · rename_i ha _
    obtain ⟨i, h1, hg⟩ := ask_some (D := D) (s := s) (by omega)
    obtain ⟨e1, e2, e3, e4, e5, e6⟩ := h.files hg
    rw [e1, e2, e3]
    exact ⟨rfl, h.tick.turn (n := s) (i := i) e6 (syncF (fileD D s))⟩
theorem two_cut (h : Dk.Twin φ D M) (s : Nm) (z : Int) (k : Nat) (hk : max 0 (min z ((fileOf M s).data.length : Int)) = (k : Int)) : (cutR M s k).1 = (cutD D s z).1 ∧ Dk.Twin φ (cutD D s z).2 (cutR M s k).2 := by
  unfold cutD cutR
  rw [h.ask, hitE_D h]
  split
  · exact ⟨rfl, h⟩
  split
  · exact ⟨rfl, h.tick⟩
  · rename_i ha _
    obtain ⟨i, h1, hg⟩ := ask_some (D := D) (s := s) (by omega)
    obtain ⟨e1, e2, e3, e4, e5, e6⟩ := h.files hg
    have ek : cutK (fileD D s) z = k := by unfold cutK; rw [← e1]; omega
    rw [e1, e2, e3, ek]
    exact ⟨rfl, h.tick.turn (n := s) (i := i) e6 ((fileD D s).cut k)⟩
theorem two_syncNames (h : Dk.Twin φ D M) : (syncNamesR M).1 = (syncNamesD D).1 ∧ Dk.Twin φ (syncNamesD D).2 (syncNamesR M).2 := by
  unfold syncNamesD syncNamesR
  rw [hitE_D h]
  split
  · exact ⟨rfl, h.tick⟩
  · exact ⟨rfl, h.tick.close⟩
theorem two_plan (h : Dk.Twin φ D M) (l : List (Int × Int × Int)) : (planR M l).1 = (planD D l).1 ∧ Dk.Twin φ (planD D l).2 (planR M l).2 := by
  have e : planOk M.made l = planOk D.steps l := by rw [h.made]
  unfold planD planR
  rw [e]
  split
  · exact ⟨rfl, h⟩
  split
  · exact ⟨rfl, h.planned l⟩
  · exact ⟨rfl, h⟩
theorem two_read (h : Dk.Twin φ D M) (s : Nm) : readR M s = readD D s := by
  unfold readR readD
  rw [h.get]
  split
  · rfl
  cases hg : nmGet D.names s with
  | none => rfl
  | some i =>
    obtain ⟨e1, e2, e3, e4, e5, e6⟩ := h.files hg
    simp only [Option.map_some]
    rw [e5]
theorem two_names (h : Dk.Twin φ D M) : M.now.map (·.1) = D.names.map (·.1) := by
  rw [h.now]; unfold ren; rw [List.map_map]; rfl
theorem names_len (h : Dk.Twin φ D M) : M.now.length = D.names.length := by rw [h.now]; unfold ren; rw [List.length_map]
theorem set_end {α : Type} (l : List α) (x y : α) : (l ++ [x]).set l.length y = l ++ [y] := by
  rw [List.set_append_right _ _ (Nat.le_refl _)]; simp
theorem two_lay (h : Dk.Twin φ D M) (s : Nm) (d : List UInt8) : ∃ ψ, Dk.Twin ψ (layD D s d) (layR M s d) := by
  unfold layD layR
  rw [h.get]
  cases hg : nmGet D.names s with
  | some i =>
    obtain ⟨e1, e2, e3, e4, e5, e6⟩ := h.files hg
    simp only [Option.map_some]
    rw [e5]
    exact ⟨φ, h.turn (n := s) (i := i) e6 { fileD D s with data := (fileD D s).data ++ d }⟩
  | none =>
    have hb := h.begun hg
    have em : D.begun s = more D s := by unfold DSt.begun more; rw [hg]
    rw [em] at hb
    have hm : (s, D.files.length) ∈ (more D s).names := mem_nmPut.2 (.inl rfl)
    have ht := hb.turn hm ⟨d, 0⟩
    simp only [if_true] at ht
    rw [set_end] at ht
    exact ⟨_, ht⟩
theorem write_same (h : Dk.Twin φ D M) (hp : ∀ f ∈ D.plan, mayB f = true) (t : Nm) : (writeN M t < 0 ↔ writeK D t < 0) ∧ (0 ≤ writeK D t → min (writeN M t) (t.size : Int) = writeK D t) := by
  unfold writeN writeK
  rw [h.hits]
  cases hm : D.hit with
  | none => simp [hitE]
  | some f =>
    obtain ⟨a, b, c⟩ := f
    have hmay := hp _ (List.mem_of_find?_eq_some hm)
    have hne : ¬ hitE (some (a, b, c)) = 0 := by
      show ¬ (if b = 3 then (23 : Int) else 22) = 0
      split <;> decide
    rw [if_neg hne]
    unfold hitN
    by_cases c3 : b = 3
    · subst c3; simp
    · by_cases c2 : b = 2
      · subst c2
        have : 0 ≤ c := by simpa [mayB] using hmay
        simp; omega
      · simp [c2, c3]
theorem two_write (h : Dk.Twin φ D M) (hp : ∀ f ∈ D.plan, mayB f = true) (s t : Nm) : (writeR M s t).1 = (writeD D s t).1 ∧ (writeR M s t).2.1 = (writeD D s t).2.1 ∧ ∃ ψ, Dk.Twin ψ (writeD D s t).2.2 (writeR M s t).2.2 := by
  obtain ⟨h1, h2⟩ := write_same h hp t
  unfold writeD writeR
  rw [hitE_D h]
  split
  · exact ⟨rfl, rfl, φ, h⟩
  by_cases c : writeK D t < 0
  · rw [if_pos c, if_pos (h1.2 c)]
    exact ⟨rfl, rfl, φ, h.tick⟩
  · rw [if_neg c, if_neg (fun e => c (h1.1 e)), h2 (by omega)]
    exact ⟨rfl, rfl, two_lay h.tick s _⟩
end
/-! ### the bounds -/
theorem grow_mul (k : Nat) : k * MB + MB = (k + 1) * MB := by rw [Nat.succ_mul]
structure Dk.MBd (k : Nat) (M : RSt) : Prop where
  files : M.files.length ≤ 4 * k
  data : ∀ f ∈ M.files, f.synced ≤ f.data.length ∧ f.data.length ≤ k * MB
  flt : M.faults.length ≤ 4096
section
variable {k : Nat} {D : DSt} {M : RSt}
theorem Dk.DBd.more (h : DBd k D) : DBd (k + 1) D := by
  have h1 := h.sum; have h2 := h.opn; have h3 := h.low; have h4 := h.high
  exact ⟨by omega, by omega, h3, by omega, fun f hf => by have := h.data f hf; have := grow_mul k; omega, h.plan⟩
theorem Dk.MBd.more (h : MBd k M) : MBd (k + 1) M := by
  have h1 := h.files
  exact ⟨by omega, fun f hf => by have := h.data f hf; have := grow_mul k; omega, h.flt⟩
theorem Dk.DBd.tick (h : DBd k D) : DBd (k + 1) D.tick := by
  have h' := h.more
  have h3 := h.low; have h4 := h.high
  exact ⟨h'.sum, h'.opn, by show 0 ≤ D.steps + 1; omega, by show D.steps + 1 ≤ _; omega, h'.data, fun f hf => h.plan f (List.mem_filter.1 hf).1⟩
theorem foldl_set_len (l : List (Nm × Option Nat)) : ∀ L : List (Nm × Nat), (l.foldl nmSet L).length ≤ L.length + l.length := by
  induction l with
  | nil => intro L; simp
  | cons x r ih =>
    intro L
    have := ih (nmSet L x)
    have := length_nmSet_le L x
    rw [List.foldl_cons, List.length_cons]; omega
theorem Dk.DBd.relink (h : DBd k D) (l : List (Nm × Option Nat)) (hl : l.length ≤ 2) : DBd (k + 1) (D.tick.relink l) := by
  have t := h.tick
  have h1 := h.sum; have h2 := h.opn
  have e := foldl_set_len l D.names
  refine ⟨?_, ?_, t.low, t.high, t.data, t.plan⟩
  · show (l.foldl nmSet D.names).length + (D.opn ++ [befores D.names l]).flatten.length ≤ _
    rw [List.flatten_append, List.length_append]
    simp only [List.flatten_cons, List.flatten_nil, List.append_nil, befores_length]
    omega
  · show (D.opn ++ [_]).length ≤ _
    rw [List.length_append]; simp; omega
theorem Dk.DBd.set (h : DBd k D) (i : Nat) (f : FileC) (hf : f.data.length ≤ k * MB) : DBd k { D with files := D.files.set i f } :=
  ⟨h.sum, h.opn, h.low, h.high, fun x hx => by rcases List.mem_or_eq_of_mem_set hx with e | rfl; exact h.data x e; exact hf, h.plan⟩
theorem Dk.MBd.set (h : MBd k M) (i : Nat) (f : FileC) (hf : f.synced ≤ f.data.length ∧ f.data.length ≤ k * MB) : MBd k { M with files := M.files.set i f } :=
  ⟨by show (M.files.set i f).length ≤ _; rw [List.length_set]; exact h.files, fun x hx => by rcases List.mem_or_eq_of_mem_set hx with e | rfl; exact h.data x e; exact hf, h.flt⟩
end
section
variable {k : Nat} {φ : Nat → Nat} {D : DSt} {M : RSt}
theorem bd_remove (h : DBd k D) (m : MBd k M) (s : Nm) : DBd (k + 1) (removeD D s).2 ∧ MBd (k + 1) (removeR M s).2 := by
  refine ⟨?_, ?_⟩
  · unfold removeD; split; exact h.more; split; exact h.tick; exact h.relink _ (by simp)
  · unfold removeR
    split
    · exact m.more
    split
    · exact ⟨m.more.files, m.more.data, m.flt⟩
    · exact ⟨m.more.files, m.more.data, m.flt⟩
theorem bd_rename (h : DBd k D) (m : MBd k M) (s t : Nm) : DBd (k + 1) (renameD D s t).2 ∧ MBd (k + 1) (renameR M s t).2 := by
  refine ⟨?_, ?_⟩
  · unfold renameD; split; exact h.more; split; exact h.more; split; exact h.tick; split; exact h.tick; exact h.relink _ (by simp)
  · unfold renameR
    split
    · exact m.more
    split
    · exact m.more
    split
    · exact ⟨m.more.files, m.more.data, m.flt⟩
    split
    · exact ⟨m.more.files, m.more.data, m.flt⟩
    · exact ⟨m.more.files, m.more.data, m.flt⟩
theorem bd_syncNames (h : DBd k D) (m : MBd k M) : DBd (k + 1) (syncNamesD D).2 ∧ MBd (k + 1) (syncNamesR M).2 := by
  refine ⟨?_, ?_⟩
  · unfold syncNamesD
    split
    · exact h.tick
    · have t := h.tick
      exact ⟨by have := t.sum; show D.tick.names.length + 0 ≤ _; omega, Nat.zero_le _, t.low, t.high, t.data, t.plan⟩
  · unfold syncNamesR
    split
    · exact ⟨m.more.files, m.more.data, m.flt⟩
    · exact ⟨m.more.files, m.more.data, m.flt⟩
theorem file_bd (h : DBd k D) (m : MBd k M) (tw : Dk.Twin φ D M) {s : Nm} (ha : askD D s = 0) : (fileD D s).synced ≤ (fileD D s).data.length ∧ (fileD D s).data.length ≤ k * MB := by
  obtain ⟨i, h1, hg⟩ := ask_some ha
  obtain ⟨e1, e2, e3, e4, e5, e6⟩ := tw.files hg
  exact m.data _ (List.mem_of_getElem? e5)
theorem bd_sync (h : DBd k D) (m : MBd k M) (tw : Dk.Twin φ D M) (s : Nm) : DBd (k + 1) (syncD D s).2 ∧ MBd (k + 1) (syncR M s).2 := by
  unfold syncD syncR
  rw [tw.ask, hitE_D tw]
  split
  · exact ⟨h.more, m.more⟩
  split
  · exact ⟨h.tick, m.more.files, m.more.data, m.flt⟩
  · rename_i ha _
    have ha0 : askD D s = 0 := by omega
    obtain ⟨b1, b2⟩ := file_bd h m tw ha0
    obtain ⟨i, h1, hg⟩ := ask_some ha0
    obtain ⟨e1, e2, e3, e4, e5, e6⟩ := tw.files hg
    have := grow_mul k
    refine ⟨h.tick.set _ _ (by show (fileD D s).data.length ≤ _; omega), ?_⟩
    rw [e1]
    have := m.more.set (placeOf M s) { fileD D s with synced := (fileD D s).data.length } ⟨Nat.le_refl _, by show (fileD D s).data.length ≤ _; omega⟩
    exact ⟨this.files, this.data, this.flt⟩
theorem bd_cut (h : DBd k D) (m : MBd k M) (tw : Dk.Twin φ D M) (s : Nm) (z : Int) (n : Nat) : DBd (k + 1) (cutD D s z).2 ∧ MBd (k + 1) (cutR M s n).2 := by
  unfold cutD cutR
  rw [tw.ask, hitE_D tw]
  split
  · exact ⟨h.more, m.more⟩
  split
  · exact ⟨h.tick, m.more.files, m.more.data, m.flt⟩
  · rename_i ha _
    have ha0 : askD D s = 0 := by omega
    obtain ⟨b1, b2⟩ := file_bd h m tw ha0
    obtain ⟨i, h1, hg⟩ := ask_some ha0
    obtain ⟨e1, e2, e3, e4, e5, e6⟩ := tw.files hg
    have := grow_mul k
    have hc : ∀ j, ((fileD D s).cut j).data.length ≤ (k + 1) * MB := fun j => by
      show ((fileD D s).data.take j).length ≤ _
      rw [List.length_take]; omega
    refine ⟨h.tick.set _ _ (hc _), ?_⟩
    rw [e1]
    have := m.more.set (placeOf M s) ((fileD D s).cut n) ⟨by show min _ _ ≤ _; exact Nat.min_le_right _ _, hc _⟩
    exact ⟨this.files, this.data, this.flt⟩
theorem bd_plan (h : DBd k D) (m : MBd k M) (l : List (Int × Int × Int)) (hl : ∀ z, planOk z l = true → ∀ f ∈ l, mayB f = true) : DBd (k + 1) (planD D l).2 ∧ MBd (k + 1) (planR M l).2 := by
  refine ⟨?_, ?_⟩
  · unfold planD
    split
    · exact h.more
    split
    · rename_i hp
      have t := h.more
      exact ⟨t.sum, t.opn, t.low, t.high, t.data, hl _ hp⟩
    · exact h.more
  · unfold planR
    split
    · exact m.more
    split
    · exact ⟨m.more.files, m.more.data, by show l.length ≤ _; omega⟩
    · exact m.more
theorem bd_lay (h : DBd k D) (m : MBd k M) (tw : Dk.Twin φ D M) (s : Nm) (d : List UInt8) (hd : d.length ≤ MB) : DBd (k + 1) (layD D.tick s d) ∧ MBd (k + 1) (layR { M with made := M.made + 1 } s d) := by
  have g := grow_mul k
  unfold layD layR
  have eg : nmGet (RSt.now { M with made := M.made + 1 }) s = (nmGet D.names s).map φ := tw.get s
  rw [eg]
  cases hg : nmGet D.names s with
  | some i =>
    have hg' : nmGet D.tick.names s = some i := hg
    obtain ⟨e1, e2, e3, e4, e5, e6⟩ := tw.files hg
    have hm := m.data _ (List.mem_of_getElem? e5)
    simp only [Option.map_some]
    rw [e5]
    refine ⟨?_, ?_⟩
    · rw [hg']
      exact h.tick.set i _ (by show ((fileD D.tick s).data ++ d).length ≤ _; rw [List.length_append]; show (fileD D s).data.length + _ ≤ _; omega)
    · have := m.more.set (φ i) { fileD D s with data := (fileD D s).data ++ d } ⟨by show _ ≤ ((fileD D s).data ++ d).length; rw [List.length_append]; show (fileD D s).synced ≤ _; omega, by show ((fileD D s).data ++ d).length ≤ _; rw [List.length_append]; omega⟩
      exact ⟨this.files, this.data, this.flt⟩
  | none =>
    have hg' : nmGet D.tick.names s = none := hg
    refine ⟨?_, ?_⟩
    · rw [hg']
      have r := h.relink [(s, some D.files.length)] (by simp)
      have e : (more D.tick s).files.set D.tick.files.length (FileC.mk d 0) = D.files ++ [⟨d, 0⟩] := set_end _ _ _
      refine ⟨r.sum, r.opn, r.low, r.high, fun f hf => ?_, r.plan⟩
      have hf' : f ∈ D.files ++ [⟨d, 0⟩] := by rw [← e]; exact hf
      rcases List.mem_append.1 hf' with hf' | hf'
      · exact h.more.data f hf'
      · obtain rfl : f = ⟨d, 0⟩ := by simpa using hf'
        show d.length ≤ _; omega
    · refine ⟨?_, fun f hf => ?_, m.flt⟩
      · show (M.files ++ [_]).length ≤ _
        have := m.files
        rw [List.length_append]; simp; omega
      · rcases List.mem_append.1 hf with hf' | hf'
        · exact m.more.data f hf'
        · obtain rfl : f = ⟨d, 0⟩ := by simpa using hf'
          exact ⟨Nat.zero_le _, by show d.length ≤ _; omega⟩
theorem bd_write (h : DBd k D) (m : MBd k M) (tw : Dk.Twin φ D M) (s t : Nm) (ht : t.size ≤ 1048576) : DBd (k + 1) (writeD D s t).2.2 ∧ MBd (k + 1) (writeR M s t).2.2 := by
  obtain ⟨h1, h2⟩ := write_same tw h.plan t
  have hlen : t.data.toList.length = t.size := by rw [Array.length_toList]; rfl
  unfold writeD writeR
  split
  · exact ⟨h.more, m.more⟩
  by_cases c : writeK D t < 0
  · rw [if_pos c, if_pos (h1.2 c)]
    exact ⟨h.tick, m.more.files, m.more.data, m.flt⟩
  · rw [if_neg c, if_neg (fun e => c (h1.1 e)), h2 (by omega)]
    exact bd_lay h m tw s _ (by rw [List.length_take]; unfold MB; omega)
theorem undo_len (D : DSt) (n : Nat) : (D.undo n).names.length ≤ D.names.length + D.opn.flatten.length := by
  have key : ∀ (l : List (List (Nm × Option Nat))) (L : List (Nm × Nat)), (l.foldl undoOne L).length ≤ L.length + l.flatten.length := by
    intro l
    induction l with
    | nil => intro L; simp
    | cons x r ih =>
      intro L
      have := ih (undoOne L x)
      have := foldl_set_len x L
      rw [List.foldl_cons, List.flatten_cons, List.length_append]
      have e : (undoOne L x).length = (x.foldl nmSet L).length := rfl
      omega
  have h1 := key (D.opn.drop n).reverse D.names
  have h2 : (D.opn.drop n).reverse.flatten.length = (D.opn.drop n).flatten.length := by
    have : ∀ l : List (List (Nm × Option Nat)), l.reverse.flatten.length = l.flatten.length := fun l => by
      induction l with
      | nil => rfl
      | cons x r ih => rw [List.reverse_cons, List.flatten_append, List.length_append, ih, List.flatten_cons, List.length_append]; simp; omega
    exact this _
  have h3 : (D.opn.drop n).flatten.length ≤ D.opn.flatten.length := by
    have : D.opn.flatten = (D.opn.take n).flatten ++ (D.opn.drop n).flatten := by rw [← List.flatten_append, List.take_append_drop]
    rw [this, List.length_append]; omega
  show ((D.opn.drop n).reverse.foldl undoOne D.names).length ≤ _
  omega
theorem names_bd (h : DBd k D) (tw : Dk.Twin φ D M) (n : Nat) : (M.names n).length ≤ 4 * k := by
  obtain ⟨n', h1, h2, h3⟩ := names_beyond tw n
  rw [h3, tw.names.2 n' h1]
  have := undo_len D n'
  have := h.sum
  unfold ren; rw [List.length_map]; omega
theorem files_bd (m : MBd k M) (tw : Dk.Twin φ D M) (n : Nat) : ∀ p ∈ M.names n, ∃ f, M.files[p.2]? = some f ∧ f.synced ≤ f.data.length ∧ f.data.length ≤ k * MB := by
  obtain ⟨n', h1, h2, h3⟩ := names_beyond tw n
  rw [h3, tw.names.2 n' h1]
  intro p hp
  obtain ⟨q, hq, rfl⟩ := List.mem_map.1 hp
  obtain ⟨f, f1, f2⟩ := tw.file n' h1 q hq
  exact ⟨f, f2, m.data f (List.mem_of_getElem? f2)⟩
theorem crashFiles_bd {b : Nat} (bs : List Int) : ∀ (L : List (Nm × Nat)) (j : Nat) (fs : List FileC), (∀ f ∈ fs, f.data.length ≤ b) → ∀ f ∈ crashFiles bs L j fs, f.data.length ≤ b
  | [], _, _, h => h
  | p :: r, j, fs, h => by
    refine crashFiles_bd bs r (j + 1) _ (fun f hf => ?_)
    rw [List.mem_iff_getElem?] at hf
    obtain ⟨i, hi⟩ := hf
    rw [List.getElem?_modify] at hi
    cases hfi : fs[i]? with
    | none => rw [hfi] at hi; simp at hi
    | some g =>
      rw [hfi] at hi
      have hg := h g (List.mem_of_getElem? hfi)
      simp at hi
      subst hi
      split
      · show (g.data.take _).length ≤ b
        rw [List.length_take]; omega
      · exact hg
theorem bd_crash (h : DBd k D) (m : MBd k M) (tw : Dk.Twin φ D M) (n : Nat) (bs : List Int) : DBd (k + 1) (D.crash n bs) ∧ MBd (k + 1) (M.crash n bs) := by
  have t := h.more
  refine ⟨⟨?_, Nat.zero_le _, t.low, t.high, crashFiles_bd bs _ _ _ t.data, fun f hf => by cases hf⟩, ⟨?_, fun f hf => ?_, Nat.zero_le _⟩⟩
  · have := undo_len D n
    have := h.sum
    show (D.undo n).names.length + ([] : List (Nm × Option Nat)).length ≤ _
    simp; omega
  · have := names_bd h tw n
    show (List.mapIdx _ _).length ≤ _
    rw [List.length_mapIdx]; omega
  · have hf' : f ∈ (M.names n).mapIdx (fun j p => (M.files[p.2]?.getD ⟨[], 0⟩).crash (left bs j)) := hf
    rw [List.mem_mapIdx] at hf'
    obtain ⟨j, hj, rfl⟩ := hf'
    obtain ⟨g, g1, g2, g3⟩ := files_bd m tw n _ (List.getElem_mem hj)
    rw [g1]
    have := grow_mul k
    refine ⟨Nat.le_refl _, ?_⟩
    show (g.data.take _).length ≤ _
    rw [List.length_take]; omega
/-- What the document's calls ask. -/
theorem bd_ok (h : DBd k D) (m : MBd k M) (tw : Dk.Twin φ D M) (hk : k ≤ 1048577) : RfOk M ∧ M.now.length ≤ 1099511627776 ∧ M.files.length ≤ 1099511627776 := by
  have h1 := h.sum; have h2 := h.opn; have h3 := h.low; have h4 := h.high
  have e1 := names_len tw
  have e2 := tw.names.1
  have e3 := tw.made
  have e4 := m.flt
  have e5 := m.files
  exact ⟨⟨by omega, by omega, by omega, by omega, by unfold maxLen; omega⟩, by omega, by omega⟩
end
end Go.Proofs.Ytblhbkhehddccaa
