/- How names of a disk are led elsewhere, and what they led to is kept. Conditions: those that each theorem names. -/
import Derived.Test.YtblhbkhehddccaaDkLead
import Derived.Deep.AppendLies
import Derived.OwnWalk
namespace Go.Proofs.Ytblhbkhehddccaa
open Go.RowKit Dk

theorem linkInfo : (Try.prog.info? 79).map (fun i => (i.zero, i.size, i.bytes)) = some (some (.agg #[.string ⟨#[]⟩, .pointer none]), 2, 24) := by kernel_rfl
theorem changeInfo : (Try.prog.info? 103).map (fun i => (i.zero, i.size, i.bytes)) = some (some (.slice none 0 0), 1, 24) := by kernel_rfl
theorem Fr.later {S : Nat × Nat → Prop} {ρ ρ' : Nat → Nat × Nat} {w w' w2 : World} (h : Fr S ρ ρ' w w') (os : w2.os = w'.os) (tape : w2.tape = w'.tape) (output : w2.output = w'.output) (size : w'.heap.size ≤ w2.heap.size) (hb : ∀ b, b < w.heap.size → w2.heap[b]? = w'.heap[b]?) : Fr S ρ ρ' w w2 :=
  ⟨os.trans h.os, tape.trans h.tape, output.trans h.output, Nat.le_trans h.size size, fun b hlt hn => (hb b hlt).trans (h.block b hlt hn), h.keep, h.stay, fun b hlt => h.out b (Nat.le_trans size hlt)⟩
theorem befores_append (L : List (Nm × Nat)) (a b : List (Nm × Option Nat)) : befores L (a ++ b) = befores L a ++ befores (a.foldl nmSet L) b := by
  induction a generalizing L with
  | nil => rfl
  | cons x r ih => simp only [List.cons_append, befores, List.foldl_cons, ih]
theorem foldl_length (l : List (Nm × Option Nat)) (L : List (Nm × Nat)) : (l.foldl nmSet L).length ≤ L.length + l.length := by
  induction l generalizing L with
  | nil => simp
  | cons x r ih => have := ih (nmSet L x); have := length_nmSet_le L x; simp only [List.foldl_cons, List.length_cons]; omega
theorem befores_ok {k : Nat} (l : List (Nm × Option Nat)) (L : List (Nm × Nat)) (hs : Sorted L) (hL : ∀ p ∈ L, p.2 < k) (hl : ∀ x ∈ l, linkOk k x) : ∀ x ∈ befores L l, linkOk k x := by
  induction l generalizing L with
  | nil => intro x hx; simp [befores] at hx
  | cons y r ih =>
    intro x hx
    simp only [befores, List.mem_cons] at hx
    rcases hx with rfl | hx
    · exact ⟨(hl y (by simp)).1, fun i hi => hL _ ((nmGet_some hs).1 hi)⟩
    · refine ih _ (sorted_nmSet hs y) (fun p hp => ?_) (fun z hz => hl z (by simp [hz])) x hx
      unfold nmSet at hp
      cases h : y.2 with
      | none => rw [h] at hp; exact hL p (mem_nmDel.1 hp).2
      | some i =>
        rw [h] at hp
        rcases mem_nmPut.1 hp with rfl | hp
        · exact (hl y (by simp)).2 i h
        · exact hL p hp.2
/-- The names behind the first k links. -/
def part (D : DSt) (l : List (Nm × Option Nat)) (k : Nat) : DSt := { D with names := (l.take k).foldl nmSet D.names }
theorem part_succ (D : DSt) (l : List (Nm × Option Nat)) (k : Nat) (hk : k < l.length) : part D l (k + 1) = { part D l k with names := nmSet (part D l k).names l[k] } := by
  simp only [part, List.take_succ_eq_append_getElem hk, List.foldl_append, List.foldl_cons, List.foldl_nil]
def RelR (w : World) (A : Nat) (D : DSt) (ρ : Nat → Nat × Nat) (fb : List Nat) (l : List (Nm × Option Nat)) (k : Nat) (bv : Value) (wr : World) : Prop :=
  ∃ ρk, DiskAt wr A (part D l k) ρk fb ∧ Fr own ρ ρk w wr ∧ wr.ownsRow w.heap.size 79 2 bv k ((befores D.names (l.take k)).flatMap (linkCells fb)) ∧ ∀ g, bv.ownBlock = some g → ρk g = (0, 0)
theorem RelR.start {w : World} {A : Nat} {D : DSt} {ρ : Nat → Nat × Nat} {fb : List Nat} (h : DiskAt w A D ρ fb) (l : List (Nm × Option Nat)) : RelR w A D ρ fb l 0 (.slice none 0 0) w :=
  ⟨ρ, h, ⟨rfl, rfl, rfl, Nat.le_refl _, fun _ _ _ => rfl, fun _ _ => rfl, fun _ _ h => h, h.out⟩, World.ownsRow_nil _ _ _ _, fun g hg => by simp [Value.ownBlock] at hg⟩

/-- One round: what stood under the name is kept. -/
theorem RelR.kept {w : World} {A : Nat} {D : DSt} {ρ : Nat → Nat × Nat} {fb : List Nat} {l : List (Nm × Option Nat)} {k : Nat} {bv : Value} {wr : World} (h : RelR w A D ρ fb l k bv wr) (hk : k < l.length) (hl : l.length ≤ 1000000) (x : Nm × Option Nat) (hx : l[k] = x)
    (V X : World) (hV : V = wr.alloc (.cells #[.string x.1, ptrV fb x.2] 79)) (hX : X = (V.alloc (.cells #[.string x.1, ptrV fb (nmGet (part D l k).names x.1)] 79)).drew) :
    ∃ v' W', (∀ ty, (Builtin.append_ #[103, 103] ty #[bv, .slice (some ⟨wr.heap.size + 1, 0, none⟩) 1 1]).run Try.prog X = .ok v' W') ∧
      W'.cell? ⟨wr.heap.size, 0, none⟩ = some (.string x.1) ∧ W'.cell? ⟨wr.heap.size, 1, none⟩ = some (ptrV fb x.2) ∧
      (∀ b, b < wr.heap.size → bv.ownBlock ≠ some b → W'.heap[b]? = wr.heap[b]?) ∧ ∃ ρk, DiskAt W' A (part D l k) ρk fb ∧ Fr own ρ ρk w W' ∧ W'.ownsRow w.heap.size 79 2 v' (k + 1) ((befores D.names (l.take (k + 1))).flatMap (linkCells fb)) ∧ (∀ g, v'.ownBlock = some g → ρk g = (0, 0)) := by
  obtain ⟨ρk, hD, hF, hrow, hro⟩ := h
  obtain ⟨i0, hi, hz0, hz1, hz2⟩ := info_parts linkInfo
  have hsV : V.heap.size = wr.heap.size + 1 := by rw [hV]; simp
  have hsX : X.heap.size = wr.heap.size + 2 := by rw [hX]; show (V.heap.push _).size = _; simp; omega
  have hXo : ∀ b, b < wr.heap.size → X.heap[b]? = wr.heap[b]? := fun b hb => by
    rw [hX]; show (V.alloc _).heap[b]? = _; rw [heap_alloc_lt (by omega), hV, heap_alloc_lt hb]
  have hXr : X.ownsRow w.heap.size 79 2 bv k ((befores D.names (l.take k)).flatMap (linkCells fb)) := ownsRow_same hrow (fun g hg => hXo g (ownsRow_lt hrow g hg))
  have hXn : X.heap[wr.heap.size + 1]? = some (.cells #[.string x.1, ptrV fb (nmGet (part D l k).names x.1)] 79 (0, 0)) := by
    rw [hX, ← hsV]; exact heap_alloc_new V _
  have hXv : X.heap[wr.heap.size]? = some (.cells #[.string x.1, ptrV fb x.2] 79 (0, 0)) := by
    rw [hX]; show (V.alloc _).heap[wr.heap.size]? = _; rw [heap_alloc_lt (by omega), hV]; exact heap_alloc_new wr _
  obtain ⟨g, cap, W', hrun, hrow', hgrow, hat, hlt⟩ := run_append_lies (P := Try.prog) (w := X) 103 0 w.heap.size 79 i0 _ 2 24 Try.underlying103 hi hz0 hz1 hz2 rfl (by decide) bv k _ hXr
    ⟨wr.heap.size + 1, 0, none⟩ 1 1 [.string x.1, ptrV fb (nmGet (part D l k).names x.1)] rfl (World.news_of_block hXn) (by intro u hu; simp only [List.mem_cons, List.not_mem_nil, or_false] at hu; rcases hu with rfl | rfl <;> rfl) (by decide) (by unfold maxLen; omega) (by omega) (by have := hF.size; omega) _ hsX
  refine ⟨_, W', fun ty => hrun, ?_, ?_, fun b hb hn => (hgrow.block b (by omega) (fun e => hn e.symm)).trans (hXo b hb), ρk, hD.others (Fr.others (hgrow.os.trans (by rw [hX, hV]; rfl)) (hgrow.tape.trans (by rw [hX, hV]; rfl)) (hgrow.output.trans (by rw [hX, hV]; rfl)) (by have := hgrow.size; omega) (fun b hb hn => ?_) hD.out), hF.later (hgrow.os.trans (by rw [hX, hV]; rfl)) (hgrow.tape.trans (by rw [hX, hV]; rfl)) (hgrow.output.trans (by rw [hX, hV]; rfl)) (by have := hgrow.size; omega) (fun b hb => ?_), ?_, ?_⟩
  · have : W'.heap[wr.heap.size]? = X.heap[wr.heap.size]? := hgrow.block _ (by omega) (fun e => by have := ownsRow_lt hrow _ e.symm; omega)
    simp [World.cell?, this, hXv]
  · have : W'.heap[wr.heap.size]? = X.heap[wr.heap.size]? := hgrow.block _ (by omega) (fun e => by have := ownsRow_lt hrow _ e.symm; omega)
    simp [World.cell?, this, hXv]
  · exact (hgrow.block b (by omega) (fun e => hn (hro b e.symm))).trans (hXo b hb)
  · refine (hgrow.block b (by have := hF.size; omega) (fun e => ?_)).trans (hXo b (by have := hF.size; omega))
    have := (hrow.lt b e.symm).1; omega
  · have e : (befores D.names (l.take (k + 1))).flatMap (linkCells fb) = (befores D.names (l.take k)).flatMap (linkCells fb) ++ [.string x.1, ptrV fb (nmGet (part D l k).names x.1)] := by
      rw [List.take_succ_eq_append_getElem hk, befores_append, List.flatMap_append, hx]
      simp [befores, linkCells, part]
    rw [e]; exact hrow'
  · intro g' hg'
    have : g = g' := by simpa [Value.ownBlock] using hg'
    subst this
    rcases hat with hat | hat
    · exact hro _ hat
    · exact hD.out _ (by omega)
/-- .. and the name leads elsewhere. -/
theorem RelR.led {w : World} {A : Nat} {D : DSt} {ρ ρk : Nat → Nat × Nat} {fb : List Nat} {l : List (Nm × Option Nat)} {k : Nat} {v' : Value} {W' W2 : World} (hk : k < l.length) (hF : Fr own ρ ρk w W')
    (hrow : W'.ownsRow w.heap.size 79 2 v' (k + 1) ((befores D.names (l.take (k + 1))).flatMap (linkCells fb))) (hro : ∀ g, v'.ownBlock = some g → ρk g = (0, 0)) (h : Led W' A { part D l k with names := nmSet (part D l k).names l[k] } ρk fb W2) : RelR w A D ρ fb l (k + 1) v' W2 := by
  obtain ⟨ρ', hD, hF'⟩ := h
  refine ⟨ρ', by rw [part_succ D l k hk]; exact hD, hF.trans hF', ownsRow_same hrow (fun g hg => hF'.block g (ownsRow_lt hrow g hg) (by rw [hro g hg]; simp [own])), fun g hg => hF'.stay g (ownsRow_lt hrow g hg) (hro g hg)⟩

theorem ok_part {D : DSt} (ok : D.Ok) {l : List (Nm × Option Nat)} (hl : ∀ x ∈ l, linkOk D.files.length x) (k : Nat) : (part D l k).Ok := by
  have : ∀ (r : List (Nm × Option Nat)) (D : DSt), D.Ok → (∀ x ∈ r, linkOk D.files.length x) → ({ D with names := r.foldl nmSet D.names } : DSt).Ok := by
    intro r
    induction r with
    | nil => intro D h _; exact h
    | cons x r ih => intro D h hx; exact ih _ (ok_set h (hx x (by simp))) (fun y hy => hx y (by simp [hy]))
  exact this _ _ ok (fun x hx => hl x (List.mem_of_mem_take hx))

/-- What of a frame the parts of a disk need. -/
structure Fs (S : Nat × Nat → Prop) (ρ ρ' : Nat → Nat × Nat) (w w' : World) : Prop where
  block : ∀ b, b < w.heap.size → ρ b ≠ (0, 0) → ¬ S (ρ b) → w'.heap[b]? = w.heap[b]?
  keep : ∀ b, b < w.heap.size → ρ b ≠ (0, 0) → ρ' b = ρ b
section
variable {S : Nat × Nat → Prop} {ρ ρ' : Nat → Nat × Nat} {w w' : World} {fb : List Nat}
theorem Fs.at {b : Nat} {r : Nat × Nat} (h : Fs S ρ ρ' w w') (hb : b < w.heap.size) (hr : ρ b = r) (hn : r ≠ (0, 0)) (hs : ¬ S r) : w'.heap[b]? = w.heap[b]? := h.block b hb (by rw [hr]; exact hn) (by rw [hr]; exact hs)
theorem Fs.mark {b : Nat} {r : Nat × Nat} (h : Fs S ρ ρ' w w') (hb : b < w.heap.size) (hr : ρ b = r) (hn : r ≠ (0, 0)) : ρ' b = r := by rw [h.keep b hb (by rw [hr]; exact hn), hr]
theorem NamesAt.fs {m : Option Nat} {L : List (Nm × Nat)} (h : NamesAt w ρ fb m L) (F : Fs S ρ ρ' w w') (hs : ¬ S (2, 0)) : NamesAt w' ρ' fb m L := by
  rcases h with h | ⟨b, h1, h2, h3⟩
  · exact .inl h
  · exact .inr ⟨b, h1, F.mark h3.lt h2 (by simp), h3.kept (F.at h3.lt h2 (by simp) hs)⟩
theorem PlanAt.fs {m : Option Nat} {L : List (Int × Int × Int)} (h : PlanAt w ρ m L) (F : Fs S ρ ρ' w w') (hs : ¬ S (7, 0)) : PlanAt w' ρ' m L := by
  rcases h with h | ⟨b, k, h1, h2, h3⟩
  · exact .inl h
  · exact .inr ⟨b, k, h1, F.mark h3.lt h2 (by simp), h3.kept (F.at h3.lt h2 (by simp) hs)⟩
theorem ChgAt.fs {i : Nat} {v : Value} {l : List (Nm × Option Nat)} (h : ChgAt w ρ fb i v l) (F : Fs S ρ ρ' w w') (hs : ¬ S (4, i)) : ChgAt w' ρ' fb i v l :=
  ⟨ownsRow_same h.1 (fun g hg => F.at (ownsRow_lt h.1 g hg) (h.2 g hg) (by simp) hs), fun g hg => F.mark (ownsRow_lt h.1 g hg) (h.2 g hg) (by simp)⟩
theorem FileAt.fs {i B : Nat} {f : FileC} (h : FileAt w ρ i B f) (F : Fs S ρ ρ' w w') (hs : ¬ S (5, i)) (hs' : ¬ S (6, i)) : FileAt w' ρ' i B f := by
  obtain ⟨h1, v, h2, h3, h4⟩ := h
  exact ⟨F.mark (Array.getElem?_eq_some_iff.1 h2).1 h1 (by simp), v, (F.at (Array.getElem?_eq_some_iff.1 h2).1 h1 (by simp) hs).trans h2, ownsRow_same h3 (fun g hg => F.at (ownsRow_lt h3 g hg) (h4 g hg) (by simp) hs'), fun g hg => F.mark (ownsRow_lt h3 g hg) (h4 g hg) (by simp)⟩
theorem FilesAt.fs {fs : List FileC} (h : FilesAt w ρ fb fs) (F : Fs S ρ ρ' w w') (hs : ∀ i, ¬ S (5, i)) (hs' : ∀ i, ¬ S (6, i)) : FilesAt w' ρ' fb fs :=
  ⟨h.1, fun i f hf => let ⟨B, h1, h2⟩ := h.2 i f hf; ⟨B, h1, h2.fs F (hs i) (hs' i)⟩⟩
end
def setR (ρ : Nat → Nat × Nat) (o : Option Nat) (r : Nat × Nat) : Nat → Nat × Nat := fun b => if o = some b then r else ρ b
theorem relink_ok {D : DSt} (ok : D.Ok) {l : List (Nm × Option Nat)} (hl : ∀ x ∈ l, linkOk D.files.length x) : (D.relink l).Ok := by
  have h := ok_part ok hl l.length
  have e : l.take l.length = l := List.take_length
  refine ⟨by have := h.sorted; simpa [part, DSt.relink, e] using this, by have := h.named; simpa [part, DSt.relink, e] using this, ?_, ok.synced⟩
  intro c hc
  simp only [DSt.relink, List.mem_append, List.mem_singleton] at hc
  rcases hc with hc | rfl
  · exact ok.opened c hc
  · exact befores_ok l D.names ok.sorted (fun p hp => (ok.named p hp).2) hl
theorem RelR.done {w : World} {A : Nat} {D : DSt} {ρ : Nat → Nat × Nat} {fb : List Nat} {l : List (Nm × Option Nat)} {bv : Value} {wr : World} (ok : D.Ok) (hl : ∀ x ∈ l, linkOk D.files.length x) (hsz : D.opn.length ≤ 1099511627776) (h : RelR w A D ρ fb l l.length bv wr) :
    ∃ op p' n' c' Y', wr.cell? ⟨A, 1, none⟩ = some op ∧ (∀ ty, (Builtin.append_ #[42, 42] ty #[op, .slice (some ⟨wr.heap.size, 0, none⟩) 1 1]).run Try.prog (wr.alloc (.cells #[bv] 103)) = .ok (.slice p' n' c') Y') ∧
      Y'.cell? ⟨A, 1, none⟩ = some op ∧ Y'.frozen? ⟨A, 1, none⟩ = false ∧ Led w A (D.relink l) ρ fb (Y'.setCell ⟨A, 1, none⟩ (.slice p' n' c')) := by
  obtain ⟨ρk, hD, hF, hrow, hro⟩ := h
  obtain ⟨-, out, role, ⟨m, op, pl, hA, hN, ⟨vs, hO1, hO2, hO3⟩, hP⟩, hFi⟩ := hD
  have hlt : A < wr.heap.size := (Array.getElem?_eq_some_iff.1 hA).1
  have el : l.take l.length = l := List.take_length
  have ep : (part D l l.length).opn = D.opn := rfl
  rw [el] at hrow
  rw [ep] at hO1 hO3
  obtain ⟨i0, hi, hz0, hz1, hz2⟩ := info_parts changeInfo
  obtain ⟨Y, hY⟩ : ∃ Y, Y = wr.alloc (.cells #[bv] 103) := ⟨_, rfl⟩
  have hsY : Y.heap.size = wr.heap.size + 1 := by rw [hY]; simp
  have hYo : ∀ b, b < wr.heap.size → Y.heap[b]? = wr.heap[b]? := fun b hb => by rw [hY, heap_alloc_lt hb]
  have hYr : Y.ownsRow 0 103 1 op D.opn.length vs := ownsRow_same hO1 (fun g hg => hYo g (ownsRow_lt hO1 g hg))
  have hYn : Y.heap[wr.heap.size]? = some (.cells #[bv] 103 (0, 0)) := by rw [hY]; exact heap_alloc_new wr _
  have h1 : bv.oneCell' = true := by
    rcases hrow.2 with ⟨rfl, _⟩ | ⟨g, cap, cur, rfl, _⟩ <;> rfl
  obtain ⟨g, cap, Y', hrun, hrow', hgrow, hat, hglt⟩ := run_append_lies (P := Try.prog) (w := Y) 42 0 0 103 i0 _ 1 24 Try.underlying42 hi hz0 hz1 hz2 rfl (by decide) op D.opn.length vs hYr
    ⟨wr.heap.size, 0, none⟩ 1 1 [bv] rfl (World.news_of_block hYn) (by intro u hu; simp only [List.mem_singleton] at hu; rw [hu]; exact h1) (by decide) (by unfold maxLen; omega) (by omega) (Nat.zero_le _) _ hsY
  have hYb : ∀ b, b < wr.heap.size → op.ownBlock ≠ some b → Y'.heap[b]? = wr.heap[b]? := fun b hb hn => (hgrow.block b (by omega) (fun e => hn e.symm)).trans (hYo b hb)
  have hAop : op.ownBlock ≠ some A := fun e => by have := hO2 A e; rw [role] at this; cases this
  have hA' : Y'.heap[A]? = some (.cells (topCells m op D.steps pl) 45 (0, 0)) := (hYb A hlt hAop).trans hA
  refine ⟨op, some ⟨g, 0, none⟩, D.opn.length + 1, cap, Y', by simp [World.cell?, hA, topCells], fun ty => hY ▸ hrun, by simp [World.cell?, hA', topCells], by simp [World.frozen?, hA'], ?_⟩
  -- the marks: what the name led to, and the row of open changes
  have hgr : op.ownBlock = some g ∨ wr.heap.size < g := by
    rcases hat with h | h
    · exact .inl h
    · exact .inr (by omega)
  have hbg : ∀ c, bv.ownBlock = some c → c ≠ g := by
    intro c hc e
    subst e
    rcases hgr with h | h
    · have h3 := hO2 c h; rw [hro c hc] at h3; cases h3
    · have := ownsRow_lt hrow c hc; omega
  have hgA : g ≠ A := by
    rintro rfl
    rcases hgr with h | h
    · exact hAop h
    · omega
  obtain ⟨ρ', hρ'⟩ : ∃ ρ', ρ' = setR (setR ρk bv.ownBlock (4, D.opn.length)) (some g) (3, 0) := ⟨_, rfl⟩
  have hρg : ρ' g = (3, 0) := by rw [hρ']; simp [setR]
  have hρb : ∀ c, bv.ownBlock = some c → ρ' c = (4, D.opn.length) := fun c hc => by
    have := hbg c hc
    rw [hρ']; simp [setR, hc, Ne.symm this]
  have hρo : ∀ b, b ≠ g → bv.ownBlock ≠ some b → ρ' b = ρk b := fun b h1 h2 => by rw [hρ']; simp [setR, Ne.symm h1, h2]
  have hsz2 : (Y'.setCell ⟨A, 1, none⟩ (.slice (some ⟨g, 0, none⟩) (D.opn.length + 1) cap)).heap.size = Y'.heap.size := by simp [World.setCell]
  obtain ⟨Z, hZ⟩ : ∃ Z, Z = Y'.setCell ⟨A, 1, none⟩ (.slice (some ⟨g, 0, none⟩) (D.opn.length + 1) cap) := ⟨_, rfl⟩
  rw [← hZ]
  have hsZ : Z.heap.size = Y'.heap.size := by rw [hZ]; simp [World.setCell]
  have hZb : ∀ b, b < wr.heap.size → op.ownBlock ≠ some b → b ≠ A → Z.heap[b]? = wr.heap[b]? := fun b hb h1 h2 => by
    rw [hZ, heap_setCell_ne h2]; exact hYb b hb h1
  have hZY : ∀ b, b ≠ A → Z.heap[b]? = Y'.heap[b]? := fun b h2 => by rw [hZ, heap_setCell_ne h2]
  have F : Fs (fun r => r = (1, 0) ∨ r = (3, 0)) ρk ρ' wr Z := by
    refine ⟨fun b hb hn hs => hZb b hb (fun e => hs (.inr (hO2 b e))) (fun e => hs (.inl (by rw [e]; exact role))), fun b hb hn => ?_⟩
    by_cases h1 : b = g
    · subst h1
      rcases hgr with h | h
      · rw [hρg, hO2 b h]
      · omega
    · by_cases h2 : bv.ownBlock = some b
      · exact absurd (hro b h2) hn
      · exact hρo b h1 h2
  have hbw : ∀ c, bv.ownBlock = some c → w.heap.size ≤ c := fun c hc => (hrow.lt c hc).1
  have hgw : ρ g = (0, 0) → w.heap.size ≤ g := fun e => by
    rcases hgr with h | h
    · by_cases hlt : g < w.heap.size
      · have := hF.stay g hlt e; rw [hO2 g h] at this; cases this
      · omega
    · have := hF.size; omega
  have G : Fr own ρ ρ' w Z := by
    have hsz := hF.size
    have hgs := hgrow.size
    refine ⟨?_, ?_, ?_, by omega, fun b hb hn => ?_, fun b hn => ?_, fun b hb e => ?_, fun b hb => ?_⟩
    · rw [hZ]; exact hgrow.os.trans ((show Y.os = wr.os by rw [hY]; rfl).trans hF.os)
    · rw [hZ]; exact hgrow.tape.trans ((show Y.tape = wr.tape by rw [hY]; rfl).trans hF.tape)
    · rw [hZ]; exact hgrow.output.trans ((show Y.output = wr.output by rw [hY]; rfl).trans hF.output)
    · have e : ρ b = (0, 0) := Classical.byContradiction hn
      have e1 := hF.stay b hb e
      exact (hZb b (by omega) (fun h => by have := hO2 b h; rw [e1] at this; cases this) (fun h => by rw [h, role] at e1; cases e1)).trans (hF.block b hb hn)
    · have h1 := hF.keep b hn
      have hlt' : b < wr.heap.size := by
        by_cases h : b < wr.heap.size
        · exact h
        · have := out b (by omega); rw [h1] at this; exact absurd this hn
      rw [F.keep b hlt' (by rw [h1]; exact hn), h1]
    · have e1 := hF.stay b hb e
      rw [hρo b (fun h => by have := hgw (by rw [← h]; exact e); omega) (fun h => by have := hbw b h; omega), e1]
    · rw [hρo b (fun h => by omega) (fun h => by have := ownsRow_lt hrow b h; omega)]
      exact out b (by omega)
  have hAZ : Z.heap[A]? = some (.cells (topCells m (.slice (some ⟨g, 0, none⟩) (D.opn.length + 1) cap) D.steps pl) 45 (0, 0)) := by
    rw [hZ]; exact heap_setCell_same _ _ _ _ _ _ hA'
  refine ⟨ρ', ⟨relink_ok ok hl, G.out, F.mark hlt role (by simp), ⟨m, _, pl, hAZ, ?_, ⟨vs ++ [bv], ?_, ?_, ?_⟩, hP.fs F (by simp)⟩, hFi.fs F (by simp) (by simp)⟩, G⟩
  · have := hN.fs F (by simp)
    simpa [part, DSt.relink, el] using this
  · have e : (D.relink l).opn.length = D.opn.length + 1 := by simp [DSt.relink]
    rw [e]
    exact ownsRow_same hrow' (fun c hc => by
      have : g = c := by simpa [Value.ownBlock] using hc
      subst this; exact hZY g hgA)
  · intro c hc
    have : g = c := by simpa [Value.ownBlock] using hc
    subst this; exact hρg
  · intro i c hc
    simp only [DSt.relink] at hc
    have hvl : vs.length = D.opn.length := by simpa using hO1.1
    rw [List.getElem?_append] at hc
    split at hc
    · rename_i hi'
      obtain ⟨v, h1, h2⟩ := hO3 i c hc
      exact ⟨v, by rw [List.getElem?_append_left (by omega)]; exact h1, h2.fs F (by simp)⟩
    · rename_i hi'
      have hi2 : i = D.opn.length := by
        have := List.getElem?_eq_some_iff.1 hc
        obtain ⟨h, _⟩ := this
        simp at h; omega
      subst hi2
      simp only [Nat.sub_self, List.getElem?_cons_zero, Option.some.injEq] at hc
      subst hc
      refine ⟨bv, by rw [List.getElem?_append_right (by omega)]; simp [hvl], ?_, fun c hc => hρb c hc⟩
      rw [befores_length]
      have h3 := ownsRow_same (w' := Z) hrow (fun c hc => hZb c (ownsRow_lt hrow c hc) (fun h => by have := hO2 c h; rw [hro c hc] at this; cases this) (fun h => by have := hro c hc; rw [h, role] at this; cases this))
      exact Go.Joins.ownsRow_le h3 (Nat.zero_le _)
end Go.Proofs.Ytblhbkhehddccaa
