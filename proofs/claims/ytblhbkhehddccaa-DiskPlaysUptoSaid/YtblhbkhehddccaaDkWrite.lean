/- What Write of package disk does to a disk in memory. Conditions: those that each theorem names. -/
import Derived.Test.YtblhbkhehddccaaDkName
namespace Go.Proofs.Ytblhbkhehddccaa
open Go.RowKit Dk

/-- The disk holds D now; of others nothing has turned. -/
def Kept (w : World) (A : Nat) (D : DSt) (ρ : Nat → Nat × Nat) (w' : World) : Prop := ∃ ρ' fb', DiskAt w' A D ρ' fb' ∧ Fr own ρ ρ' w w'
theorem Led.kept {w w' : World} {A : Nat} {D : DSt} {ρ : Nat → Nat × Nat} {fb : List Nat} (h : Led w A D ρ fb w') : Kept w A D ρ w' := let ⟨ρ', h1, h2⟩ := h; ⟨ρ', fb, h1, h2⟩

/-! ### a file more -/
theorem ptrV_more {fb : List Nat} {o : Option Nat} (x : Nat) (h : ∀ i, o = some i → i < fb.length) : ptrV (fb ++ [x]) o = ptrV fb o := by
  cases o with
  | none => rfl
  | some i => simp [ptrV, List.getElem?_append_left (h i rfl)]
theorem linkCells_more {fb : List Nat} (x : Nat) (l : List (Nm × Option Nat)) (h : ∀ y ∈ l, ∀ i, y.2 = some i → i < fb.length) : l.flatMap (linkCells (fb ++ [x])) = l.flatMap (linkCells fb) := by
  induction l with
  | nil => rfl
  | cons y r ih =>
    rw [List.flatMap_cons, List.flatMap_cons, ih (fun z hz => h z (by simp [hz]))]
    simp only [linkCells, ptrV_more x (h y (by simp))]
theorem DiskAt.begin {w : World} {A : Nat} {D : DSt} {ρ : Nat → Nat × Nat} {fb : List Nat} (h : DiskAt w A D ρ fb) (o : Obj) :
    DiskAt ((w.alloc (.cells #[.slice none 0 0, .int .i64 0] 77)).alloc o) A (DSt.mk D.names D.opn (D.files ++ [FileC.mk [] 0]) D.steps D.plan) (setR ρ (some w.heap.size) (5, D.files.length)) (fb ++ [w.heap.size]) ∧
      Fr own ρ (setR ρ (some w.heap.size) (5, D.files.length)) w ((w.alloc (.cells #[.slice none 0 0, .int .i64 0] 77)).alloc o) := by
  have hlt := h.lt
  obtain ⟨ok, out, role, ⟨m, op, pl, hA, hN, ⟨vs, hO1, hO2, hO3⟩, hP⟩, hF⟩ := h
  have hb : ∀ b, b < w.heap.size → ((w.alloc (.cells #[.slice none 0 0, .int .i64 0] 77)).alloc o).heap[b]? = w.heap[b]? := fun b hb => (heap_alloc_lt (by simp; omega)).trans (heap_alloc_lt hb)
  have hr : ∀ b, b ≠ w.heap.size → setR ρ (some w.heap.size) (5, D.files.length) b = ρ b := fun b hb => by simp [setR, Ne.symm hb]
  have F : Fr (fun r => r = (0, 0)) ρ (setR ρ (some w.heap.size) (5, D.files.length)) w ((w.alloc (.cells #[.slice none 0 0, .int .i64 0] 77)).alloc o) := by
    refine ⟨rfl, rfl, rfl, by simp; omega, fun b hlt _ => hb b hlt, fun b hn => hr b (fun e => hn (by rw [e]; exact out _ (Nat.le_refl _))), fun b hlt e => by rw [hr b (by omega)]; exact e, fun b hlt => by simp at hlt; rw [hr b (by omega)]; exact out b (by omega)⟩
  refine ⟨⟨⟨ok.sorted, fun p hp => ⟨(ok.named p hp).1, by have := (ok.named p hp).2; simp; omega⟩, fun l hl x hx => ⟨(ok.opened l hl x hx).1, fun i hi => by have := (ok.opened l hl x hx).2 i hi; simp; omega⟩, fun f hf => ?_⟩, F.out, by rw [hr A (by omega)]; exact role, ⟨m, op, pl, (hb A hlt).trans hA, ?_, ⟨vs, ?_, ?_, ?_⟩, hP.fr F (by simp)⟩, ?_, ?_⟩, ⟨rfl, rfl, rfl, F.size, fun b hlt _ => hb b hlt, F.keep, F.stay, F.out⟩⟩
  · simp only [List.mem_append, List.mem_singleton] at hf
    rcases hf with hf | rfl
    · exact ok.synced f hf
    · simp
  · rcases hN with hN | ⟨b, h1, h2, h3⟩
    · exact .inl hN
    · refine .inr ⟨b, h1, F.mark h2 (by simp), (h3.kept (hb b h3.lt)).congr (fun y u => ?_)⟩
      constructor
      · rintro ⟨n, i, B, h4, h5, rfl, rfl⟩
        exact ⟨n, i, B, h4, by rw [List.getElem?_append_left (List.getElem?_eq_some_iff.1 h5).1]; exact h5, rfl, rfl⟩
      · rintro ⟨n, i, B, h4, h5, rfl, rfl⟩
        have : i < fb.length := by rw [hF.1]; exact (ok.named _ h4).2
        exact ⟨n, i, B, h4, by rw [List.getElem?_append_left this] at h5; exact h5, rfl, rfl⟩
  · exact ownsRow_same hO1 (fun g hg => hb g (ownsRow_lt hO1 g hg))
  · exact fun g hg => F.mark (hO2 g hg) (by simp)
  · intro i l hl
    obtain ⟨v, hv, hc1, hc2⟩ := hO3 i l hl
    refine ⟨v, hv, ?_, fun g hg => F.mark (hc2 g hg) (by simp)⟩
    rw [linkCells_more _ _ (fun y hy i hi => by rw [hF.1]; exact (ok.opened l (List.mem_of_getElem? hl) y hy).2 i hi)]
    exact ownsRow_same hc1 (fun g hg => hb g (ownsRow_lt hc1 g hg))
  · simp [hF.1]
  · intro i f hi
    show ∃ B, (fb ++ [w.heap.size])[i]? = some B ∧ _
    have hi' : (D.files ++ [FileC.mk [] 0])[i]? = some f := hi
    rw [List.getElem?_append] at hi'
    split at hi'
    · rename_i hlt'
      obtain ⟨B, h1, h2⟩ := hF.2 i f hi'
      exact ⟨B, by rw [List.getElem?_append_left (by rw [hF.1]; exact hlt')]; exact h1, h2.fr F (by simp) (by simp)⟩
    · rename_i hge
      have hi2 : i = D.files.length := by
        obtain ⟨h1, _⟩ := List.getElem?_eq_some_iff.1 hi'
        simp at h1; omega
      subst hi2
      simp only [Nat.sub_self, List.getElem?_cons_zero, Option.some.injEq] at hi'
      subst hi'
      refine ⟨w.heap.size, by rw [List.getElem?_append_right (by rw [hF.1]; omega)]; simp [hF.1], by simp [setR], .slice none 0 0, (heap_alloc_lt (by simp)).trans (heap_alloc_new _ _), World.ownsRow_nil _ _ _ _, fun g hg => by simp [Value.ownBlock] at hg⟩

/-! ### bytes more -/
theorem byteInfo : (Try.prog.info? 5).map (fun i => (i.zero, i.size, i.bytes)) = some (some (.int .u8 0), 1, 1) := by kernel_rfl
theorem DiskAt.appended {w : World} {A : Nat} {D : DSt} {ρ : Nat → Nat × Nat} {fb : List Nat} (h : DiskAt w A D ρ fb) {i B : Nat} {f : FileC} (hf : D.files[i]? = some f) (hB : fb[i]? = some B) (s : ByteArray) (hs : f.data.length + s.size ≤ 200000000000000) :
    ∃ p0 c0 p c W', w.cell? ⟨B, 0, none⟩ = some (.slice p0 f.data.length c0) ∧ (∀ ty, (Builtin.append_ #[75, 9] ty #[.slice p0 f.data.length c0, .string s]).run Try.prog w = .ok (.slice p (f.data.length + s.size) c) W') ∧
      W'.cell? ⟨B, 0, none⟩ = some (.slice p0 f.data.length c0) ∧ W'.frozen? ⟨B, 0, none⟩ = false ∧
      Led w A { D with files := D.files.set i { f with data := f.data ++ s.data.toList } } ρ fb (W'.setCell ⟨B, 0, none⟩ (.slice p (f.data.length + s.size) c)) := by
  obtain ⟨B', hB', hfa⟩ := h.files.2 i f hf
  rw [hB] at hB'; cases hB'
  obtain ⟨p0, c0, h1, h2, h3⟩ := hfa.form
  have hrole := hfa.1
  have hm := h.ok.synced f (List.mem_of_getElem? hf)
  have hBlt : B < w.heap.size := (Array.getElem?_eq_some_iff.1 h1).1
  obtain ⟨i0, hi, hz0, hz1, hz2⟩ := info_parts byteInfo
  obtain ⟨p, c, W', hrun, hrow, hgrow, hat⟩ := run_append_string (P := Try.prog) w 75 9 0 5 i0 Try.underlying75 Try.underlying9 hi hz0 hz1 hz2 _ _ _ h2 s hs
  have hBn : (Value.slice p0 f.data.length c0).ownBlock ≠ some B := fun e => by have := h3 B e; rw [hrole] at this; cases this
  have hW : ∀ b, b < w.heap.size → (Value.slice p0 f.data.length c0).ownBlock ≠ some b → W'.heap[b]? = w.heap[b]? := fun b hb hn => hgrow.block b hb (fun e => hn e.symm)
  have hB1 : W'.heap[B]? = some (.cells #[.slice p0 f.data.length c0, .int .i64 f.synced] 77 (0, 0)) := (hW B hBlt hBn).trans h1
  refine ⟨p0, c0, p, c, W', by simp [World.cell?, h1], fun ty => hrun, by simp [World.cell?, hB1], by simp [World.frozen?, hB1], ?_⟩
  obtain ⟨Z, hZ⟩ : ∃ Z, Z = W'.setCell ⟨B, 0, none⟩ (.slice p (f.data.length + s.size) c) := ⟨_, rfl⟩
  rw [← hZ]
  have hsZ : Z.heap.size = W'.heap.size := by rw [hZ]; simp [World.setCell]
  have hZW : ∀ b, b ≠ B → Z.heap[b]? = W'.heap[b]? := fun b hb => by rw [hZ, heap_setCell_ne hb]
  have hZB : Z.heap[B]? = some (.cells #[.slice p (f.data.length + s.size) c, .int .i64 f.synced] 77 (0, 0)) := by
    rw [hZ]; exact heap_setCell_same _ _ _ _ _ _ hB1
  have hnb : ∀ g, (Value.slice p (f.data.length + s.size) c).ownBlock = some g → g ≠ B ∧ g < W'.heap.size := fun g hg => by
    refine ⟨fun e => ?_, ownsRow_lt hrow g hg⟩
    rcases hat g hg with h | h
    · rw [e] at h; exact hBn h
    · omega
  have hgs := hgrow.size
  have F : Fr (fun r => r = (5, i) ∨ r = (6, i)) ρ (setR ρ (Value.slice p (f.data.length + s.size) c).ownBlock (6, i)) w Z := by
    refine ⟨by rw [hZ]; exact hgrow.os, by rw [hZ]; exact hgrow.tape, by rw [hZ]; exact hgrow.output, by omega, fun b hb hn => ?_, fun b hn => ?_, fun b hb e => ?_, fun b hb => ?_⟩
    · exact (hZW b (fun e => hn (by rw [e]; exact .inl hrole))).trans (hW b hb (fun e => hn (.inr (h3 b e))))
    · unfold setR
      split
      · rename_i e
        rcases hat b e with h4 | h4
        · exact (h3 b h4).symm
        · exact absurd (h.out b h4) hn
      · rfl
    · unfold setR
      split
      · rename_i e'
        rcases hat b e' with h4 | h4
        · have := h3 b h4; rw [e] at this; cases this
        · omega
      · exact e
    · unfold setR
      split
      · rename_i e'
        have := (hnb b e').2; omega
      · exact h.out b (by omega)
  have hl : (f.data ++ s.data.toList).length = f.data.length + s.size := by simp
  refine ⟨_, h.file_turn hB F (f' := { f with data := f.data ++ s.data.toList }) ⟨F.mark hrole (by simp), .slice p (f.data.length + s.size) c, hZB, ?_, fun g hg => ?_⟩ ⟨by show f.synced ≤ (f.data ++ s.data.toList).length; omega, by show (f.data ++ s.data.toList).length ≤ maxLen; unfold maxLen; omega⟩⟩
  · show Z.ownsRow 0 5 1 _ (f.data ++ s.data.toList).length (u8s (f.data ++ s.data.toList))
    rw [hl]
    have : u8s (f.data ++ s.data.toList) = u8s f.data ++ Lib.strCells s := by simp [u8s, Lib.strCells]
    rw [this]
    exact ownsRow_same hrow (fun g hg => hZW g (hnb g hg).1)
  · simp [setR, hg]
end Go.Proofs.Ytblhbkhehddccaa
