/- How a disk of package disk lies in memory: which blocks are its own, and what each holds. Conditions: none but those that each theorem names. -/
import Derived.Test.YtblhbkhehddccaaRows
import Derived.Test.YtblhbkhehddccaaMp
import Derived.Test.YtblhbkhehddccaaDkPlain
import Derived.Laws.Rows
import Derived.Lib.Hide
import Derived.Lib.SmallJoins
namespace Go.Proofs.Ytblhbkhehddccaa
set_option linter.unusedVariables false
open Go.RowKit Dk

/-! ### frames -/
/-- Of what was there only blocks whose mark is one of S's have turned; marks stay; a mark is laid on new blocks alone. -/
structure Fr (S : Nat × Nat → Prop) (ρ ρ' : Nat → Nat × Nat) (w w' : World) : Prop where
  os : w'.os = w.os
  tape : w'.tape = w.tape
  output : w'.output = w.output
  size : w.heap.size ≤ w'.heap.size
  block : ∀ b, b < w.heap.size → ¬ S (ρ b) → w'.heap[b]? = w.heap[b]?
  keep : ∀ b, ρ b ≠ (0, 0) → ρ' b = ρ b
  stay : ∀ b, b < w.heap.size → ρ b = (0, 0) → ρ' b = (0, 0)
  out : ∀ b, w'.heap.size ≤ b → ρ' b = (0, 0)
/-- All marks but that of strangers. -/
def own (r : Nat × Nat) : Prop := r ≠ (0, 0)
theorem Fr.weaken {S S' : Nat × Nat → Prop} {ρ ρ' : Nat → Nat × Nat} {w w' : World} (h : Fr S ρ ρ' w w') (hs : ∀ r, S r → S' r) : Fr S' ρ ρ' w w' :=
  ⟨h.os, h.tape, h.output, h.size, fun b hb hn => h.block b hb (fun x => hn (hs _ x)), h.keep, h.stay, h.out⟩
theorem Fr.trans {ρ ρ1 ρ2 : Nat → Nat × Nat} {w w1 w2 : World} (h : Fr own ρ ρ1 w w1) (k : Fr own ρ1 ρ2 w1 w2) : Fr own ρ ρ2 w w2 where
  os := k.os.trans h.os
  tape := k.tape.trans h.tape
  output := k.output.trans h.output
  size := Nat.le_trans h.size k.size
  block b hb hn := by
    have e : ρ b = (0, 0) := Classical.byContradiction hn
    have e1 := h.stay b hb e
    exact (k.block b (Nat.lt_of_lt_of_le hb h.size) (fun x => x e1)).trans (h.block b hb hn)
  keep b hn := by
    have := h.keep b hn
    rw [k.keep b (by rw [this]; exact hn), this]
  stay b hb e := k.stay b (Nat.lt_of_lt_of_le hb h.size) (h.stay b hb e)
  out := k.out
/-- What the disk does not own is as it was, from the first block of it on. -/
theorem Fr.below {ρ ρ' : Nat → Nat × Nat} {w w' : World} (h : Fr own ρ ρ' w w') {B : Nat} (hB : ∀ b, b < B → ρ b = (0, 0)) (hs : B ≤ w.heap.size) : Below B w w' :=
  ⟨h.os, h.tape, h.output, h.size, fun k hk => h.block k (Nat.lt_of_lt_of_le hk hs) (fun x => x (hB k hk))⟩
theorem Fr.below_marks {S : Nat × Nat → Prop} {ρ ρ' : Nat → Nat × Nat} {w w' : World} (h : Fr S ρ ρ' w w') {B : Nat} (hB : ∀ b, b < B → ρ b = (0, 0)) (hs : B ≤ w.heap.size) : ∀ b, b < B → ρ' b = (0, 0) :=
  fun b hb => h.stay b (Nat.lt_of_lt_of_le hb hs) (hB b hb)
/-- Memory of others turns, and new blocks come: nothing of the disk's. -/
theorem Fr.others {ρ : Nat → Nat × Nat} {w w' : World} (os : w'.os = w.os) (tape : w'.tape = w.tape) (output : w'.output = w.output) (size : w.heap.size ≤ w'.heap.size) (hb : ∀ b, b < w.heap.size → ρ b ≠ (0, 0) → w'.heap[b]? = w.heap[b]?) (hout : ∀ b, w.heap.size ≤ b → ρ b = (0, 0)) : Fr (fun r => r = (0, 0)) ρ ρ w w' :=
  ⟨os, tape, output, size, fun b hlt hn => hb b hlt hn, fun _ _ => rfl, fun _ _ h => h, fun b hs => hout b (Nat.le_trans size hs)⟩

theorem ownsRow_same {w w' : World} {base n size : Nat} {e : TypeId} {v : Value} {xs : List Value} (h : w.ownsRow base e size v n xs) (hb : ∀ g, v.ownBlock = some g → w'.heap[g]? = w.heap[g]?) : w'.ownsRow base e size v n xs := by
  refine ⟨h.1, ?_⟩
  rcases h.2 with hn | ⟨g, cap, cur, rfl, h1, h2, rest⟩
  · exact .inl hn
  · exact .inr ⟨g, cap, cur, rfl, h1, (hb g rfl).trans h2, rest⟩
theorem ownsRow_lt {w : World} {base n size : Nat} {e : TypeId} {v : Value} {xs : List Value} (h : w.ownsRow base e size v n xs) : ∀ g, v.ownBlock = some g → g < w.heap.size := fun g hg => (h.lt g hg).2

/-! ### the parts -/
def fileV (B : Nat) : Value := .pointer (some ⟨B, 0, none⟩)
def ptrV (fb : List Nat) (o : Option Nat) : Value := .pointer (o.bind fun i => (fb[i]?).map fun B => ⟨B, 0, none⟩)
def linkCells (fb : List Nat) (x : Nm × Option Nat) : List Value := [.string x.1, ptrV fb x.2]
def u8s (l : List UInt8) : List Value := l.map fun c => .int .u8 c.toNat
def faultV (f : Int × Int × Int) : Value := .agg #[.int .i64 f.1, .int .i64 f.2.1, .int .i64 f.2.2]
def namesS (fb : List Nat) (L : List (Nm × Nat)) (y u : Value) : Prop := ∃ n i B, (n, i) ∈ L ∧ fb[i]? = some B ∧ y = .string n ∧ u = fileV B
def planS (L : List (Int × Int × Int)) (y u : Value) : Prop := ∃ f ∈ L, y = .int .i64 f.1 ∧ u = faultV f
def NamesAt (w : World) (ρ : Nat → Nat × Nat) (fb : List Nat) (m : Option Nat) (L : List (Nm × Nat)) : Prop :=
  (m = none ∧ L = []) ∨ ∃ b, m = some b ∧ ρ b = (2, 0) ∧ Mp Try.prog 9 w b (namesS fb L) L.length
def PlanAt (w : World) (ρ : Nat → Nat × Nat) (pl : Option Nat) (L : List (Int × Int × Int)) : Prop :=
  (pl = none ∧ L = []) ∨ ∃ b k, pl = some b ∧ ρ b = (7, 0) ∧ Mp Try.prog 3 w b (planS L) k
def ChgAt (w : World) (ρ : Nat → Nat × Nat) (fb : List Nat) (i : Nat) (v : Value) (l : List (Nm × Option Nat)) : Prop :=
  w.ownsRow 0 79 2 v l.length (l.flatMap (linkCells fb)) ∧ ∀ g, v.ownBlock = some g → ρ g = (4, i)
def OpenAt (w : World) (ρ : Nat → Nat × Nat) (fb : List Nat) (op : Value) (L : List (List (Nm × Option Nat))) : Prop :=
  ∃ vs : List Value, w.ownsRow 0 103 1 op L.length vs ∧ (∀ g, op.ownBlock = some g → ρ g = (3, 0)) ∧ ∀ i l, L[i]? = some l → ∃ v, vs[i]? = some v ∧ ChgAt w ρ fb i v l
def FileAt (w : World) (ρ : Nat → Nat × Nat) (i : Nat) (B : Nat) (f : FileC) : Prop :=
  ρ B = (5, i) ∧ ∃ v, w.heap[B]? = some (.cells #[v, .int .i64 f.synced] 77 (0, 0)) ∧ w.ownsRow 0 5 1 v f.data.length (u8s f.data) ∧ ∀ g, v.ownBlock = some g → ρ g = (6, i)
def FilesAt (w : World) (ρ : Nat → Nat × Nat) (fb : List Nat) (fs : List FileC) : Prop :=
  fb.length = fs.length ∧ ∀ i f, fs[i]? = some f → ∃ B, fb[i]? = some B ∧ FileAt w ρ i B f
def topCells (m : Option Nat) (op : Value) (n : Int) (pl : Option Nat) : Array Value := #[.map m, op, .int .i64 n, .map pl]
structure DiskAt (w : World) (A : Nat) (D : DSt) (ρ : Nat → Nat × Nat) (fb : List Nat) : Prop where
  ok : D.Ok
  out : ∀ b, w.heap.size ≤ b → ρ b = (0, 0)
  role : ρ A = (1, 0)
  top : ∃ m op pl, w.heap[A]? = some (.cells (topCells m op D.steps pl) 45 (0, 0)) ∧ NamesAt w ρ fb m D.names ∧ OpenAt w ρ fb op D.opn ∧ PlanAt w ρ pl D.plan
  files : FilesAt w ρ fb D.files

/-! ### what stays -/
section
variable {S : Nat × Nat → Prop} {ρ ρ' : Nat → Nat × Nat} {w w' : World} {fb : List Nat}
theorem Fr.at {b : Nat} {r : Nat × Nat} (h : Fr S ρ ρ' w w') (hb : b < w.heap.size) (hr : ρ b = r) (hs : ¬ S r) : w'.heap[b]? = w.heap[b]? := h.block b hb (by rw [hr]; exact hs)
theorem Fr.mark {b : Nat} {r : Nat × Nat} (h : Fr S ρ ρ' w w') (hr : ρ b = r) (hn : r ≠ (0, 0)) : ρ' b = r := by rw [h.keep b (by rw [hr]; exact hn), hr]
theorem NamesAt.fr {m : Option Nat} {L : List (Nm × Nat)} (h : NamesAt w ρ fb m L) (F : Fr S ρ ρ' w w') (hs : ¬ S (2, 0)) : NamesAt w' ρ' fb m L := by
  rcases h with h | ⟨b, h1, h2, h3⟩
  · exact .inl h
  · exact .inr ⟨b, h1, F.mark h2 (by simp), h3.kept (F.at h3.lt h2 hs)⟩
theorem PlanAt.fr {m : Option Nat} {L : List (Int × Int × Int)} (h : PlanAt w ρ m L) (F : Fr S ρ ρ' w w') (hs : ¬ S (7, 0)) : PlanAt w' ρ' m L := by
  rcases h with h | ⟨b, k, h1, h2, h3⟩
  · exact .inl h
  · exact .inr ⟨b, k, h1, F.mark h2 (by simp), h3.kept (F.at h3.lt h2 hs)⟩
theorem ChgAt.fr {i : Nat} {v : Value} {l : List (Nm × Option Nat)} (h : ChgAt w ρ fb i v l) (F : Fr S ρ ρ' w w') (hs : ¬ S (4, i)) : ChgAt w' ρ' fb i v l :=
  ⟨ownsRow_same h.1 (fun g hg => F.at (ownsRow_lt h.1 g hg) (h.2 g hg) hs), fun g hg => F.mark (h.2 g hg) (by simp)⟩
theorem OpenAt.fr {op : Value} {L : List (List (Nm × Option Nat))} (h : OpenAt w ρ fb op L) (F : Fr S ρ ρ' w w') (hs : ¬ S (3, 0)) (hs' : ∀ i, ¬ S (4, i)) : OpenAt w' ρ' fb op L := by
  obtain ⟨vs, h1, h2, h3⟩ := h
  refine ⟨vs, ownsRow_same h1 (fun g hg => F.at (ownsRow_lt h1 g hg) (h2 g hg) hs), fun g hg => F.mark (h2 g hg) (by simp), fun i l hl => ?_⟩
  obtain ⟨v, hv, hc⟩ := h3 i l hl
  exact ⟨v, hv, hc.fr F (hs' i)⟩
theorem FileAt.fr {i B : Nat} {f : FileC} (h : FileAt w ρ i B f) (F : Fr S ρ ρ' w w') (hs : ¬ S (5, i)) (hs' : ¬ S (6, i)) : FileAt w' ρ' i B f := by
  obtain ⟨h1, v, h2, h3, h4⟩ := h
  exact ⟨F.mark h1 (by simp), v, (F.at (Array.getElem?_eq_some_iff.1 h2).1 h1 hs).trans h2, ownsRow_same h3 (fun g hg => F.at (ownsRow_lt h3 g hg) (h4 g hg) hs'), fun g hg => F.mark (h4 g hg) (by simp)⟩
theorem FilesAt.fr {fs : List FileC} (h : FilesAt w ρ fb fs) (F : Fr S ρ ρ' w w') (hs : ∀ i, ¬ S (5, i)) (hs' : ∀ i, ¬ S (6, i)) : FilesAt w' ρ' fb fs :=
  ⟨h.1, fun i f hf => let ⟨B, h1, h2⟩ := h.2 i f hf; ⟨B, h1, h2.fr F (hs i) (hs' i)⟩⟩
theorem DiskAt.others {A : Nat} {D : DSt} (h : DiskAt w A D ρ fb) (F : Fr (fun r => r = (0, 0)) ρ ρ' w w') : DiskAt w' A D ρ' fb := by
  obtain ⟨ok, out, role, ⟨m, op, pl, h1, h2, h3, h4⟩, files⟩ := h
  exact ⟨ok, F.out, F.mark role (by simp), ⟨m, op, pl, (F.at (Array.getElem?_eq_some_iff.1 h1).1 role (by simp)).trans h1, h2.fr F (by simp), h3.fr F (by simp) (by simp), h4.fr F (by simp)⟩, files.fr F (by simp) (by simp)⟩
theorem DiskAt.lt {A : Nat} {D : DSt} (h : DiskAt w A D ρ fb) : A < w.heap.size := by
  obtain ⟨m, op, pl, h1, _⟩ := h.top
  exact (Array.getElem?_eq_some_iff.1 h1).1
/-- New blocks come that no call has shown to anybody. -/
theorem DiskAt.alloc {A : Nat} {D : DSt} (h : DiskAt w A D ρ fb) (o : Obj) : DiskAt (w.alloc o) A D ρ fb :=
  h.others (Fr.others rfl rfl rfl (by simp) (fun b hb _ => Below.heap_alloc _ _ _ hb) h.out)
theorem DiskAt.drew {A : Nat} {D : DSt} (h : DiskAt w A D ρ fb) : DiskAt w.drew A D ρ fb :=
  h.others (Fr.others rfl rfl rfl (Nat.le_refl _) (fun b hb _ => rfl) h.out)
end
theorem new_ok : Dk.new.Ok := ⟨List.Pairwise.nil, by simp [Dk.new], by simp [Dk.new], by simp [Dk.new]⟩

/-! ### keys -/
theorem strK : Maps.Keyed Try.prog 9 := Maps.string_keyed Try.underlying9
theorem intK : Maps.Keyed Try.prog 3 := Maps.int_keyed Try.underlying3
theorem strKey {s : ByteArray} (h : s.size ≤ maxLen) : keyOf Try.prog 9 (.string s) = some (.string s.data.toList) := WideMaps.keyOf_string_mk Try.underlying9 h
theorem intKey {a : Int} (h : -9223372036854775808 ≤ a) (h' : a ≤ 9223372036854775807) : keyOf Try.prog 3 (.int .i64 a) = some (.int .i64 a) :=
  Maps.keyOf_int_mk Try.underlying3 (by simp [Lit.wf, IntKind.min, IntKind.max, IntKind.signed, IntKind.bits]; omega)
theorem zeroFile : ∀ W : World, (zeroValue 73).run Try.prog W = .ok (.pointer none) W := fun _ => by kernel_rfl
theorem zeroFault : ∀ W : World, (zeroValue 63).run Try.prog W = .ok (.agg #[.int .i64 0, .int .i64 0, .int .i64 0]) W := fun _ => by kernel_rfl
theorem namesS_get {fb : List Nat} {L : List (Nm × Nat)} (hs : Sorted L) {n : Nm} {i B : Nat} (h : nmGet L n = some i) (hB : fb[i]? = some B) : namesS fb L (.string n) (fileV B) := ⟨n, i, B, (nmGet_some hs).1 h, hB, rfl, rfl⟩
theorem namesS_none {fb : List Nat} {L : List (Nm × Nat)} {n : Nm} (h : nmGet L n = none) : ∀ v, ¬ namesS fb L (.string n) v := by
  rintro v ⟨n', i, B, h1, _, h3, _⟩
  cases h3
  exact nmGet_none.1 h i h1
end Go.Proofs.Ytblhbkhehddccaa
