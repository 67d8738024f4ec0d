/- Reading a point out of bytes, as plain functions; what was written is read as it was; a beginning of it is none. Plain mathematics. -/
import Derived.Test.YtfppemgagifmpaaDoorPlIn
namespace Go.Proofs.YtfppemgagifmpaaDoor
set_option linter.unusedVariables false
open Go Go.RowKit Go.Shelf Pl
/-- What is left, and whether bytes lacked. -/
structure Rs where
  rest : List UInt8
  short : Bool
def takeR (n : Nat) (r : Rs) : List UInt8 × Rs := if r.rest.length < n then ([], ⟨[], true⟩) else (r.rest.take n, ⟨r.rest.drop n, r.short⟩)
def numR (w : Nat) (r : Rs) : Nat × Rs := (unfL (takeR w r).1, (takeR w r).2)
def textR (w : Nat) (r : Rs) : Nm × Rs := (⟨(takeR (numR w r).1 (numR w r).2).1.toArray⟩, (takeR (numR w r).1 (numR w r).2).2)
def partR (r : Rs) : Int × Rs := (((numR 2 r).1 : Int) - 32768, (numR 2 r).2)
def manyR {α : Type} (f : Rs → α × Rs) : Nat → Rs → List α × Rs
  | 0, r => ([], r)
  | k + 1, r => ((f r).1 :: (manyR f k (f r).2).1, (manyR f k (f r).2).2)
def severalR {α : Type} (f : Rs → α × Rs) (r : Rs) : List α × Rs := manyR f (numR 1 r).1 (numR 1 r).2
def vecR (r : Rs) : Vec × Rs := (⟨(textR 1 r).1, (severalR partR (textR 1 r).2).1⟩, (severalR partR (textR 1 r).2).2)
def i64N (n : Nat) : Int := IntKind.i64.wrap (n : Int)
def valR (r : Rs) : Val × Rs :=
  if (numR 1 r).1 = 2 then (⟨2, 0, (textR 2 (numR 1 r).2).1⟩, (textR 2 (numR 1 r).2).2)
  else (⟨((numR 1 r).1 : Int), i64N (numR (szT (numR 1 r).1).1.toNat (numR 1 r).2).1, ⟨#[]⟩⟩, (numR (szT (numR 1 r).1).1.toNat (numR 1 r).2).2)
def fldR (r : Rs) : Fld × Rs := (⟨(textR 1 r).1, (valR (textR 1 r).2).1⟩, (valR (textR 1 r).2).2)
def ptR (s : List UInt8) : Pt × Rs :=
  let r1 := numR 8 ⟨s, false⟩
  let r2 := severalR vecR r1.2
  let r3 := severalR fldR r2.2
  (⟨i64N r1.1, r2.1, r3.1⟩, r3.2)
/-! ### What was written is read -/
theorem takeR_app (a t : List UInt8) (b : Bool) : takeR a.length ⟨a ++ t, b⟩ = (a, ⟨t, b⟩) := by
  unfold takeR
  rw [if_neg (by rw [List.length_append]; omega)]
  simp
theorem numR_fix (w n : Nat) (t : List UInt8) (b : Bool) (h : n < 256 ^ w) : numR w ⟨fixL w n ++ t, b⟩ = (n, ⟨t, b⟩) := by
  have e := takeR_app (fixL w n) t b
  rw [fixL_length] at e
  unfold numR
  rw [e, unfL_fixL w n h]
theorem textR_fix (w : Nat) (s : Nm) (t : List UInt8) (b : Bool) (h : s.size < 256 ^ w) : textR w ⟨fixL w s.size ++ s.data.toList ++ t, b⟩ = (s, ⟨t, b⟩) := by
  have e := takeR_app s.data.toList t b
  rw [← Lib.size_eq] at e
  unfold textR
  rw [List.append_assoc, numR_fix w s.size _ b h, e]
theorem manyR_flat {α : Type} {f : Rs → α × Rs} {g : α → List UInt8} {V : α → Prop} (hf : ∀ x, V x → ∀ t b, f ⟨g x ++ t, b⟩ = (x, ⟨t, b⟩)) :
    ∀ (L : List α), (∀ x ∈ L, V x) → ∀ t b, manyR f L.length ⟨L.flatMap g ++ t, b⟩ = (L, ⟨t, b⟩)
  | [], _, t, b => by simp [manyR]
  | x :: L, h, t, b => by
    have h1 := hf x (h x (List.mem_cons_self ..)) (L.flatMap g ++ t) b
    have h2 := manyR_flat hf L (fun y hy => h y (List.mem_cons_of_mem _ hy)) t b
    rw [List.flatMap_cons, List.append_assoc, List.length_cons]
    unfold manyR
    rw [h1, h2]
theorem severalR_flat {α : Type} {f : Rs → α × Rs} {g : α → List UInt8} {V : α → Prop} (hf : ∀ x, V x → ∀ t b, f ⟨g x ++ t, b⟩ = (x, ⟨t, b⟩)) (L : List α) (hL : L.length < 256) (h : ∀ x ∈ L, V x) (t : List UInt8) (b : Bool) :
    severalR f ⟨fixL 1 L.length ++ L.flatMap g ++ t, b⟩ = (L, ⟨t, b⟩) := by
  unfold severalR
  rw [List.append_assoc, numR_fix 1 _ _ b (by omega), manyR_flat hf L h t b]
theorem partR_fix (n : Int) (h : -32768 ≤ n ∧ n ≤ 32767) (t : List UInt8) (b : Bool) : partR ⟨fixL 2 (n + 32768).toNat ++ t, b⟩ = (n, ⟨t, b⟩) := by
  unfold partR
  rw [numR_fix 2 _ _ b (by omega)]
  simp only [Prod.mk.injEq, and_true]; omega
theorem vecR_fix (x : Vec) (h : VecIs x) (t : List UInt8) (b : Bool) : vecR ⟨bVec x ++ t, b⟩ = (x, ⟨t, b⟩) := by
  obtain ⟨h1, h2, h3, h4⟩ := h
  unfold vecR bVec bInts
  have e1 := textR_fix 1 x.name (fixL 1 x.v.length ++ x.v.flatMap (fun n => fixL 2 (n + 32768).toNat) ++ t) b (by omega)
  have e2 := severalR_flat (f := partR) (g := fun n => fixL 2 (n + 32768).toNat) (V := fun n => -32768 ≤ n ∧ n ≤ 32767) partR_fix x.v (by omega) h4 t b
  simp only [List.append_assoc] at e1 e2 ⊢
  rw [e1, e2]
theorem i64_u64 (n : Int) (h : -4503599627370496 ≤ n ∧ n ≤ 4503599627370496) : i64N (u64N n) = n := by
  unfold i64N u64N
  have h1 : (0 : Int) ≤ IntKind.u64.wrap n := by unfold IntKind.wrap; simp [IntKind.bits, IntKind.signed]; omega
  rw [Int.toNat_of_nonneg h1]
  unfold IntKind.wrap
  simp [IntKind.bits, IntKind.signed]; omega
theorem valR_fix (v : Val) (h : valB v = true) (t : List UInt8) (b : Bool) : valR ⟨bVal v ++ t, b⟩ = (v, ⟨t, b⟩) := by
  have kv := val_kinds h
  obtain ⟨k, n, x⟩ := v
  simp only at kv
  rcases kv with ⟨rfl, h1, rfl⟩ | ⟨rfl, rfl, h2⟩ | ⟨rfl, h1, rfl⟩
  · have e1 := numR_fix 1 1 (fixL 8 (u64N n) ++ t) b (by decide)
    have e2 := numR_fix 8 (u64N n) t b (u64_top n)
    have e3 : bVal ⟨1, n, ⟨#[]⟩⟩ = fixL 1 1 ++ fixL 8 (u64N n) := rfl
    unfold valR
    rw [e3, List.append_assoc, e1]
    simp only [show ¬ (1 = 2) by decide, if_false, show (szT 1).1.toNat = 8 from rfl, e2, i64_u64 n h1]; rfl
  · have e1 := numR_fix 1 2 (fixL 2 x.size ++ x.data.toList ++ t) b (by decide)
    have e2 := textR_fix 2 x t b (by omega)
    have e3 : bVal ⟨2, 0, x⟩ = fixL 1 2 ++ fixL 2 x.size ++ x.data.toList := rfl
    simp only [List.append_assoc] at e1 e2 e3
    unfold valR
    rw [e3]
    simp only [List.append_assoc]
    rw [e1]
    simp only [if_true, e2]
  · have e1 := numR_fix 1 3 (fixL 1 (u64N n) ++ t) b (by decide)
    have e2 := numR_fix 1 (u64N n) t b (u64_small h1)
    have e3 : bVal ⟨3, n, ⟨#[]⟩⟩ = fixL 1 3 ++ fixL 1 (u64N n) := rfl
    unfold valR
    rw [e3, List.append_assoc, e1]
    simp only [show ¬ (3 = 2) by decide, if_false, show (szT 3).1.toNat = 1 from rfl, e2, i64_u64 n (by omega)]; rfl
theorem fldR_fix (x : Fld) (h : FldIs x) (t : List UInt8) (b : Bool) : fldR ⟨bFld x ++ t, b⟩ = (x, ⟨t, b⟩) := by
  obtain ⟨h1, h2⟩ := h
  unfold fldR bFld
  have e1 := textR_fix 1 x.name (bVal x.val ++ t) b (by omega)
  have e2 := valR_fix x.val h2 t b
  simp only [List.append_assoc] at e1 e2 ⊢
  rw [e1, e2]
theorem ptR_back (a : Pt) (h : ptMay a = true) (t : List UInt8) : ptR (bPt a ++ t) = (a, ⟨t, false⟩) := by
  have pa := ptIs h
  have hid : a.id.toNat < 256 ^ 8 := by have := pa.id1; have := pa.id2; unfold maxId at this; omega
  have e1 := numR_fix 8 a.id.toNat (fixL 1 a.vecs.length ++ a.vecs.flatMap bVec ++ (fixL 1 a.flds.length ++ a.flds.flatMap bFld ++ t)) false hid
  have e2 := severalR_flat (f := vecR) (g := bVec) (V := VecIs) vecR_fix a.vecs (by have := pa.nv; omega) (fun x hx => ⟨pa.vn x hx, (pa.vv x hx).1, (pa.vv x hx).2.1, (pa.vv x hx).2.2⟩) (fixL 1 a.flds.length ++ a.flds.flatMap bFld ++ t) false
  have e3 := severalR_flat (f := fldR) (g := bFld) (V := FldIs) fldR_fix a.flds (by have := pa.nf; omega) (fun x hx => ⟨pa.fn x hx, pa.fv x hx⟩) t false
  have e4 : i64N a.id.toNat = a.id := by
    have := pa.id1; have h2 := pa.id2; unfold maxId at h2
    unfold i64N IntKind.wrap
    simp [IntKind.bits, IntKind.signed]; omega
  unfold ptR bPt
  simp only [List.append_assoc] at e1 e2 e3 ⊢
  rw [e1]
  simp only
  rw [e2]
  simp only
  rw [e3]
  simp only [e4]
/-! ### A longer text is read the same -/
def Mono {α : Type} (f : Rs → α × Rs) : Prop := ∀ r u, (f r).2.short = false → r.short = false ∧ f ⟨r.rest ++ u, false⟩ = ((f r).1, ⟨(f r).2.rest ++ u, false⟩)
theorem takeR_mono (n : Nat) : Mono (takeR n) := fun r u h => by
  obtain ⟨l, b⟩ := r
  unfold takeR at h ⊢
  simp only at h ⊢
  by_cases c : l.length < n
  · rw [if_pos c] at h; cases h
  · rw [if_neg c] at h
    simp only at h
    subst h
    rw [if_neg c, if_neg (by rw [List.length_append]; omega)]
    refine ⟨rfl, ?_⟩
    rw [List.take_append_of_le_length (by omega), List.drop_append_of_le_length (by omega)]
theorem numR_mono (w : Nat) : Mono (numR w) := fun r u h => by
  obtain ⟨h1, h2⟩ := takeR_mono w r u h
  refine ⟨h1, ?_⟩
  unfold numR
  rw [h2]
theorem Mono.then {α β : Type} {f : Rs → α × Rs} {g : α → Rs → β × Rs} (hf : Mono f) (hg : ∀ x, Mono (g x)) : Mono (fun r => g (f r).1 (f r).2) := fun r u h => by
  obtain ⟨h1, h2⟩ := hg _ _ u h
  obtain ⟨h3, h4⟩ := hf r u h1
  refine ⟨h3, ?_⟩
  simp only [h4]
  exact h2
theorem Mono.map {α β : Type} {f : Rs → α × Rs} (m : α → β) (hf : Mono f) : Mono (fun r => (m (f r).1, (f r).2)) := fun r u h => by
  obtain ⟨h3, h4⟩ := hf r u h
  exact ⟨h3, by simp only [h4]⟩
theorem textR_mono (w : Nat) : Mono (textR w) := by
  have h := Mono.map (fun l : List UInt8 => (⟨l.toArray⟩ : Nm)) ((numR_mono w).then (g := fun n r => takeR n r) (fun n => takeR_mono n))
  exact h
theorem partR_mono : Mono partR := Mono.map (fun n : Nat => (n : Int) - 32768) (numR_mono 2)
theorem manyR_mono {α : Type} {f : Rs → α × Rs} (hf : Mono f) : ∀ k, Mono (manyR f k)
  | 0 => fun r u h => ⟨h, by simp [manyR]⟩
  | k + 1 => by
    have h := hf.then (g := fun x r => (x :: (manyR f k r).1, (manyR f k r).2)) (fun x => Mono.map (fun l => x :: l) (manyR_mono hf k))
    intro r u hr
    have := h r u (by simpa [manyR] using hr)
    simpa [manyR] using this
theorem severalR_mono {α : Type} {f : Rs → α × Rs} (hf : Mono f) : Mono (severalR f) := (numR_mono 1).then (g := fun n r => manyR f n r) (fun n => manyR_mono hf n)
theorem vecR_mono : Mono vecR := (textR_mono 1).then (g := fun s r => ((⟨s, (severalR partR r).1⟩ : Vec), (severalR partR r).2)) (fun s => Mono.map (fun l => (⟨s, l⟩ : Vec)) (severalR_mono partR_mono))
theorem valR_mono : Mono valR := by
  have h := (numR_mono 1).then (g := fun (n : Nat) r => if n = 2 then ((⟨2, 0, (textR 2 r).1⟩ : Val), (textR 2 r).2) else (⟨(n : Int), i64N (numR (szT n).1.toNat r).1, ⟨#[]⟩⟩, (numR (szT n).1.toNat r).2)) (fun n => by
    by_cases c : n = 2
    · simp only [c, if_true]; exact Mono.map (fun s => (⟨2, 0, s⟩ : Val)) (textR_mono 2)
    · simp only [c, if_false]; exact Mono.map (fun m => (⟨(n : Int), i64N m, ⟨#[]⟩⟩ : Val)) (numR_mono (szT n).1.toNat))
  exact h
theorem fldR_mono : Mono fldR := (textR_mono 1).then (g := fun s r => ((⟨s, (valR r).1⟩ : Fld), (valR r).2)) (fun s => Mono.map (fun l => (⟨s, l⟩ : Fld)) valR_mono)
theorem ptR_mono (s u : List UInt8) (h : (ptR s).2.short = false) : ptR (s ++ u) = ((ptR s).1, ⟨(ptR s).2.rest ++ u, false⟩) := by
  have m := (numR_mono 8).then (g := fun n r => ((⟨i64N n, (severalR vecR r).1, (severalR fldR (severalR vecR r).2).1⟩ : Pt), (severalR fldR (severalR vecR r).2).2)) (fun n =>
    (severalR_mono vecR_mono).then (g := fun l r => ((⟨i64N n, l, (severalR fldR r).1⟩ : Pt), (severalR fldR r).2)) (fun l => Mono.map (fun k => (⟨i64N n, l, k⟩ : Pt)) (severalR_mono fldR_mono)))
  exact (m ⟨s, false⟩ u h).2
/-- A beginning of a point's bytes is none. -/
theorem ptR_cut (a : Pt) (h : ptMay a = true) (c : Nat) (hc : c < (bPt a).length) : (ptR ((bPt a).take c)).2.short = true := by
  cases hs : (ptR ((bPt a).take c)).2.short with
  | true => rfl
  | false =>
    have m := ptR_mono _ ((bPt a).drop c) hs
    rw [List.take_append_drop] at m
    have b := ptR_back a h []
    rw [List.append_nil, m] at b
    have e : (ptR ((bPt a).take c)).2.rest ++ (bPt a).drop c = [] := by
      have := congrArg (fun p : Pt × Rs => p.2.rest) b
      exact this
    have e2 := congrArg List.length e
    rw [List.length_append, List.length_drop] at e2
    simp at e2; omega
end Go.Proofs.YtfppemgagifmpaaDoor
