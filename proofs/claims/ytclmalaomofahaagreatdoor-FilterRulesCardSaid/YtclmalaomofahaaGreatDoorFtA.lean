/- Conditions: as plain data, and as they lie in memory. Conditions of the theorems: those that each one names. -/
import Derived.Test.YtclmalaomofahaaGreatDoorPx
namespace Go.Proofs.YtclmalaomofahaaGreatDoor
set_option linter.unusedVariables false
namespace Ft
open Go Go.RowKit Pq Pq.Pl Rk Px
/-! ### Plain -/
/-- A condition. -/
inductive Cd where
  | mk (kind : Int) (name : Nm) (val : Val) (low high : Int) (list : List Cd)
def Cd.kind : Cd → Int | .mk k _ _ _ _ _ => k
def Cd.name : Cd → Nm | .mk _ n _ _ _ _ => n
def Cd.val : Cd → Val | .mk _ _ v _ _ _ => v
def Cd.low : Cd → Int | .mk _ _ _ l _ _ => l
def Cd.high : Cd → Int | .mk _ _ _ _ h _ => h
def Cd.list : Cd → List Cd | .mk _ _ _ _ _ l => l
def noCd : Cd := .mk 0 ⟨#[]⟩ ⟨0, 0, ⟨#[]⟩⟩ 0 0 []
def inB (lo hi : Int) : Option Val → Bool
  | none => false
  | some x => decide (x.kind = 1) && decide (lo ≤ x.n) && decide (x.n ≤ hi)
def isB (v : Val) : Option Val → Bool
  | none => false
  | some x => decide (cmpV x v = 0)
mutual
/-- Whether fields pass a condition. -/
def pass (F : List Fld) : Cd → Bool
  | .mk k nm v lo hi l => if k = 1 then true else if k = 3 then (getL F nm).isSome else if k = 4 then isB v (getL F nm) else if k = 5 then inB lo hi (getL F nm) else if k = 6 then passNot F l else if k = 7 then passAll F l else if k = 8 then passAny F l else false
def passNot (F : List Fld) : List Cd → Bool
  | [] => false
  | c :: l => l.isEmpty && !pass F c
def passAll (F : List Fld) : List Cd → Bool
  | [] => true
  | c :: l => pass F c && passAll F l
def passAny (F : List Fld) : List Cd → Bool
  | [] => false
  | c :: l => pass F c || passAny F l
end
mutual
def sizeC : Cd → Int
  | .mk _ _ _ _ _ l => sizeL 1 l
def sizeL (a : Int) : List Cd → Int
  | [] => a
  | c :: l => sizeL (wrap64 (a + sizeC c)) l
end
mutual
def depthC : Cd → Int
  | .mk _ _ _ _ _ l => wrap64 (depthL 0 l + 1)
def depthL (a : Int) : List Cd → Int
  | [] => a
  | c :: l => depthL (max a (depthC c)) l
end
mutual
/-- No text and no row within is greater than a text or a row can be. -/
def Big : Cd → Prop
  | .mk _ nm v _ _ l => nm.size ≤ Room ∧ v.text.size ≤ Room ∧ l.length * 96 ≤ 140737488355328 ∧ BigL l
def BigL : List Cd → Prop
  | [] => True
  | c :: l => Big c ∧ BigL l
end
theorem BigL.mem : ∀ {l : List Cd}, BigL l → ∀ c ∈ l, Big c
  | [], _, _, h => by simp at h
  | a :: l, hf, c, h => by
    unfold BigL at hf
    rcases List.mem_cons.1 h with h | h
    · rw [h]; exact hf.1
    · exact BigL.mem hf.2 c h
theorem BigL.mk : ∀ {l : List Cd}, (∀ c ∈ l, Big c) → BigL l
  | [], _ => by unfold BigL; trivial
  | c :: l, h => by
    unfold BigL
    exact ⟨h c (List.mem_cons_self ..), BigL.mk fun x hx => h x (List.mem_cons_of_mem _ hx)⟩
theorem Big.parts {c : Cd} (h : Big c) : c.name.size ≤ Room ∧ c.val.text.size ≤ Room ∧ c.list.length * 96 ≤ 140737488355328 ∧ ∀ x ∈ c.list, Big x := by
  obtain ⟨k, n, v, lo, hi, l⟩ := c
  unfold Big at h
  exact ⟨h.1, h.2.1, h.2.2.1, h.2.2.2.mem⟩
/-! ### In memory -/
/-- A condition as it lies in a row. -/
structure Rc where
  kind : Int
  name : Nm
  val : Val
  low : Int
  high : Int
  l : Sl
instance : Inhabited Rc := ⟨⟨0, ⟨#[]⟩, ⟨0, 0, ⟨#[]⟩⟩, 0, 0, ⟨none, 0, 0⟩⟩⟩
def encC (r : Rc) : List Value := [.int .i64 r.kind, .string r.name, .int .i64 r.val.kind, .int .i64 r.val.n, .string r.val.text, .int .i64 r.low, .int .i64 r.high, .slice r.l.p r.l.n r.l.c]
abbrev cv (r : Rc) : Value := .agg #[.int .i64 r.kind, .string r.name, .int .i64 r.val.kind, .int .i64 r.val.n, .string r.val.text, .int .i64 r.low, .int .i64 r.high, .slice r.l.p r.l.n r.l.c]
abbrev cobj (r : Rc) : Obj := .cells #[.int .i64 r.kind, .string r.name, .int .i64 r.val.kind, .int .i64 r.val.n, .string r.val.text, .int .i64 r.low, .int .i64 r.high, .slice r.l.p r.l.n r.l.c] 26
theorem flatC : Flat Tryz.prog encC 8 26 24 96 where
  under := Tryz.underlying24
  info := info_of (z := .agg #[.int .i64 0, .string ⟨#[]⟩, .int .i64 0, .int .i64 0, .string ⟨#[]⟩, .int .i64 0, .int .i64 0, .slice none 0 0]) (by kernel_rfl) rfl
  pos := by decide
  len _ := rfl
  one x u hu := by simp [encC] at hu; rcases hu with rfl | rfl | rfl | rfl | rfl | rfl | rfl | rfl <;> rfl
mutual
/-- What is read as a condition, out of blocks of S. -/
def CdW (S : Nat → Prop) (w : World) : Cd → Rc → Prop
  | .mk k nm v lo hi l, r => r.kind = k ∧ r.name = nm ∧ r.val = v ∧ r.low = lo ∧ r.high = hi ∧ ∃ R : List Rc, RowAt encC 8 w (slv r.l) R ∧ (∀ g, (slv r.l).ownBlock = some g → R ≠ [] → S g) ∧ KidsW S w l R
def KidsW (S : Nat → Prop) (w : World) : List Cd → List Rc → Prop
  | [], R => R = []
  | c :: l, R => ∃ r R', R = r :: R' ∧ CdW S w c r ∧ KidsW S w l R'
end
section
variable {S S' : Nat → Prop} {w w' : World}
theorem KidsW.len : ∀ {l : List Cd} {R : List Rc}, KidsW S w l R → R.length = l.length
  | [], R, h => by unfold KidsW at h; subst h; rfl
  | c :: l, R, h => by
    unfold KidsW at h
    obtain ⟨r, R', rfl, _, h⟩ := h
    simp [KidsW.len h]
theorem KidsW.at : ∀ {l : List Cd} {R : List Rc}, KidsW S w l R → ∀ j (h1 : j < l.length) (h2 : j < R.length), CdW S w l[j] R[j]
  | [], _, _, j, h1, _ => by simp at h1
  | c :: l, R, h, j, h1, h2 => by
    unfold KidsW at h
    obtain ⟨r, R', rfl, hr, h⟩ := h
    cases j with
    | zero => exact hr
    | succ j => exact KidsW.at h j (by simpa using h1) (by simpa using h2)
theorem KidsW.mk : ∀ {l : List Cd} {R : List Rc}, R.length = l.length → (∀ j (h1 : j < l.length) (h2 : j < R.length), CdW S w l[j] R[j]) → KidsW S w l R
  | [], R, hl, _ => by unfold KidsW; exact List.length_eq_zero_iff.1 hl
  | c :: l, [], hl, _ => by simp at hl
  | c :: l, r :: R, hl, h => by
    unfold KidsW
    exact ⟨r, R, rfl, h 0 (by simp) (by simp), KidsW.mk (by simpa using hl) fun j h1 h2 => h (j + 1) (by simpa using h1) (by simpa using h2)⟩
theorem RowAt.framed {v : Value} {R : List Rc} (h : RowAt encC 8 w v R) (hs : ∀ g, v.ownBlock = some g → R ≠ [] → S g) (hb : ∀ b, S b → b < w.heap.size → w'.heap[b]? = w.heap[b]?) (hz : w.heap.size ≤ w'.heap.size) : RowAt encC 8 w' v R := by
  rcases h with h | ⟨b, off, c, rfl, hlt, hc⟩
  · exact .inl h
  · by_cases hR : R = []
    · subst hR
      exact .inl ⟨rfl, _, _, rfl⟩
    · exact .inr ⟨b, off, c, rfl, Nat.lt_of_lt_of_le hlt hz, fun W hW => hc W (hW.trans (hb b (hs b rfl hR) hlt))⟩
mutual
theorem CdW.frame (hs : ∀ b, b < w.heap.size → S b → S' b) (hb : ∀ b, S b → b < w.heap.size → w'.heap[b]? = w.heap[b]?) (hz : w.heap.size ≤ w'.heap.size) : ∀ (c : Cd) (r : Rc), CdW S w c r → CdW S' w' c r
  | .mk k nm v lo hi l, r, h => by
    unfold CdW at h ⊢
    obtain ⟨h1, h2, h3, h4, h5, R, h6, h7, h8⟩ := h
    refine ⟨h1, h2, h3, h4, h5, R, RowAt.framed h6 h7 hb hz, fun g hg hR => ?_, KidsW.frame hs hb hz l R h8⟩
    refine hs g ?_ (h7 g hg hR)
    rcases h6 with ⟨e, _⟩ | ⟨b, off, c, e, hlt, _⟩
    · exact absurd e hR
    · rw [e] at hg
      have : b = g := by simpa [Value.ownBlock] using hg
      omega
theorem KidsW.frame (hs : ∀ b, b < w.heap.size → S b → S' b) (hb : ∀ b, S b → b < w.heap.size → w'.heap[b]? = w.heap[b]?) (hz : w.heap.size ≤ w'.heap.size) : ∀ (l : List Cd) (R : List Rc), KidsW S w l R → KidsW S' w' l R
  | [], R, h => by unfold KidsW at h ⊢; exact h
  | c :: l, R, h => by
    unfold KidsW at h ⊢
    obtain ⟨r, R', e, h1, h2⟩ := h
    exact ⟨r, R', e, CdW.frame hs hb hz c r h1, KidsW.frame hs hb hz l R' h2⟩
end
theorem CdW.below {c : Cd} {r : Rc} (h : CdW S w c r) (hb : Below w.heap.size w w') : CdW S w' c r :=
  CdW.frame (fun _ _ h => h) (fun b _ hlt => hb.block b hlt) hb.size _ _ h
theorem CdW.wide {c : Cd} {r : Rc} (h : CdW S w c r) : CdW (fun _ => True) w c r :=
  CdW.frame (fun _ _ _ => trivial) (fun b _ hlt => rfl) (Nat.le_refl _) _ _ h
theorem KidsW.below {l : List Cd} {R : List Rc} (h : KidsW S w l R) (hb : Below w.heap.size w w') : KidsW S w' l R :=
  KidsW.frame (fun _ _ h => h) (fun b _ hlt => hb.block b hlt) hb.size _ _ h
/-- A condition's parts. -/
theorem CdW.parts {c : Cd} {r : Rc} (h : CdW S w c r) : r.kind = c.kind ∧ r.name = c.name ∧ r.val = c.val ∧ r.low = c.low ∧ r.high = c.high ∧ ∃ R : List Rc, RowAt encC 8 w (slv r.l) R ∧ (∀ g, (slv r.l).ownBlock = some g → R ≠ [] → S g) ∧ KidsW S w c.list R := by
  cases c with
  | mk k nm v lo hi l => unfold CdW at h; exact h
theorem CdW.of_parts {c : Cd} {r : Rc} (h : r.kind = c.kind ∧ r.name = c.name ∧ r.val = c.val ∧ r.low = c.low ∧ r.high = c.high ∧ ∃ R : List Rc, RowAt encC 8 w (slv r.l) R ∧ (∀ g, (slv r.l).ownBlock = some g → R ≠ [] → S g) ∧ KidsW S w c.list R) : CdW S w c r := by
  cases c with
  | mk k nm v lo hi l => unfold CdW; exact h
/-- How many parts a condition has. -/
theorem CdW.len {c : Cd} {r : Rc} (h : CdW S w c r) : r.l.n = c.list.length := by
  obtain ⟨_, _, _, _, _, R, h1, _, h2⟩ := h.parts
  obtain ⟨p, c', e⟩ := h1.form
  injection e with _ e _
  rw [e, h2.len]
/-- A part of a condition, cell by cell. -/
theorem CdW.kid {c : Cd} {r : Rc} (h : CdW S w c r) (q : Nat) (hq : q < c.list.length) :
    ∃ g off cp, r.l = ⟨some ⟨g, off, none⟩, c.list.length, cp⟩ ∧ g < w.heap.size ∧ ∃ r' : Rc, CdW S w c.list[q] r' ∧ ∀ W : World, W.heap[g]? = w.heap[g]? →
      W.cell? ⟨g, off + q * 8, none⟩ = some (.int .i64 r'.kind) ∧ W.cell? ⟨g, off + q * 8 + 1, none⟩ = some (.string r'.name) ∧ W.cell? ⟨g, off + q * 8 + 2, none⟩ = some (.int .i64 r'.val.kind) ∧ W.cell? ⟨g, off + q * 8 + 3, none⟩ = some (.int .i64 r'.val.n) ∧ W.cell? ⟨g, off + q * 8 + 4, none⟩ = some (.string r'.val.text) ∧
      W.cell? ⟨g, off + q * 8 + 5, none⟩ = some (.int .i64 r'.low) ∧ W.cell? ⟨g, off + q * 8 + 6, none⟩ = some (.int .i64 r'.high) ∧ W.cell? ⟨g, off + q * 8 + 7, none⟩ = some (.slice r'.l.p r'.l.n r'.l.c) := by
  obtain ⟨_, _, _, _, _, R, h1, _, h2⟩ := h.parts
  have hl := h2.len
  rcases h1 with ⟨rfl, _⟩ | ⟨g, off, cp, e, hg, hc⟩
  · simp at hl; omega
  · have hq' : q < R.length := by omega
    refine ⟨g, off, cp, ?_, hg, R[q], h2.at q hq hq', fun W hW => ⟨hc W hW q hq' 0 _ rfl, hc W hW q hq' 1 _ rfl, hc W hW q hq' 2 _ rfl, hc W hW q hq' 3 _ rfl, hc W hW q hq' 4 _ rfl, hc W hW q hq' 5 _ rfl, hc W hW q hq' 6 _ rfl, hc W hW q hq' 7 _ rfl⟩⟩
    injection e with e1 e2 e3
    rcases hr : r.l with ⟨p, n, cc⟩
    rw [hr] at e1 e2 e3
    simp only at e1 e2 e3
    rw [e1, e2, e3, hl]
end
theorem wrap_q {n k : Nat} (h : n * 96 ≤ 140737488355328) (hk : k < n) : wrap64 ((k : Int) + 1) = ((k + 1 : Nat) : Int) := by
  unfold wrap64; omega
theorem less_q {n k : Nat} (h : k < n) : n - (intOf (.int .i64 ((k + 1 : Nat) : Int))).toNat < n - (intOf (.int .i64 (k : Int))).toNat := by
  simp only [intOf, Int.toNat_natCast]; omega
end Ft
end Go.Proofs.YtclmalaomofahaaGreatDoor
