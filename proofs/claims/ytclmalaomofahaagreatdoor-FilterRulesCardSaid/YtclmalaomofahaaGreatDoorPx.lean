/- Rows of points in memory. Conditions: those that each theorem names. -/
import Derived.Test.YtclmalaomofahaaGreatDoorPlQ
import Derived.Test.YtclmalaomofahaaGreatDoorRk
namespace Go.Proofs.YtclmalaomofahaaGreatDoor
set_option linter.unusedVariables false
namespace Px
open Go Go.RowKit Pq Pq.Pl Rk
/-- A value of numbers of 64 bits and a text of bearable size. -/
def OkV (v : Val) : Prop := (Lit.int .i64 v.kind).wf = true ∧ (Lit.int .i64 v.n).wf = true ∧ v.text.size ≤ Room
/-! ### Points -/
/-- A slice's header. -/
structure Sl where
  p : Option Addr
  n : Nat
  c : Nat
abbrev slv (s : Sl) : Value := .slice s.p s.n s.c
/-- A point as it lies in a row. -/
structure Rp where
  id : Int
  v : Sl
  f : Sl
instance : Inhabited Rp := ⟨⟨0, ⟨none, 0, 0⟩, ⟨none, 0, 0⟩⟩⟩
def encP (r : Rp) : List Value := [.int .i64 r.id, slv r.v, slv r.f]
abbrev pobj (r : Rp) : Obj := .cells #[.int .i64 r.id, slv r.v, slv r.f] 30
theorem flatP : Flat Tryz.prog encP 3 30 36 56 where
  under := Tryz.underlying36
  info := info_of (z := .agg #[.int .i64 0, .slice none 0 0, .slice none 0 0]) (by kernel_rfl) rfl
  pos := by decide
  len _ := rfl
  one x u hu := by simp [encP] at hu; rcases hu with rfl | rfl | rfl <;> rfl
/-- What is read as a point. -/
def PtW (w : World) (r : Rp) (p : Pt) : Prop := r.id = p.id ∧ VecsAt w (slv r.v) p.vecs ∧ FldsAt w (slv r.f) p.flds
theorem PtW.below {w w' : World} {r : Rp} {p : Pt} (h : PtW w r p) (g : Below w.heap.size w w') : PtW w' r p := ⟨h.1, h.2.1.below g, h.2.2.below g⟩
/-- A row of points. -/
def PtsAt (w : World) (v : Value) (L : List Pt) : Prop := ∃ R, RowAt encP 3 w v R ∧ R.length = L.length ∧ ∀ j (h : j < R.length) (h' : j < L.length), PtW w R[j] L[j]
theorem PtsAt.below {w w' : World} {v : Value} {L : List Pt} (h : PtsAt w v L) (g : Below w.heap.size w w') : PtsAt w' v L := by
  obtain ⟨R, h1, h2, h3⟩ := h
  exact ⟨R, h1.below g, h2, fun j a b => (h3 j a b).below g⟩
theorem PtsAt.form {w : World} {v : Value} {L : List Pt} (h : PtsAt w v L) : ∃ p c, v = .slice p L.length c := by
  obtain ⟨R, h1, h2, _⟩ := h
  rw [← h2]
  exact h1.form
/-- A point of bearable size, of numbers of 64 bits. -/
structure OkP (p : Pt) : Prop where
  id : (Lit.int .i64 p.id).wf = true
  flds : FldsOk p.flds
  vals : ∀ f ∈ p.flds, OkV f.val
/-- The cells of a point in a row. -/
theorem pts_at {w : World} {v : Value} {L : List Pt} (h : PtsAt w v L) (hv : ∀ p c, v ≠ .slice p 0 c) :
    ∃ g off c, v = .slice (some ⟨g, off, none⟩) L.length c ∧ g < w.heap.size ∧ ∀ k (hk : k < L.length), ∃ r : Rp, PtW w r L[k] ∧ ∀ W : World, W.heap[g]? = w.heap[g]? →
      W.cell? ⟨g, off + k * 3, none⟩ = some (.int .i64 r.id) ∧ W.cell? ⟨g, off + k * 3 + 1, none⟩ = some (slv r.v) ∧ W.cell? ⟨g, off + k * 3 + 2, none⟩ = some (slv r.f) := by
  obtain ⟨R, h1, h2, h3⟩ := h
  rcases h1 with ⟨rfl, p, c, rfl⟩ | ⟨g, off, c, rfl, hg, hc⟩
  · exact absurd rfl (hv p c)
  · refine ⟨g, off, c, by rw [h2], hg, fun k hk => ?_⟩
    have hk' : k < R.length := by omega
    exact ⟨R[k], h3 k hk' hk, fun W hW => ⟨hc W hW k hk' 0 _ rfl, hc W hW k hk' 1 _ rfl, hc W hW k hk' 2 _ rfl⟩⟩
theorem int_lessV {n k : Nat} (h : k < n) : n - (RowKit.intOf (.int .i64 ((k + 1 : Nat) : Int))).toNat < n - (RowKit.intOf (.int .i64 (k : Int))).toNat := by
  simp only [RowKit.intOf, Int.toNat_natCast]; omega
end Px
end Go.Proofs.YtclmalaomofahaaGreatDoor
