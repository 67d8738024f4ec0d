/- How a record, and a row of texts, that come in as arguments are read. Conditions: those that each theorem names. -/
import Derived.Test.YtifghohaelmjjabDoorRowI
import Derived.OpenShut
import Derived.SizedLaws
import Derived.Lib.SmallJoins
import Derived.ChangeOld
import Derived.SliceStrings
namespace Go.Proofs.YtifghohaelmjjabDoor
set_option linter.unusedVariables false
open Go Go.ChangeShapes Go.WideShapes Go.ChangeAt Go.RowKit Go.Joins Go.Deep
/-- A row of texts. -/
def StrsAt (w : World) (v : Value) (L : List ByteArray) : Prop :=
  (L = [] ∧ ∃ p c, v = .slice p 0 c) ∨ ∃ g off c, v = .slice (some ⟨g, off, none⟩) L.length c ∧ g < w.heap.size ∧
    ∀ W : World, W.heap[g]? = w.heap[g]? → ∀ j (h : j < L.length), W.cell? ⟨g, off + j, none⟩ = some (.string L[j])
theorem StrsAt.below {w w' : World} {v : Value} {L : List ByteArray} (h : StrsAt w v L) (g : Below w.heap.size w w') : StrsAt w' v L := by
  rcases h with h | ⟨b, off, c, rfl, hb, hc⟩
  · exact .inl h
  · exact .inr ⟨b, off, c, rfl, Nat.lt_of_lt_of_le hb g.size, fun W hW => hc W (hW.trans (g.block b hb))⟩
theorem StrsAt.form {w : World} {v : Value} {L : List ByteArray} (h : StrsAt w v L) : ∃ p c, v = .slice p L.length c := by
  rcases h with ⟨rfl, p, c, rfl⟩ | ⟨g, off, c, rfl, hg, _⟩
  · exact ⟨p, c, rfl⟩
  · exact ⟨_, c, rfl⟩
section
variable {H : Type} {enc : TypeId × Value → H} {W : World} {base : Nat} {b0 : Nat} {r : Reach}
set_option maxRecDepth 100000 in
theorem open_texts {fuel : Nat} {cs : List Value} {x : DataW H × List MemPlace} (h : DataW.trod enc Tryd.prog W base (fun _ => true) true fuel 22 cs = some x) :
    ∃ (v : Value) (L : List ByteArray), cs = [v] ∧ StrsAt W v L ∧ L.length ≤ maxLen ∧ (∀ s ∈ L, s.size ≤ maxLen) ∧ ((x.1 = .nil ∧ L = []) ∨ ∃ rest, x.1 = .slice (strs L) rest) := by
  rcases open_strings Tryd.underlying22 Tryd.underlying9 (by kernel_rfl) h with ⟨hcs, hx⟩ | ⟨a, len, cap, ss, hcs, _, hl, hm, hz, hx, hcell, hsz⟩
  · exact ⟨_, [], hcs, .inl ⟨rfl, none, 0, rfl⟩, by simp, by simp, .inl ⟨by rw [hx], rfl⟩⟩
  · simp only [if_true] at hz
    have hlt : (ss.take len).length = len := by simp; omega
    rcases Nat.eq_zero_or_pos len with h0 | hpos
    · subst h0
      exact ⟨_, [], hcs, .inl ⟨rfl, some a, cap, rfl⟩, by simp, by simp, .inr ⟨_, by rw [hx]; rfl⟩⟩
    · have hsome := hcell 0 (by omega)
      have hsp : a.spot = none := by
        cases hs : a.spot with
        | none => rfl
        | some q =>
          simp [World.cell?, Addr.add, hs] at hsome
          split at hsome <;> simp at hsome
      obtain ⟨g, off, sp⟩ := a
      simp only at hsp
      subst hsp
      have hg : g < W.heap.size := by
        rcases Nat.lt_or_ge g W.heap.size with hlt | hge
        · exact hlt
        · simp [World.cell?, Addr.add, Array.getElem?_eq_none hge] at hsome
      refine ⟨_, ss.take len, hcs, .inr ⟨g, off, cap, by rw [hlt], hg, fun W' hW' j hj => ?_⟩, by omega, fun s hs => hsz s (List.mem_of_mem_take hs), .inr ⟨_, by rw [hx]⟩⟩
      have hj' : j < ss.length := by simp at hj; omega
      have := hcell j hj'
      have hjl : (ss.take len)[j] = ss.getD j ByteArray.empty := by simp [List.getD, List.getElem?_eq_getElem hj']
      rw [hjl]
      have ha : (⟨g, off, none⟩ : Addr).add j = ⟨g, off + j, none⟩ := by unfold Addr.add; split <;> simp_all
      rw [ha] at this
      unfold World.cell? at this ⊢
      simp only [hW']
      exact this
set_option maxRecDepth 100000 in
theorem open_rec {v : Value} {d : DataW H} {p : List MemPlace} (hv : Value.okWide Tryd.prog W r b0 36 v) (h : DataW.Trod enc Tryd.prog W base (fun _ => true) true 36 v d p) :
    ∃ (q : Int) (b : ByteArray), v = .agg #[.int .i64 q, .string b] ∧ d = .agg [.lit (.int .i64 q), .lit (.string b.data.toList)] ∧ (Lit.int .i64 q).wf = true ∧ b.size ≤ maxLen := by
  obtain ⟨v0, v1, y0, y1, n, rfl, rfl, _, h0, h1⟩ := open_agg2 Tryd.underlying36 (by kernel_rfl) (by kernel_rfl) hv h
  obtain ⟨k, hk, hy, hk'⟩ := DataW.trod_int Tryd.underlying3 h0
  obtain rfl : v0 = .int .i64 k := by simpa using hk
  obtain ⟨s, hs, hy1, hsl⟩ := DataW.trod_string Tryd.underlying9 h1
  obtain rfl : v1 = .string s := by simpa using hs
  subst hy hy1
  exact ⟨k, s, rfl, rfl, hk', hsl⟩
set_option maxRecDepth 100000 in
theorem sized_rec {ts : List TypeId} {ds : List (DataW H)} {q : Int} {b : List UInt8} (h : (DataW.weightsEach Tryd.prog ts ds).all (· ≤ reachBytes) = true) {j : Nat} (ht : ts[j]? = some 36) (hd : ds[j]? = some (.agg [.lit (.int .i64 q), .lit (.string b)])) :
    b.length ≤ reachBytes := by
  have hu := Tryd.underlying36
  have h1 := List.all_eq_true.1 h _ (DataW.weights_mem_each ht hd b.length (by simp [DataW.weights, DataW.weightsEach, hu]))
  simpa using h1
end
end Go.Proofs.YtifghohaelmjjabDoor
