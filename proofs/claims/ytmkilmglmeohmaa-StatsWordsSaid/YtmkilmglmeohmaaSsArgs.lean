/- How rows of texts, rows of numbers, two numbers that come in as arguments are read. Conditions: those that each theorem names. -/
import Derived.Test.YtmkilmglmeohmaaSsF
import Derived.Test.YtmkilmglmeohmaaRows
import Derived.OpenShut
import Derived.SizedLaws
import Derived.Lib.SmallJoins
import Derived.ChangeOld
import Derived.ChangeSlices
import Derived.ChangeSame
import Derived.SliceStrings
namespace Go.Proofs.Ytmkilmglmeohmaa
set_option linter.unusedVariables false
open Go Go.ChangeShapes Go.WideShapes Go.ChangeAt Go.RowKit Go.Joins Go.Deep
namespace Ss
section
variable {H : Type} {enc : TypeId × Value → H} {W : World} {base : Nat} {b0 : Nat} {r : Reach}
theorem addr_plain {a : Addr} {v : Value} (h : W.cell? a = some v) : a.spot = none := by
  cases hs : a.spot with
  | none => rfl
  | some q =>
    simp [World.cell?, hs] at h
    split at h <;> simp at h
theorem lt_plain {g off : Nat} {v : Value} (h : W.cell? ⟨g, off, none⟩ = some v) : g < W.heap.size := by
  rcases Nat.lt_or_ge g W.heap.size with hlt | hge
  · exact hlt
  · simp [World.cell?, Array.getElem?_eq_none hge] at h
theorem add_plain (g off j : Nat) : (⟨g, off, none⟩ : Addr).add j = ⟨g, off + j, none⟩ := by unfold Addr.add; split <;> simp_all
set_option maxRecDepth 100000 in
/-- A row of texts. -/
theorem open_txs {fuel : Nat} {cs : List Value} {x : DataW H × List MemPlace} (h : DataW.trod enc Try.prog W base (fun _ => true) true fuel 23 cs = some x) :
    ∃ (v : Value) (L : List ByteArray), cs = [v] ∧ TxtsAt W v L ∧ (∀ s ∈ L, s.size ≤ maxLen) ∧ ((x.1 = .nil ∧ L = []) ∨ ∃ rest, x.1 = .slice (strs L) rest) := by
  rcases open_strings Try.underlying23 Try.underlying9 (by kernel_rfl) h with ⟨hcs, hx⟩ | ⟨a, len, cap, ss, hcs, _, hl, hm, hz, hx, hcell, hsz⟩
  · exact ⟨_, [], hcs, .inl ⟨rfl, none, 0, rfl⟩, by simp, .inl ⟨by rw [hx], rfl⟩⟩
  · simp only [if_true] at hz
    have hlt : (ss.take len).length = len := by simp; omega
    rcases Nat.eq_zero_or_pos len with h0 | hpos
    · subst h0
      exact ⟨_, [], hcs, .inl ⟨rfl, some a, cap, rfl⟩, by simp, .inr ⟨_, by rw [hx]; rfl⟩⟩
    · have hsome := hcell 0 (by omega)
      have ha0 : a.add 0 = a := by simp [Addr.add]
      rw [ha0] at hsome
      have hsp := addr_plain hsome
      obtain ⟨g, off, sp⟩ := a
      simp only at hsp
      subst hsp
      have hg := lt_plain hsome
      refine ⟨_, ss.take len, hcs, .inr ⟨g, off, cap, by rw [hlt], hg, fun W' hW' j hj i u hu => ?_⟩, fun s hs => hsz s (List.mem_of_mem_take hs), .inr ⟨_, by rw [hx]⟩⟩
      have hi : i = 0 := by
        have := (List.getElem?_eq_some_iff.1 hu).1
        simpa [encT] using this
      subst hi
      have hu' : u = .string (ss.take len)[j] := by simpa [encT] using hu.symm
      subst hu'
      have hj' : j < ss.length := by simp at hj; omega
      have := hcell j hj'
      have hjl : (ss.take len)[j] = ss.getD j ByteArray.empty := by simp [List.getD, List.getElem?_eq_getElem hj']
      rw [hjl, Nat.mul_one, Nat.add_zero]
      rw [add_plain] at this
      unfold World.cell? at this ⊢
      simp only [hW']
      exact this
set_option maxRecDepth 100000 in
theorem sized_txs {ts : List TypeId} {ds : List (DataW H)} {L : List ByteArray} {d : DataW H} (h : (DataW.weightsEach Try.prog ts ds).all (· ≤ reachBytes) = true) {j : Nat} (ht : ts[j]? = some 23) (hd : ds[j]? = some d)
    (hL : (d = .nil ∧ L = []) ∨ ∃ rest, d = .slice (strs L) rest) : L.length * 16 ≤ 140737488351232 := by
  rcases hL with ⟨_, rfl⟩ | ⟨rest, rfl⟩
  · simp
  · have h1 := sized_slice h ht hd Try.underlying23
    rw [show Try.prog.bytesOf 9 = 16 by kernel_rfl] at h1
    simp only [strs, List.length_map, reachBytes] at h1
    omega
theorem bulk_strs : ∀ L : List ByteArray, Rows.uptoBulkAll (strs (H := H) L) = (L.map fun s => s.size + 1).sum
  | [] => rfl
  | s :: L => by
    have := bulk_strs L
    simp only [strs] at this
    simp only [strs, List.map_cons, Rows.uptoBulkAll, Rows.uptoBulk, this, List.sum_cons]
    rw [show s.data.toList.length = s.size by rw [Array.length_toList]; rfl]
theorem sum_len : ∀ L : List ByteArray, L.length ≤ (L.map fun s => s.size + 1).sum
  | [] => Nat.le_refl _
  | s :: L => by have := sum_len L; simp only [List.map_cons, List.sum_cons, List.length_cons]; omega
theorem bulk_txs {d : DataW H} {L : List ByteArray} (h : (d = .nil ∧ L = []) ∨ ∃ rest, d = .slice (strs L) rest) : L.length ≤ Rows.uptoBulk d := by
  rcases h with ⟨_, rfl⟩ | ⟨rest, rfl⟩
  · exact Nat.zero_le _
  · have := sum_len L
    simp only [Rows.uptoBulk, bulk_strs]
    omega
/-- Both bounds of an integer. -/
abbrev In64 (x : Int) : Prop := -9223372036854775808 ≤ x ∧ x ≤ 9223372036854775807
theorem in64_of {x : Int} (w : (Lit.int .i64 x).wf = true) : In64 x := by simpa [Lit.wf, show IntKind.i64.min = -9223372036854775808 from rfl] using w
set_option maxRecDepth 100000 in
/-- A row of numbers. -/
theorem open_nums {fuel : Nat} {cs : List Value} {x : DataW H × List MemPlace} (h : DataW.trod enc Try.prog W base (fun _ => true) true fuel 22 cs = some x) :
    ∃ (v : Value) (L : List Int), cs = [v] ∧ IntsAt W v L ∧ (∀ y ∈ L, In64 y) ∧ ((x.1 = .nil ∧ L = []) ∨ ∃ rest, x.1 = .slice (lits .i64 L) rest) := by
  rcases open_ints Try.underlying22 Try.underlying3 (by kernel_rfl) h with ⟨hcs, hx⟩ | ⟨a, len, cap, zs, hcs, _, hl, hm, hz, hx, hcell, hwz⟩
  · exact ⟨_, [], hcs, .inl ⟨rfl, none, 0, rfl⟩, by simp, .inl ⟨by rw [hx], rfl⟩⟩
  · simp only [if_true] at hz
    have hlt : (zs.take len).length = len := by simp; omega
    rcases Nat.eq_zero_or_pos len with h0 | hpos
    · subst h0
      exact ⟨_, [], hcs, .inl ⟨rfl, some a, cap, rfl⟩, by simp, .inr ⟨_, by rw [hx]; rfl⟩⟩
    · have hsome := hcell 0 (by omega)
      have ha0 : a.add 0 = a := by simp [Addr.add]
      rw [ha0] at hsome
      have hsp := addr_plain hsome
      obtain ⟨g, off, sp⟩ := a
      simp only at hsp
      subst hsp
      have hg := lt_plain hsome
      refine ⟨_, zs.take len, hcs, .inr ⟨g, off, cap, by rw [hlt], hg, fun W' hW' j hj => ?_⟩, fun s hs => in64_of (hwz s (List.mem_of_mem_take hs)), .inr ⟨_, by rw [hx]⟩⟩
      have hj' : j < zs.length := by simp at hj; omega
      have := hcell j hj'
      have hjl : (zs.take len)[j] = zs.getD j 0 := by simp [List.getD, List.getElem?_eq_getElem hj']
      rw [hjl]
      rw [add_plain] at this
      unfold World.cell? at this ⊢
      simp only [hW']
      exact this
set_option maxRecDepth 100000 in
theorem sized_nums {ts : List TypeId} {ds : List (DataW H)} {L : List Int} {d : DataW H} (h : (DataW.weightsEach Try.prog ts ds).all (· ≤ reachBytes) = true) {j : Nat} (ht : ts[j]? = some 22) (hd : ds[j]? = some d)
    (hL : (d = .nil ∧ L = []) ∨ ∃ rest, d = .slice (lits .i64 L) rest) : L.length * 8 ≤ 140737488351232 := by
  rcases hL with ⟨_, rfl⟩ | ⟨rest, rfl⟩
  · simp
  · have h1 := sized_slice h ht hd Try.underlying22
    rw [show Try.prog.bytesOf 3 = 8 by kernel_rfl] at h1
    simp only [lits, List.length_map, reachBytes] at h1
    omega
theorem bulk_lits : ∀ zs : List Int, Rows.uptoBulkAll (lits (H := H) .i64 zs) = zs.length
  | [] => rfl
  | z :: zs => by
    have := bulk_lits zs
    simp only [lits] at this
    simp only [lits, List.map_cons, Rows.uptoBulkAll, Rows.uptoBulk, this, List.length_cons]
    omega
theorem bulk_nums {d : DataW H} {L : List Int} (h : (d = .nil ∧ L = []) ∨ ∃ rest, d = .slice (lits .i64 L) rest) : L.length ≤ Rows.uptoBulk d := by
  rcases h with ⟨_, rfl⟩ | ⟨rest, rfl⟩
  · exact Nat.zero_le _
  · simp only [Rows.uptoBulk, bulk_lits]
    omega
set_option maxRecDepth 100000 in
theorem open_ints2 {v : Value} {d : DataW H} {p : List MemPlace} (hv : Value.okWide Try.prog W r b0 32 v) (h : DataW.Trod enc Try.prog W base (fun _ => true) true 32 v d p) :
    ∃ a b : Int, v = .agg #[.int .i64 a, .int .i64 b] ∧ d = .agg [.lit (.int .i64 a), .lit (.int .i64 b)] ∧ In64 a ∧ In64 b := by
  obtain ⟨n, hn⟩ := h
  have hu : Try.prog.underlying 32 = some (.array 2 3) := Try.underlying32
  have hc : Try.prog.cellsOf 32 = 2 := by kernel_rfl
  have hc1 : Try.prog.cellsOf 3 = 1 := by kernel_rfl
  unfold Value.okWide at hv
  rw [hu] at hv
  obtain ⟨cs, rfl, hsz, _⟩ := hv
  rw [hc] at hsz
  obtain ⟨c0, c1, rfl⟩ := array2 hsz
  obtain ⟨xs, m, _, hx, _, hlen, hel⟩ := DataW.trod_array hu hn
  rw [hc1] at hel
  have e0 := hel 0 (by decide)
  have e1 := hel 1 (by decide)
  match xs, hlen with
  | [y0, y1], _ =>
    simp [Value.cells] at e0 e1
    obtain ⟨a, h0, h0', w0⟩ := DataW.trod_int Try.underlying3 e0
    obtain ⟨b, h1, h1', w1⟩ := DataW.trod_int Try.underlying3 e1
    obtain rfl : c0 = .int .i64 a := by simpa using h0
    obtain rfl : c1 = .int .i64 b := by simpa using h1
    subst h0' h1'
    simp at hx
    exact ⟨a, b, rfl, hx.1, in64_of w0, in64_of w1⟩
end
end Ss
end Go.Proofs.Ytmkilmglmeohmaa
