/- How ens, and rows of ens, that come in as arguments are read. Conditions: those that each theorem names. -/
import Derived.Test.YtioidkbpjkcjeaaRnK
import Derived.OpenShut
import Derived.SizedLaws
import Derived.Lib.SmallJoins
import Derived.ChangeOld
import Derived.ChangeSlices
import Derived.ChangeSame
namespace Go.Proofs.Ytioidkbpjkcjeaa
set_option linter.unusedVariables false
open Go Go.ChangeShapes Go.WideShapes Go.ChangeAt Go.RowKit Go.Joins Go.Deep
namespace Rn
/-- Both numbers lie in their bounds. -/
def OkH (x : En) : Prop := (Lit.int .i64 x.1).wf = true ∧ (Lit.int .i64 x.2).wf = true
theorem OkH.ok {x : En} (h : OkH x) : okE x := by
  obtain ⟨h1, h2⟩ := h
  unfold okE
  simp [Lit.wf] at h1 h2
  exact ⟨h1, h2⟩
section
variable {H : Type} {enc : TypeId × Value → H} {W : World} {base : Nat} {b0 : Nat} {r : Reach}
def enD (x : En) : DataW H := .agg [.lit (.int .i64 x.1), .lit (.int .i64 x.2)]
set_option maxRecDepth 100000 in
theorem trod_en {m : Nat} {cs : List Value} {y : DataW H × List MemPlace} (h : DataW.trod enc Try.prog W base (fun _ => true) true m 24 cs = some y) :
    ∃ x : En, cs = [.int .i64 x.1, .int .i64 x.2] ∧ y.1 = enD x ∧ OkH x := by
  have hI : Try.prog.cellsOf 3 = 1 := by kernel_rfl
  have hc : Try.prog.cellsOf 24 = 2 := by kernel_rfl
  obtain ⟨y0, y1, n, rfl, hl, h0, h1⟩ := trod_struct2 Try.underlying24 h
  rw [hc] at hl
  match cs, hl with
  | [c0, c1], _ =>
    simp only [hI, List.drop_zero, List.drop_succ_cons, List.take_succ_cons, List.take_zero] at h0 h1
    obtain ⟨a, ha, ha', wa⟩ := DataW.trod_int Try.underlying3 h0
    obtain ⟨b, hb, hb', wb⟩ := DataW.trod_int Try.underlying3 h1
    obtain rfl : c0 = .int .i64 a := by simpa using ha
    obtain rfl : c1 = .int .i64 b := by simpa using hb
    subst ha' hb'
    exact ⟨(a, b), rfl, rfl, wa, wb⟩
theorem addr_plain {a : Addr} {v : Value} (h : W.cell? a = some v) : a.spot = none := by
  cases hs : a.spot with
  | none => rfl
  | some q =>
    simp [World.cell?, hs] at h
    split at h <;> simp at h
set_option maxRecDepth 100000 in
/-- A row of ens. -/
theorem open_ens {fuel : Nat} {cs : List Value} {x : DataW H × List MemPlace} (h : DataW.trod enc Try.prog W base (fun _ => true) true fuel 22 cs = some x) :
    ∃ (v : Value) (L : List En), cs = [v] ∧ HsAt W v L ∧ (∀ y ∈ L, OkH y) ∧ ((x.1 = .nil ∧ L = []) ∨ ∃ rest, x.1 = .slice (L.map enD) rest) := by
  have hc : Try.prog.cellsOf 24 = 2 := by kernel_rfl
  rcases DataW.trod_slice Try.underlying22 h with ⟨hcs, hx⟩ | ⟨a, len, cap, elems, rest, n, _, hcs, hx, hb, hl, hm, hlen, hel, _, _⟩
  · exact ⟨_, [], hcs, .inl ⟨rfl, none, 0, rfl⟩, by simp, .inl ⟨by rw [hx], rfl⟩⟩
  · rw [hc] at hel
    rcases Nat.eq_zero_or_pos len with h0 | hpos
    · subst h0
      obtain rfl : elems = [] := List.length_eq_zero_iff.mp hlen
      exact ⟨_, [], hcs, .inl ⟨rfl, some a, cap, rfl⟩, by simp, .inr ⟨_, by rw [hx]; rfl⟩⟩
    · have each : ∀ i, ∃ f : En, i < len → elems[i]?.map (·.1) = some (enD f) ∧ OkH f ∧ ∀ j, j < 2 → W.cell? ((a.add (i * 2)).add j) = [.int .i64 f.1, .int .i64 f.2][j]? := by
        intro i
        by_cases hi : i < len
        · have he := hel i hi
          rw [List.getElem?_eq_getElem (by omega), Option.bind_eq_some_iff] at he
          obtain ⟨cs', hcs', ht⟩ := he
          obtain ⟨_, _, hcell⟩ := World.cells?_some hcs'
          obtain ⟨f, rfl, hd, ok⟩ := trod_en ht
          exact ⟨f, fun _ => ⟨by rw [List.getElem?_eq_getElem (by omega)]; simp [hd], ok, hcell⟩⟩
        · exact ⟨(0, 0), fun c => absurd c hi⟩
      obtain ⟨F, hF⟩ := Classical.axiomOfChoice each
      have h00 := (hF 0 hpos).2.2 0 (by decide)
      have ha0 : ((a.add (0 * 2)).add 0) = a := by simp [Addr.add]
      rw [ha0] at h00
      have hsp := addr_plain h00
      obtain ⟨g, off, sp⟩ := a
      simp only at hsp
      subst hsp
      have hg : g < W.heap.size := by
        rcases Nat.lt_or_ge g W.heap.size with hlt | hge
        · exact hlt
        · simp [World.cell?, Array.getElem?_eq_none hge] at h00
      have hadd : ∀ i j, ((⟨g, off, none⟩ : Addr).add (i * 2)).add j = ⟨g, off + i * 2 + j, none⟩ := fun i j => by
        unfold Addr.add
        by_cases h1 : i * 2 = 0 <;> by_cases h2 : j = 0 <;> simp [h1, h2]
      refine ⟨_, (List.range len).map F, hcs, .inr ⟨g, off, cap, by simp, hg, fun W' hW' j hj => ?_⟩, fun y hy => ?_, .inr ⟨rest.map (·.1), ?_⟩⟩
      · have hj' : j < len := by simpa using hj
        have hc := (hF j hj').2.2
        simp only [hadd] at hc
        have e : ((List.range len).map F)[j] = F j := by simp
        rw [e]
        have turn : ∀ i v, W.cell? ⟨g, i, none⟩ = some v → W'.cell? ⟨g, i, none⟩ = some v := fun i v hv => by
          rw [← hv]; exact World.cell?_of_block (w := W) hW'
        exact ⟨turn _ _ (hc 0 (by decide)), turn _ _ (hc 1 (by decide))⟩
      · obtain ⟨i, hi, rfl⟩ := List.mem_map.1 hy
        exact (hF i (List.mem_range.1 hi)).2.1
      · rw [hx]
        have e : elems.map (·.1) = ((List.range len).map F).map enD := by
          apply List.ext_getElem?
          intro i
          rcases Nat.lt_or_ge i len with hi | hi
          · rw [List.getElem?_map, (hF i hi).1]
            simp [hi]
          · rw [List.getElem?_eq_none (by simp; omega), List.getElem?_eq_none (by simp; omega)]
        simp only [e]
set_option maxRecDepth 100000 in
theorem sized_ens {ts : List TypeId} {ds : List (DataW H)} {L : List En} {d : DataW H} (h : (DataW.weightsEach Try.prog ts ds).all (· ≤ reachBytes) = true) {j : Nat} (ht : ts[j]? = some 22) (hd : ds[j]? = some d)
    (hL : (d = .nil ∧ L = []) ∨ ∃ rest, d = .slice (L.map enD) rest) : L.length * 16 ≤ 140737488351232 := by
  rcases hL with ⟨_, rfl⟩ | ⟨rest, rfl⟩
  · simp
  · have h1 := sized_slice h ht hd Try.underlying22
    rw [show Try.prog.bytesOf 24 = 16 by kernel_rfl] at h1
    simp only [List.length_map, reachBytes] at h1
    omega
end
end Rn
end Go.Proofs.Ytioidkbpjkcjeaa
