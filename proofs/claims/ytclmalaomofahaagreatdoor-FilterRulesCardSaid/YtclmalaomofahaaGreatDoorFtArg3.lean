/- How three conditions that come in as one argument are read. Conditions: those that each theorem names. -/
import Derived.Test.YtclmalaomofahaaGreatDoorFtArgs
import Derived.Test.YtclmalaomofahaaGreatDoorFtY
namespace Go.Proofs.YtclmalaomofahaaGreatDoor
set_option linter.unusedVariables false
open Go Go.ChangeShapes Go.WideShapes Go.ChangeAt Go.RowKit Go.Joins Go.Deep
namespace Ft
open Pq Pq.Pl Px
section
variable {H : Type} {enc : TypeId × Value → H} {W : World} {base : Nat}
set_option maxRecDepth 100000 in
/-- Three conditions that come in as one argument. -/
theorem open_cd3 {r : Reach} {b0 : Nat} {v : Value} {d : DataW H} {p : List MemPlace} (hv : Value.okWide Tryz.prog W r b0 41 v) (h : DataW.Trod enc Tryz.prog W base (fun _ => true) true 41 v d p) :
    ∃ (ca cb cc : Cd) (a b c : Rc), v = cv3 a b c ∧ CdW (fun _ => True) W ca a ∧ CdW (fun _ => True) W cb b ∧ CdW (fun _ => True) W cc c ∧ ((∀ n ∈ d.weights Tryz.prog 41, n ≤ reachBytes) → Big ca ∧ Big cb ∧ Big cc) := by
  obtain ⟨n, hn⟩ := h
  have hu : Tryz.prog.underlying 41 = some (.array 3 26) := Tryz.underlying41
  have hc : Tryz.prog.cellsOf 41 = 24 := by kernel_rfl
  have hc1 : Tryz.prog.cellsOf 26 = 8 := by kernel_rfl
  unfold Value.okWide at hv
  rw [hu] at hv
  obtain ⟨cs, rfl, hsz, _⟩ := hv
  rw [hc] at hsz
  obtain ⟨l, rfl⟩ : ∃ l : List Value, cs = l.toArray := ⟨cs.toList, by simp⟩
  have hl : l.length = 24 := by simpa using hsz
  obtain ⟨xs, m, _, hx, _, hlen, hel⟩ := DataW.trod_array hu hn
  rw [hc1] at hel
  have e0 := hel 0 (by decide)
  have e1 := hel 1 (by decide)
  have e2 := hel 2 (by decide)
  match xs, hlen with
  | [y0, y1, y2], _ =>
    simp only [Value.cells] at e0 e1 e2
    obtain ⟨ca, a, h0, ha, ba⟩ := open_cs m e0
    obtain ⟨cb, b, h1, hb, bb⟩ := open_cs m e1
    obtain ⟨cc, c, h2, hcc, bc⟩ := open_cs m e2
    have hL : l = encC a ++ (encC b ++ encC c) := by
      have k1 : l = l.take 8 ++ l.drop 8 := (List.take_append_drop 8 l).symm
      have k2 : l.drop 8 = (l.drop 8).take 8 ++ l.drop 16 := by
        have := (List.take_append_drop 8 (l.drop 8)).symm
        rwa [List.drop_drop] at this
      have k3 : l.drop 16 = (l.drop 16).take 8 := by rw [List.take_of_length_le (by simp; omega)]
      simp at h0 h1 h2
      rw [k1, k2, k3, h0, h1, h2]
    refine ⟨ca, cb, cc, a, b, c, by rw [hL]; rfl, ha, hb, hcc, fun hw => ?_⟩
    have key : ∀ y ∈ [y0, y1, y2], ∀ n ∈ y.1.weights Tryz.prog 26, n ≤ reachBytes := fun y hy n hn' => by
      refine hw n ?_
      have hd : d = .agg ([y0, y1, y2].map (·.1)) := by
        have := congrArg (·.1) hx
        simpa using this
      rw [hd]
      simp only [DataW.weights, hu]
      exact wAll_mem (List.mem_map_of_mem hy) n hn'
    exact ⟨ba (key y0 (by simp)), bb (key y1 (by simp)), bc (key y2 (by simp))⟩
set_option maxRecDepth 100000 in
theorem sized_cd3 {ts : List TypeId} {ds : List (DataW H)} {d : DataW H} {ca cb cc : Cd} (h : (DataW.weightsEach Tryz.prog ts ds).all (· ≤ reachBytes) = true) {j : Nat} (ht : ts[j]? = some 41) (hd : ds[j]? = some d)
    (hb : (∀ n ∈ d.weights Tryz.prog 41, n ≤ reachBytes) → Big ca ∧ Big cb ∧ Big cc) : Big ca ∧ Big cb ∧ Big cc :=
  hb fun n hn => by simpa using List.all_eq_true.1 h _ (DataW.weights_mem_each ht hd n hn)
end
end Ft
end Go.Proofs.YtclmalaomofahaaGreatDoor
