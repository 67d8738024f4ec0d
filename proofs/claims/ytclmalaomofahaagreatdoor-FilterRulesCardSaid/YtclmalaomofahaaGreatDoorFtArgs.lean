/- How a condition that comes in as an argument is read, however deep. Conditions: those that each theorem names. -/
import Derived.Test.YtclmalaomofahaaGreatDoorPxArgs
import Derived.Test.YtclmalaomofahaaGreatDoorFtL
import Derived.SliceStrings
namespace Go.Proofs.YtclmalaomofahaaGreatDoor
set_option linter.unusedVariables false
open Go Go.ChangeShapes Go.WideShapes Go.ChangeAt Go.RowKit Go.Joins Go.Deep
namespace Ft
open Pq Pq.Pl Px
abbrev NoV (w : World) : Prop := True
theorem lt_plain {W : World} {g off : Nat} {v : Value} (h : W.cell? ⟨g, off, none⟩ = some v) : g < W.heap.size := by
  rcases Nat.lt_or_ge g W.heap.size with hlt | hge
  · exact hlt
  · simp [World.cell?, Array.getElem?_eq_none hge] at h
theorem add_plain (g off j : Nat) : (⟨g, off, none⟩ : Addr).add j = ⟨g, off + j, none⟩ := by unfold Addr.add; split <;> simp_all
theorem okl {L : List Pt} (h : OkA L) : OkL L := ⟨by have := h.len; omega, fun p hp => (h.ok p hp).flds⟩
section
variable {H : Type} {enc : TypeId × Value → H} {W : World} {base : Nat}
set_option maxRecDepth 100000 in
/-- A condition, however deep. -/
theorem open_cs : ∀ (m : Nat) {cs : List Value} {x : DataW H × List MemPlace}, DataW.trod enc Tryz.prog W base (fun _ => true) true m 26 cs = some x →
    ∃ (c : Cd) (r : Rc), cs = encC r ∧ CdW (fun _ => True) W c r ∧ ((∀ n ∈ x.1.weights Tryz.prog 26, n ≤ reachBytes) → Big c) := by
  intro m
  induction m using Nat.strongRecOn with
  | _ m ih =>
    intro cs x h
    have hr : reachBytes ≤ Room := by unfold Room reachBytes; omega
    have hI : Tryz.prog.cellsOf 3 = 1 := by kernel_rfl
    have hS : Tryz.prog.cellsOf 9 = 1 := by kernel_rfl
    have hV : Tryz.prog.cellsOf 23 = 3 := by kernel_rfl
    have hL : Tryz.prog.cellsOf 24 = 1 := by kernel_rfl
    have hc : Tryz.prog.cellsOf 26 = 8 := by kernel_rfl
    obtain ⟨xs, n, hmn, rfl, hl, hlen, hf⟩ := DataW.trod_struct Tryz.underlying26 h
    rw [hc] at hl
    match cs, hl, xs, hlen with
    | [c0, c1, c2, c3, c4, c5, c6, c7], _, [y0, y1, y2, y3, y4, y5], _ =>
      have h0 : DataW.trod enc Tryz.prog W base (fun _ => true) true n 3 [c0] = some y0 := by simpa [hI] using hf 0 _ rfl
      have h1 : DataW.trod enc Tryz.prog W base (fun _ => true) true n 9 [c1] = some y1 := by simpa [hI, hS] using hf 1 _ rfl
      have h2 : DataW.trod enc Tryz.prog W base (fun _ => true) true n 23 [c2, c3, c4] = some y2 := by simpa [hI, hS, hV] using hf 2 _ rfl
      have h3 : DataW.trod enc Tryz.prog W base (fun _ => true) true n 3 [c5] = some y3 := by simpa [hI, hS, hV] using hf 3 _ rfl
      have h4 : DataW.trod enc Tryz.prog W base (fun _ => true) true n 3 [c6] = some y4 := by simpa [hI, hS, hV] using hf 4 _ rfl
      have h5 : DataW.trod enc Tryz.prog W base (fun _ => true) true n 24 [c7] = some y5 := by simpa [hI, hS, hV, hL] using hf 5 _ rfl
      obtain ⟨a, ha, ha', wa⟩ := DataW.trod_int Tryz.underlying3 h0
      obtain ⟨nm, hnm, hnm', hnm''⟩ := DataW.trod_string Tryz.underlying9 h1
      obtain ⟨v, hv, hvd, _, _⟩ := trod_val h2
      obtain ⟨lo, hlo, hlo', wlo⟩ := DataW.trod_int Tryz.underlying3 h3
      obtain ⟨hi, hhi, hhi', whi⟩ := DataW.trod_int Tryz.underlying3 h4
      obtain rfl : c0 = .int .i64 a := by simpa using ha
      obtain rfl : c1 = .string nm := by simpa using hnm
      obtain rfl : c5 = .int .i64 lo := by simpa using hlo
      obtain rfl : c6 = .int .i64 hi := by simpa using hhi
      injection hv with e1 hv
      injection hv with e2 hv
      injection hv with e3 hv
      subst e1 e2 e3
      have hpart : ∀ (i : Nat) (t : TypeId) (y : DataW H × List MemPlace), [3, 9, 23, 3, 3, 24][i]? = some t → [y0, y1, y2, y3, y4, y5][i]? = some y → (∀ n ∈ (DataW.agg ([y0, y1, y2, y3, y4, y5].map (·.1))).weights Tryz.prog 26, n ≤ reachBytes) → ∀ n ∈ y.1.weights Tryz.prog t, n ≤ reachBytes := by
        intro i t y ht hy hall n hn
        refine hall n ?_
        have e : (DataW.agg ([y0, y1, y2, y3, y4, y5].map (·.1))).weights Tryz.prog 26 = DataW.weightsEach Tryz.prog [3, 9, 23, 3, 3, 24] ([y0, y1, y2, y3, y4, y5].map (·.1)) := by
          simp [DataW.weights, Tryz.underlying26]
        rw [e]
        exact DataW.weights_mem_each ht (by rw [List.getElem?_map, hy]; rfl) n hn
      have hkids : ∃ (s : Sl) (R : List Rc) (l : List Cd), c7 = .slice s.p s.n s.c ∧ Rk.RowAt encC 8 W (.slice s.p s.n s.c) R ∧ KidsW (fun _ => True) W l R ∧ ((∀ n ∈ y5.1.weights Tryz.prog 24, n ≤ reachBytes) → l.length * 96 ≤ reachBytes ∧ BigL l) := by
        rcases DataW.trod_slice Tryz.underlying24 h5 with ⟨hcs, hx⟩ | ⟨a, len, cap, elems, rest, n', hn', hcs, hx, hb, hl, hm, hlen, hel, _, _⟩
        · exact ⟨⟨none, 0, 0⟩, [], [], by simpa using hcs, .inl ⟨rfl, _, _, rfl⟩, by unfold KidsW; rfl, fun _ => ⟨Nat.zero_le _, by unfold BigL; trivial⟩⟩
        · rw [hc] at hel
          rcases Nat.eq_zero_or_pos len with h0 | hpos
          · subst h0
            exact ⟨⟨some a, 0, cap⟩, [], [], by simpa using hcs, .inl ⟨rfl, _, _, rfl⟩, by unfold KidsW; rfl, fun _ => ⟨Nat.zero_le _, by unfold BigL; trivial⟩⟩
          · have each : ∀ i, ∃ f : Cd × Rc, i < len → ∃ y, elems[i]? = some y ∧ CdW (fun _ => True) W f.1 f.2 ∧ ((∀ n ∈ y.1.weights Tryz.prog 26, n ≤ reachBytes) → Big f.1) ∧ ∀ q, q < 8 → W.cell? ((a.add (i * 8)).add q) = (encC f.2)[q]? := by
              intro i
              by_cases hi : i < len
              · have he := hel i hi
                rw [List.getElem?_eq_getElem (by omega), Option.bind_eq_some_iff] at he
                obtain ⟨cs', hcs', ht⟩ := he
                obtain ⟨_, h5, hcell⟩ := World.cells?_some hcs'
                obtain ⟨c, r, rfl, hj1, hj2⟩ := ih n' (by omega) ht
                exact ⟨(c, r), fun _ => ⟨_, List.getElem?_eq_getElem (by omega), hj1, hj2, hcell⟩⟩
              · exact ⟨(noCd, default), fun c => absurd c hi⟩
            obtain ⟨F, hF⟩ := Classical.axiomOfChoice each
            obtain ⟨_, _, _, _, hz0⟩ := hF 0 hpos
            have h00 := hz0 0 (by decide)
            rw [show ((a.add (0 * 8)).add 0) = a by simp [Addr.add]] at h00
            have hsp := addr_plain h00
            obtain ⟨g, off, sp⟩ := a
            simp only at hsp
            subst hsp
            have hg := lt_plain h00
            have hadd : ∀ i j, ((⟨g, off, none⟩ : Addr).add (i * 8)).add j = ⟨g, off + i * 8 + j, none⟩ := fun i j => by rw [add_plain, add_plain]
            refine ⟨⟨some ⟨g, off, none⟩, len, cap⟩, (List.range len).map fun i => (F i).2, (List.range len).map fun i => (F i).1, by simpa using hcs, .inr ⟨g, off, cap, by simp, hg, fun W' hW' j hj i u hu => ?_⟩, KidsW.mk (by simp) fun j h1 h2 => ?_, fun hw => ⟨?_, BigL.mk fun c hc2 => ?_⟩⟩
            · have hj' : j < len := by simpa using hj
              obtain ⟨_, _, _, _, hcell⟩ := hF j hj'
              simp only [hadd] at hcell
              have e : ((List.range len).map fun i => (F i).2)[j] = (F j).2 := by simp
              rw [e] at hu
              have hi : i < 8 := (List.getElem?_eq_some_iff.1 hu).1
              rw [World.cell?_of_block (w := W) hW', hcell i hi]
              exact hu
            · have hj' : j < len := by simpa using h1
              obtain ⟨_, _, hj, _, _⟩ := hF j hj'
              have e : ((List.range len).map fun i => (F i).2)[j] = (F j).2 := by simp
              have e2 : ((List.range len).map fun i => (F i).1)[j] = (F j).1 := by simp
              rw [e, e2]
              exact hj
            · have := hw (((elems.map (·.1)).length + (rest.map (·.1)).length) * Tryz.prog.bytesOf 26) (by rw [hx]; simp [DataW.weights, Tryz.underlying24])
              rw [show Tryz.prog.bytesOf 26 = 96 by kernel_rfl] at this
              simp only [List.length_map, List.length_range] at this ⊢
              refine Nat.le_trans (Nat.mul_le_mul_right _ ?_) this
              omega
            · obtain ⟨q, hq, rfl⟩ := List.mem_map.1 hc2
              obtain ⟨y, hy, _, hbig, _⟩ := hF q (List.mem_range.1 hq)
              refine hbig fun n hn => hw n ?_
              rw [hx]
              simp only [DataW.weights, Tryz.underlying24, List.mem_cons, List.mem_append]
              exact .inr (.inl (wAll_mem (List.mem_map_of_mem (List.mem_of_getElem? hy)) n hn))
      obtain ⟨s, R, l, rfl, hrow, hkat, hkw⟩ := hkids
      refine ⟨.mk a nm v lo hi l, ⟨a, nm, v, lo, hi, s⟩, rfl, ?_, fun hall => ?_⟩
      · unfold CdW
        exact ⟨rfl, rfl, rfl, rfl, rfl, R, hrow, fun _ _ _ => trivial, hkat⟩
      · have w1 := hpart 1 _ y1 rfl rfl hall nm.data.toList.length (by rw [hnm']; simp [DataW.weights])
        have w2 := hpart 2 _ y2 rfl rfl hall v.text.data.toList.length (by rw [hvd]; simp [valD, DataW.weights, DataW.weightsEach, Tryz.underlying23])
        obtain ⟨w4, w5⟩ := hkw (hpart 5 _ y5 rfl rfl hall)
        rw [Array.length_toList] at w1 w2
        unfold Big
        exact ⟨Nat.le_trans w1 hr, Nat.le_trans w2 hr, by unfold reachBytes at w4; omega, w5⟩
set_option maxRecDepth 100000 in
/-- A condition that comes in as an argument. -/
theorem open_cd {r : Reach} {b0 : Nat} {v : Value} {d : DataW H} {p : List MemPlace} (hv : Value.okWide Tryz.prog W r b0 26 v) (h : DataW.Trod enc Tryz.prog W base (fun _ => true) true 26 v d p) :
    ∃ (c : Cd) (x : Rc), v = cv x ∧ CdW (fun _ => True) W c x ∧ ((∀ n ∈ d.weights Tryz.prog 26, n ≤ reachBytes) → Big c) := by
  obtain ⟨cs, rfl, _⟩ := okWide_struct Tryz.underlying26 hv
  obtain ⟨fuel, hf⟩ := h
  obtain ⟨c, x, h0, h1, h2⟩ := open_cs fuel hf
  refine ⟨c, x, ?_, h1, h2⟩
  have e : cs = (Value.agg cs).cells.toList.toArray := by simp [Value.cells]
  rw [e, h0]
  rfl
set_option maxRecDepth 100000 in
theorem sized_cd {ts : List TypeId} {ds : List (DataW H)} {d : DataW H} {c : Cd} (h : (DataW.weightsEach Tryz.prog ts ds).all (· ≤ reachBytes) = true) {j : Nat} (ht : ts[j]? = some 26) (hd : ds[j]? = some d)
    (hb : (∀ n ∈ d.weights Tryz.prog 26, n ≤ reachBytes) → Big c) : Big c :=
  hb fun n hn => by simpa using List.all_eq_true.1 h _ (DataW.weights_mem_each ht hd n hn)
set_option maxRecDepth 100000 in
/-- A point that comes in as an argument. -/
theorem open_p {r : Reach} {b0 : Nat} {v : Value} {d : DataW H} {p : List MemPlace} (hv : Value.okWide Tryz.prog W r b0 30 v) (h : DataW.Trod enc Tryz.prog W base (fun _ => true) true 30 v d p) :
    ∃ (x : Pt) (y : Rp), v = .agg #[.int .i64 y.id, .slice y.v.p y.v.n y.v.c, .slice y.f.p y.f.n y.f.c] ∧ FldsAt W (.slice y.f.p y.f.n y.f.c) x.flds ∧ PtD x d := by
  obtain ⟨cs, rfl, _⟩ := okWide_struct Tryz.underlying30 hv
  obtain ⟨fuel, hf⟩ := h
  obtain ⟨y, x, h0, h1, h2, _⟩ := trod_pt hf
  refine ⟨x, y, ?_, h1.2.2, h2⟩
  have e : cs = (Value.agg cs).cells.toList.toArray := by simp [Value.cells]
  rw [e, h0]
  rfl
set_option maxRecDepth 100000 in
theorem sized_p {ts : List TypeId} {ds : List (DataW H)} {d : DataW H} {x : Pt} (h : (DataW.weightsEach Tryz.prog ts ds).all (· ≤ reachBytes) = true) {j : Nat} (ht : ts[j]? = some 30) (hd : ds[j]? = some d) (hx : PtD x d) : FldsOk x.flds :=
  (sized_pt1 (fun n hn => by simpa using List.all_eq_true.1 h _ (DataW.weights_mem_each ht hd n hn)) hx).2.1
end
end Ft
end Go.Proofs.YtclmalaomofahaaGreatDoor
