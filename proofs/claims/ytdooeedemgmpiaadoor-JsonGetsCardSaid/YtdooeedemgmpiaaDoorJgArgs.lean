/- How a JSON value that comes in as an argument is read, however deep. Conditions: those that each theorem names. -/
import Derived.Test.YtdooeedemgmpiaaDoorJgI
import Derived.ChangeSlices
import Derived.ChangeSame
import Derived.SliceStrings
namespace Go.Proofs.YtdooeedemgmpiaaDoor
set_option linter.unusedVariables false
open Go Go.ChangeShapes Go.WideShapes Go.ChangeAt Go.RowKit Go.Joins Go.Deep Js
namespace Jg
theorem KidsAt.mk {S : Nat → Prop} {w : World} {p : Option Addr} : ∀ {l : List J} {i : Nat}, (∀ q (h : q < l.length), ∃ g off v, p = some ⟨g, off, none⟩ ∧ S g ∧ g < w.heap.size ∧ Five w g (off + (i + q) * 5) v ∧ JAt S w l[q] v) → KidsAt S w p i l
  | [], _, _ => by unfold KidsAt; trivial
  | j :: l, i, h => by
    unfold KidsAt
    refine ⟨h 0 (Nat.succ_pos _), KidsAt.mk fun q hq => ?_⟩
    obtain ⟨g, off, v, h1, h2, h3, h4, h5⟩ := h (q + 1) (Nat.succ_lt_succ hq)
    exact ⟨g, off, v, h1, h2, h3, by rw [show i + 1 + q = i + (q + 1) by omega]; exact h4, h5⟩
theorem BigAll.mk : ∀ {l : List J}, (∀ j ∈ l, Big j) → BigAll l
  | [], _ => by unfold BigAll; trivial
  | j :: l, h => by
    unfold BigAll
    exact ⟨h j (List.mem_cons_self ..), BigAll.mk fun x hx => h x (List.mem_cons_of_mem _ hx)⟩
theorem addr_plain {W : World} {a : Addr} {v : Value} (h : W.cell? a = some v) : a.spot = none := by
  cases hs : a.spot with
  | none => rfl
  | some q =>
    simp [World.cell?, hs] at h
    split at h <;> simp at h
theorem lt_plain {W : World} {g off : Nat} {v : Value} (h : W.cell? ⟨g, off, none⟩ = some v) : g < W.heap.size := by
  rcases Nat.lt_or_ge g W.heap.size with hlt | hge
  · exact hlt
  · simp [World.cell?, Array.getElem?_eq_none hge] at h
theorem add_plain (g off j : Nat) : (⟨g, off, none⟩ : Addr).add j = ⟨g, off + j, none⟩ := by unfold Addr.add; split <;> simp_all
theorem wAll_mem {H : Type} {P : Program} {e : TypeId} : ∀ {l : List (DataW H)} {d : DataW H}, d ∈ l → ∀ n ∈ d.weights P e, n ∈ DataW.weightsAll P e l
  | x :: l, d, h, n, hn => by
    simp only [DataW.weightsAll, List.mem_append]
    rcases List.mem_cons.mp h with rfl | h
    · exact .inl hn
    · exact .inr (wAll_mem h n hn)
section
variable {H : Type} {enc : TypeId × Value → H} {W : World} {base : Nat}
set_option maxRecDepth 100000 in
/-- A row of names. -/
theorem open_ns {fuel : Nat} {cs : List Value} {x : DataW H × List MemPlace} (h : DataW.trod enc Tryd.prog W base (fun _ => true) true fuel 22 cs = some x) :
    ∃ (p : Option Addr) (c : Nat) (L : List ByteArray), cs = [.slice p L.length c] ∧ NamesAt (fun _ => True) W p L ∧ (∀ s ∈ L, s.size ≤ maxLen) ∧ ((∀ n ∈ x.1.weights Tryd.prog 22, n ≤ reachBytes) → L.length * 16 ≤ reachBytes) := by
  rcases open_strings Tryd.underlying22 Tryd.underlying9 (by kernel_rfl) h with ⟨hcs, hx⟩ | ⟨a, len, cap, ss, hcs, _, hl, hm, hz, hx, hcell, hsz⟩
  · exact ⟨none, 0, [], hcs, .inl rfl, by simp, fun _ => Nat.zero_le _⟩
  · simp only [if_true] at hz
    have hlt : (ss.take len).length = len := by simp; omega
    have hw : (∀ n ∈ x.1.weights Tryd.prog 22, n ≤ reachBytes) → (ss.take len).length * 16 ≤ reachBytes := fun hn => by
      have := hn (((strs (H := H) (ss.take len)).length + (strs (H := H) (ss.drop len)).length) * Tryd.prog.bytesOf 9) (by rw [hx]; simp [DataW.weights, Tryd.underlying22])
      rw [show Tryd.prog.bytesOf 9 = 16 by kernel_rfl] at this
      simp only [strs, List.length_map] at this
      refine Nat.le_trans ?_ this
      exact Nat.mul_le_mul_right _ (Nat.le_add_right _ _)
    rcases Nat.eq_zero_or_pos len with h0 | hpos
    · subst h0
      exact ⟨some a, cap, [], hcs, .inl rfl, by simp, fun _ => Nat.zero_le _⟩
    · have hsome := hcell 0 (by omega)
      have ha0 : a.add 0 = a := by simp [Addr.add]
      rw [ha0] at hsome
      have hsp := addr_plain hsome
      obtain ⟨g, off, sp⟩ := a
      simp only at hsp
      subst hsp
      have hg := lt_plain hsome
      refine ⟨some ⟨g, off, none⟩, cap, ss.take len, by rw [hlt]; exact hcs, .inr ⟨g, off, rfl, trivial, hg, fun W' hW' j hj => ?_⟩, fun s hs => hsz s (List.mem_of_mem_take hs), hw⟩
      have hj' : j < ss.length := by simp at hj; omega
      have := hcell j hj'
      have hjl : (ss.take len)[j] = ss.getD j ByteArray.empty := by simp [List.getD, List.getElem?_eq_getElem hj']
      rw [hjl]
      rw [add_plain] at this
      unfold World.cell? at this ⊢
      simp only [hW']
      exact this
set_option maxRecDepth 100000 in
/-- A JSON value, however deep. -/
theorem open_js : ∀ (m : Nat) {cs : List Value} {x : DataW H × List MemPlace}, DataW.trod enc Tryd.prog W base (fun _ => true) true m 25 cs = some x →
    ∃ j : J, JAt (fun _ => True) W j (.agg cs.toArray) ∧ ((∀ n ∈ x.1.weights Tryd.prog 25, n ≤ reachBytes) → Big j) := by
  intro m
  induction m using Nat.strongRecOn with
  | _ m ih =>
    intro cs x h
    have hI : Tryd.prog.cellsOf 3 = 1 := by kernel_rfl
    have hS : Tryd.prog.cellsOf 9 = 1 := by kernel_rfl
    have hN : Tryd.prog.cellsOf 22 = 1 := by kernel_rfl
    have hL : Tryd.prog.cellsOf 23 = 1 := by kernel_rfl
    have hc : Tryd.prog.cellsOf 25 = 5 := by kernel_rfl
    obtain ⟨xs, n, hmn, rfl, hl, hlen, hf⟩ := DataW.trod_struct Tryd.underlying25 h
    rw [hc] at hl
    match cs, hl, xs, hlen with
    | [c0, c1, c2, c3, c4], _, [y0, y1, y2, y3, y4], _ =>
      have h0 : DataW.trod enc Tryd.prog W base (fun _ => true) true n 3 [c0] = some y0 := by simpa [hI] using hf 0 _ rfl
      have h1 : DataW.trod enc Tryd.prog W base (fun _ => true) true n 3 [c1] = some y1 := by simpa [hI] using hf 1 _ rfl
      have h2 : DataW.trod enc Tryd.prog W base (fun _ => true) true n 9 [c2] = some y2 := by simpa [hS] using hf 2 _ rfl
      have h3 : DataW.trod enc Tryd.prog W base (fun _ => true) true n 22 [c3] = some y3 := by simpa [hN] using hf 3 _ rfl
      have h4 : DataW.trod enc Tryd.prog W base (fun _ => true) true n 23 [c4] = some y4 := by simpa [hL] using hf 4 _ rfl
      obtain ⟨a, ha, ha', wa⟩ := DataW.trod_int Tryd.underlying3 h0
      obtain ⟨b, hb, hb', wb⟩ := DataW.trod_int Tryd.underlying3 h1
      obtain ⟨c, hcc, hc', hc''⟩ := DataW.trod_string Tryd.underlying9 h2
      obtain rfl : c0 = .int .i64 a := by simpa using ha
      obtain rfl : c1 = .int .i64 b := by simpa using hb
      obtain rfl : c2 = .string c := by simpa using hcc
      obtain ⟨np, nc, ns, hns, hnat, hnsz, hnw⟩ := open_ns h3
      obtain rfl : c3 = .slice np ns.length nc := by simpa using hns
      have hpart : ∀ (i : Nat) (t : TypeId) (y : DataW H × List MemPlace), [3, 3, 9, 22, 23][i]? = some t → [y0, y1, y2, y3, y4][i]? = some y → (∀ n ∈ (DataW.agg ([y0, y1, y2, y3, y4].map (·.1))).weights Tryd.prog 25, n ≤ reachBytes) → ∀ n ∈ y.1.weights Tryd.prog t, n ≤ reachBytes := by
        intro i t y ht hy hall n hn
        refine hall n ?_
        have e : (DataW.agg ([y0, y1, y2, y3, y4].map (·.1))).weights Tryd.prog 25 = DataW.weightsEach Tryd.prog [3, 3, 9, 22, 23] ([y0, y1, y2, y3, y4].map (·.1)) := by
          simp [DataW.weights, Tryd.underlying25]
        rw [e]
        exact DataW.weights_mem_each ht (by rw [List.getElem?_map, hy]; rfl) n hn
      have hkids : ∃ (lp : Option Addr) (lc : Nat) (l : List J), c4 = .slice lp l.length lc ∧ KidsAt (fun _ => True) W lp 0 l ∧ ((∀ n ∈ y4.1.weights Tryd.prog 23, n ≤ reachBytes) → l.length * 80 ≤ reachBytes ∧ BigAll l) := by
        rcases DataW.trod_slice Tryd.underlying23 h4 with ⟨hcs, hx⟩ | ⟨a, len, cap, elems, rest, n', hn', hcs, hx, hb, hl, hm, hlen, hel, _, _⟩
        · exact ⟨none, 0, [], by simpa using hcs, by unfold KidsAt; trivial, fun _ => ⟨Nat.zero_le _, by unfold BigAll; trivial⟩⟩
        · rw [hc] at hel
          have each : ∀ i, ∃ (j : J) (v0 v1 v2 v3 v4 : Value), i < len → ∃ y, elems[i]? = some y ∧ JAt (fun _ => True) W j (.agg #[v0, v1, v2, v3, v4]) ∧ ((∀ n ∈ y.1.weights Tryd.prog 25, n ≤ reachBytes) → Big j) ∧ ∀ q, q < 5 → W.cell? ((a.add (i * 5)).add q) = [v0, v1, v2, v3, v4][q]? := by
            intro i
            by_cases hi : i < len
            · have he := hel i hi
              rw [List.getElem?_eq_getElem (by omega), Option.bind_eq_some_iff] at he
              obtain ⟨cs', hcs', ht⟩ := he
              obtain ⟨_, h5, hcell⟩ := World.cells?_some hcs'
              obtain ⟨j, hj1, hj2⟩ := ih n' (by omega) ht
              match cs', h5 with
              | [v0, v1, v2, v3, v4], _ => exact ⟨j, v0, v1, v2, v3, v4, fun _ => ⟨_, List.getElem?_eq_getElem (by omega), hj1, hj2, hcell⟩⟩
            · exact ⟨noJ, .slice none 0 0, .slice none 0 0, .slice none 0 0, .slice none 0 0, .slice none 0 0, fun c => absurd c hi⟩
          obtain ⟨F, hF⟩ := Classical.axiomOfChoice each
          refine ⟨some a, cap, (List.range len).map F, by simpa using hcs, KidsAt.mk fun q hq => ?_, fun hw => ⟨?_, BigAll.mk fun j hj => ?_⟩⟩
          · have hq' : q < len := by simpa using hq
            obtain ⟨v0, v1, v2, v3, v4, hv⟩ := hF q
            obtain ⟨y, _, hj, _, hcell⟩ := hv hq'
            have hsp : a.spot = none := by
              obtain ⟨z0, z1, z2, z3, z4, hz⟩ := hF 0
              obtain ⟨_, _, _, _, hz0⟩ := hz (by omega)
              have h00 := hz0 0 (by decide)
              rw [show ((a.add (0 * 5)).add 0) = a by simp [Addr.add]] at h00
              exact addr_plain h00
            have h00 := hcell 0 (by decide)
            obtain ⟨g, off, sp⟩ := a
            simp only at hsp
            subst hsp
            have hadd : ∀ i j, ((⟨g, off, none⟩ : Addr).add (i * 5)).add j = ⟨g, off + i * 5 + j, none⟩ := fun i j => by rw [add_plain, add_plain]
            simp only [hadd] at hcell h00
            have e : ((List.range len).map F)[q] = F q := by simp
            refine ⟨g, off, _, rfl, trivial, lt_plain h00, ⟨v0, v1, v2, v3, v4, rfl, fun W' hW' => ?_⟩, by rw [e]; exact hj⟩
            have turn : ∀ i v, W.cell? ⟨g, i, none⟩ = some v → W'.cell? ⟨g, i, none⟩ = some v := fun i v hv => by
              rw [← hv]; exact World.cell?_of_block (w := W) hW'
            rw [Nat.zero_add]
            exact ⟨turn _ _ (hcell 0 (by decide)), turn _ _ (hcell 1 (by decide)), turn _ _ (hcell 2 (by decide)), turn _ _ (hcell 3 (by decide)), turn _ _ (hcell 4 (by decide))⟩
          · have := hw (((elems.map (·.1)).length + (rest.map (·.1)).length) * Tryd.prog.bytesOf 25) (by rw [hx]; simp [DataW.weights, Tryd.underlying23])
            rw [show Tryd.prog.bytesOf 25 = 80 by kernel_rfl] at this
            simp only [List.length_map, List.length_range] at this ⊢
            refine Nat.le_trans (Nat.mul_le_mul_right _ ?_) this
            omega
          · obtain ⟨q, hq, rfl⟩ := List.mem_map.1 hj
            obtain ⟨v0, v1, v2, v3, v4, hv⟩ := hF q
            obtain ⟨y, hy, _, hbig, _⟩ := hv (List.mem_range.1 hq)
            refine hbig fun n hn => hw n ?_
            rw [hx]
            simp only [DataW.weights, Tryd.underlying23, List.mem_cons, List.mem_append]
            exact .inr (.inl (wAll_mem (List.mem_map_of_mem (List.mem_of_getElem? hy)) n hn))
      obtain ⟨lp, lc, l, rfl, hkat, hkw⟩ := hkids
      refine ⟨.mk a b c ns l, ?_, fun hall => ?_⟩
      · unfold JAt
        exact ⟨np, nc, lp, lc, rfl, hnat, hkat⟩
      · have w3 := hnw (hpart 3 _ y3 rfl rfl hall)
        obtain ⟨w4, w5⟩ := hkw (hpart 4 _ y4 rfl rfl hall)
        unfold reachBytes at w3 w4
        unfold Big
        exact ⟨hc'', by omega, by omega, hnsz, w5⟩
set_option maxRecDepth 100000 in
/-- A JSON value that comes in as an argument. -/
theorem open_in {r : Reach} {b0 : Nat} {v : Value} {d : DataW H} {p : List MemPlace} (hv : Value.okWide Tryd.prog W r b0 25 v) (h : DataW.Trod enc Tryd.prog W base (fun _ => true) true 25 v d p) :
    ∃ j : J, JAt (fun _ => True) W j v ∧ ((∀ n ∈ d.weights Tryd.prog 25, n ≤ reachBytes) → Big j) := by
  obtain ⟨cs, rfl, _⟩ := okWide_struct Tryd.underlying25 hv
  obtain ⟨fuel, hf⟩ := h
  obtain ⟨j, h1, h2⟩ := open_js fuel hf
  rw [show (Value.agg cs).cells.toList.toArray = cs by simp [Value.cells]] at h1
  exact ⟨j, h1, h2⟩
set_option maxRecDepth 100000 in
theorem sized_in {ts : List TypeId} {ds : List (DataW H)} {d : DataW H} {v : Value} {jx : J} (h : (DataW.weightsEach Tryd.prog ts ds).all (· ≤ reachBytes) = true) {j : Nat} (ht : ts[j]? = some 25) (hd : ds[j]? = some d)
    (hj : JAt (fun _ => True) W jx v) (hb : (∀ n ∈ d.weights Tryd.prog 25, n ≤ reachBytes) → Big jx) : JIn W v jx :=
  ⟨⟨_, hj⟩, hb fun n hn => by simpa using List.all_eq_true.1 h _ (DataW.weights_mem_each ht hd n hn)⟩
end
end Jg
end Go.Proofs.YtdooeedemgmpiaaDoor
