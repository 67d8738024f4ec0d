/- How a schema that comes in as an argument is read. Conditions: those that each theorem names. -/
import Derived.Test.YtfppemgagifmpaaDoorPlArgsP
import Derived.Test.YtfppemgagifmpaaDoorPlKz
namespace Go.Proofs.YtfppemgagifmpaaDoor
set_option linter.unusedVariables false
open Go.ChangeShapes Go.WideShapes Go.ChangeAt Go.RowKit Go.Joins Go.Deep Pl
section
variable {H : Type} {enc : TypeId × Value → H} {W : World} {base : Nat} {b0 : Nat} {r : Reach}
def vspD (f : VSp) : DataW H := .agg [.lit (.string f.name.data.toList), .lit (.int .i64 f.dim), .lit (.int .i64 f.metric)]
def fspD (f : FSp) : DataW H := .agg [.lit (.string f.name.data.toList), .lit (.int .i64 f.kind)]
set_option maxRecDepth 100000 in
theorem trod_vsp {m : Nat} {cs : List Value} {y : DataW H × List MemPlace} (h : DataW.trod enc Tryd.prog W base (fun _ => true) true m 50 cs = some y) :
    ∃ f : VSp, cs = [.string f.name, .int .i64 f.dim, .int .i64 f.metric] ∧ y.1 = vspD f := by
  have hI : Tryd.prog.cellsOf 3 = 1 := by kernel_rfl
  have hS : Tryd.prog.cellsOf 9 = 1 := by kernel_rfl
  have hc : Tryd.prog.cellsOf 50 = 3 := by kernel_rfl
  obtain ⟨xs, n, _, rfl, hl, hlen, hf⟩ := DataW.trod_struct Tryd.underlying50 h
  rw [hc] at hl
  match cs, hl, xs, hlen with
  | [c0, c1, c2], _, [y0, y1, y2], _ =>
    have h0 : DataW.trod enc Tryd.prog W base (fun _ => true) true n 9 [c0] = some y0 := by simpa [hS] using hf 0 _ rfl
    have h1 : DataW.trod enc Tryd.prog W base (fun _ => true) true n 3 [c1] = some y1 := by simpa [hI, hS] using hf 1 _ rfl
    have h2 : DataW.trod enc Tryd.prog W base (fun _ => true) true n 3 [c2] = some y2 := by simpa [hI, hS] using hf 2 _ rfl
    obtain ⟨c, hc, hc', hc''⟩ := DataW.trod_string Tryd.underlying9 h0
    obtain ⟨a, ha, ha', wa⟩ := DataW.trod_int Tryd.underlying3 h1
    obtain ⟨b, hb, hb', wb⟩ := DataW.trod_int Tryd.underlying3 h2
    obtain rfl : c0 = .string c := by simpa using hc
    obtain rfl : c1 = .int .i64 a := by simpa using ha
    obtain rfl : c2 = .int .i64 b := by simpa using hb
    subst ha' hb' hc'
    exact ⟨⟨c, a, b⟩, rfl, rfl⟩
set_option maxRecDepth 100000 in
theorem trod_fsp {m : Nat} {cs : List Value} {y : DataW H × List MemPlace} (h : DataW.trod enc Tryd.prog W base (fun _ => true) true m 54 cs = some y) :
    ∃ f : FSp, cs = [.string f.name, .int .i64 f.kind] ∧ y.1 = fspD f := by
  have hI : Tryd.prog.cellsOf 3 = 1 := by kernel_rfl
  have hS : Tryd.prog.cellsOf 9 = 1 := by kernel_rfl
  have hc : Tryd.prog.cellsOf 54 = 2 := by kernel_rfl
  obtain ⟨y0, y1, n, rfl, hl, h0, h1⟩ := trod_struct2 Tryd.underlying54 h
  rw [hc] at hl
  match cs, hl with
  | [c0, c1], _ =>
    simp only [hS, hI, List.drop_zero, List.drop_succ_cons, List.take_succ_cons, List.take_zero] at h0 h1
    obtain ⟨c, hc, hc', hc''⟩ := DataW.trod_string Tryd.underlying9 h0
    obtain ⟨a, ha, ha', wa⟩ := DataW.trod_int Tryd.underlying3 h1
    obtain rfl : c0 = .string c := by simpa using hc
    obtain rfl : c1 = .int .i64 a := by simpa using ha
    subst ha' hc'
    exact ⟨⟨c, a⟩, rfl, rfl⟩
set_option maxRecDepth 100000 in
/-- A row of fields. -/
theorem open_vsps {fuel : Nat} {cs : List Value} {x : DataW H × List MemPlace} (h : DataW.trod enc Tryd.prog W base (fun _ => true) true fuel 22 cs = some x) :
    ∃ (v : Value) (L : List VSp), cs = [v] ∧ VSpAt W v L ∧ ((x.1 = .nil ∧ L = []) ∨ ∃ rest, x.1 = .slice (L.map vspD) rest) := by
  have hc : Tryd.prog.cellsOf 50 = 3 := by kernel_rfl
  rcases DataW.trod_slice Tryd.underlying22 h with ⟨hcs, hx⟩ | ⟨a, len, cap, elems, rest, n, _, hcs, hx, hb, hl, hm, hlen, hel, _, _⟩
  · exact ⟨_, [], hcs, .inl ⟨rfl, none, 0, rfl⟩, .inl ⟨by rw [hx], rfl⟩⟩
  · rw [hc] at hel
    rcases Nat.eq_zero_or_pos len with h0 | hpos
    · subst h0
      obtain rfl : elems = [] := List.length_eq_zero_iff.mp hlen
      exact ⟨_, [], hcs, .inl ⟨rfl, some a, cap, rfl⟩, .inr ⟨_, by rw [hx]; rfl⟩⟩
    · have each : ∀ i, ∃ f : VSp, i < len → elems[i]?.map (·.1) = some (vspD f) ∧ ∀ j, j < 3 → W.cell? ((a.add (i * 3)).add j) = [.string f.name, .int .i64 f.dim, .int .i64 f.metric][j]? := by
        intro i
        by_cases hi : i < len
        · have he := hel i hi
          rw [List.getElem?_eq_getElem (by omega), Option.bind_eq_some_iff] at he
          obtain ⟨cs', hcs', ht⟩ := he
          obtain ⟨_, _, hcell⟩ := World.cells?_some hcs'
          obtain ⟨f, rfl, hd⟩ := trod_vsp ht
          exact ⟨f, fun _ => ⟨by rw [List.getElem?_eq_getElem (by omega)]; simp [hd], hcell⟩⟩
        · exact ⟨⟨⟨#[]⟩, 0, 0⟩, fun c => absurd c hi⟩
      obtain ⟨F, hF⟩ := Classical.axiomOfChoice each
      have h00 := (hF 0 hpos).2 0 (by decide)
      have ha0 : ((a.add (0 * 3)).add 0) = a := by simp [Addr.add]
      rw [ha0] at h00
      have hsp := addr_plain h00
      obtain ⟨g, off, sp⟩ := a
      simp only at hsp
      subst hsp
      have hg : g < W.heap.size := by
        rcases Nat.lt_or_ge g W.heap.size with hlt | hge
        · exact hlt
        · simp [World.cell?, Array.getElem?_eq_none hge] at h00
      have hadd : ∀ i j, ((⟨g, off, none⟩ : Addr).add (i * 3)).add j = ⟨g, off + i * 3 + j, none⟩ := fun i j => by
        unfold Addr.add
        by_cases h1 : i * 3 = 0 <;> by_cases h2 : j = 0 <;> simp [h1, h2]
      refine ⟨_, (List.range len).map F, hcs, .inr ⟨g, off, cap, by simp, hg, fun W' hW' j hj => ?_⟩, .inr ⟨rest.map (·.1), ?_⟩⟩
      · have hj' : j < len := by simpa using hj
        have hc := (hF j hj').2
        simp only [hadd] at hc
        have e : ((List.range len).map F)[j] = F j := by simp
        rw [e]
        have turn : ∀ i v, W.cell? ⟨g, i, none⟩ = some v → W'.cell? ⟨g, i, none⟩ = some v := fun i v hv => by
          rw [← hv]; exact World.cell?_of_block (w := W) hW'
        exact ⟨turn _ _ (hc 0 (by decide)), turn _ _ (hc 1 (by decide)), turn _ _ (hc 2 (by decide))⟩
      · rw [hx]
        have e : elems.map (·.1) = ((List.range len).map F).map vspD := by
          apply List.ext_getElem?
          intro i
          rcases Nat.lt_or_ge i len with hi | hi
          · rw [List.getElem?_map, (hF i hi).1]
            simp [hi]
          · rw [List.getElem?_eq_none (by simp; omega), List.getElem?_eq_none (by simp; omega)]
        simp only [e]
set_option maxRecDepth 100000 in
/-- A row of fields. -/
theorem open_fsps {fuel : Nat} {cs : List Value} {x : DataW H × List MemPlace} (h : DataW.trod enc Tryd.prog W base (fun _ => true) true fuel 23 cs = some x) :
    ∃ (v : Value) (L : List FSp), cs = [v] ∧ FSpAt W v L ∧ ((x.1 = .nil ∧ L = []) ∨ ∃ rest, x.1 = .slice (L.map fspD) rest) := by
  have hc : Tryd.prog.cellsOf 54 = 2 := by kernel_rfl
  rcases DataW.trod_slice Tryd.underlying23 h with ⟨hcs, hx⟩ | ⟨a, len, cap, elems, rest, n, _, hcs, hx, hb, hl, hm, hlen, hel, _, _⟩
  · exact ⟨_, [], hcs, .inl ⟨rfl, none, 0, rfl⟩, .inl ⟨by rw [hx], rfl⟩⟩
  · rw [hc] at hel
    rcases Nat.eq_zero_or_pos len with h0 | hpos
    · subst h0
      obtain rfl : elems = [] := List.length_eq_zero_iff.mp hlen
      exact ⟨_, [], hcs, .inl ⟨rfl, some a, cap, rfl⟩, .inr ⟨_, by rw [hx]; rfl⟩⟩
    · have each : ∀ i, ∃ f : FSp, i < len → elems[i]?.map (·.1) = some (fspD f) ∧ ∀ j, j < 2 → W.cell? ((a.add (i * 2)).add j) = [.string f.name, .int .i64 f.kind][j]? := by
        intro i
        by_cases hi : i < len
        · have he := hel i hi
          rw [List.getElem?_eq_getElem (by omega), Option.bind_eq_some_iff] at he
          obtain ⟨cs', hcs', ht⟩ := he
          obtain ⟨_, _, hcell⟩ := World.cells?_some hcs'
          obtain ⟨f, rfl, hd⟩ := trod_fsp ht
          exact ⟨f, fun _ => ⟨by rw [List.getElem?_eq_getElem (by omega)]; simp [hd], hcell⟩⟩
        · exact ⟨⟨⟨#[]⟩, 0⟩, fun c => absurd c hi⟩
      obtain ⟨F, hF⟩ := Classical.axiomOfChoice each
      have h00 := (hF 0 hpos).2 0 (by decide)
      have ha0 : ((a.add (0 * 2)).add 0) = a := by simp [Addr.add]
      rw [ha0] at h00
      have hsp := addr_plain h00
      obtain ⟨g, off, sp⟩ := a
      simp only at hsp
      subst hsp
      have hg : g < W.heap.size := by
        rcases Nat.lt_or_ge g W.heap.size with hlt | hge
        · exact hlt
        · simp [World.cell?, Array.getElem?_eq_none hge] at h00
      have hadd : ∀ i j, ((⟨g, off, none⟩ : Addr).add (i * 2)).add j = ⟨g, off + i * 2 + j, none⟩ := fun i j => by
        unfold Addr.add
        by_cases h1 : i * 2 = 0 <;> by_cases h2 : j = 0 <;> simp [h1, h2]
      refine ⟨_, (List.range len).map F, hcs, .inr ⟨g, off, cap, by simp, hg, fun W' hW' j hj => ?_⟩, .inr ⟨rest.map (·.1), ?_⟩⟩
      · have hj' : j < len := by simpa using hj
        have hc := (hF j hj').2
        simp only [hadd] at hc
        have e : ((List.range len).map F)[j] = F j := by simp
        rw [e]
        have turn : ∀ i v, W.cell? ⟨g, i, none⟩ = some v → W'.cell? ⟨g, i, none⟩ = some v := fun i v hv => by
          rw [← hv]; exact World.cell?_of_block (w := W) hW'
        exact ⟨turn _ _ (hc 0 (by decide)), turn _ _ (hc 1 (by decide))⟩
      · rw [hx]
        have e : elems.map (·.1) = ((List.range len).map F).map fspD := by
          apply List.ext_getElem?
          intro i
          rcases Nat.lt_or_ge i len with hi | hi
          · rw [List.getElem?_map, (hF i hi).1]
            simp [hi]
          · rw [List.getElem?_eq_none (by simp; omega), List.getElem?_eq_none (by simp; omega)]
        simp only [e]
set_option maxRecDepth 100000 in
theorem weights_vsp (f : VSp) : f.name.data.toList.length ∈ (vspD (H := H) f).weights Tryd.prog 50 := by
  simp [vspD, DataW.weights, DataW.weightsEach, Tryd.underlying50]
set_option maxRecDepth 100000 in
theorem sized_vsps {L : List VSp} {d : DataW H} (h : ∀ n ∈ d.weights Tryd.prog 22, n ≤ reachBytes) (hL : (d = .nil ∧ L = []) ∨ ∃ rest, d = .slice (L.map vspD) rest) : VSpOk L := by
  have hr : reachBytes ≤ Room := by unfold Room reachBytes; omega
  rcases hL with ⟨_, rfl⟩ | ⟨rest, rfl⟩
  · exact ⟨Nat.zero_le _, fun _ h => nomatch h⟩
  · have hU := Tryd.underlying22
    have hbytes : 1 ≤ Tryd.prog.bytesOf 50 := of_decide_eq_true (by kernel_rfl)
    refine ⟨?_, fun x hx => ?_⟩
    · have h1 := h (((L.map (vspD (H := H))).length + rest.length) * Tryd.prog.bytesOf 50) (by simp [DataW.weights, hU])
      simp only [List.length_map] at h1
      have h2 : L.length * 1 ≤ (L.length + rest.length) * Tryd.prog.bytesOf 50 := Nat.mul_le_mul (by omega) hbytes
      omega
    · have hm : vspD (H := H) x ∈ L.map vspD := List.mem_map_of_mem hx
      have key : ∀ n, n ∈ (vspD (H := H) x).weights Tryd.prog 50 → n ≤ Room := fun n hn => by
        have h1 := h n (by
          simp only [DataW.weights, hU, List.mem_cons, List.mem_append]
          exact .inr (.inl (wAll_mem hm n hn)))
        omega
      have k1 := key _ (weights_vsp (H := H) x)
      rw [Array.length_toList] at k1
      exact k1
set_option maxRecDepth 100000 in
theorem weights_fsp (f : FSp) : f.name.data.toList.length ∈ (fspD (H := H) f).weights Tryd.prog 54 := by
  simp [fspD, DataW.weights, DataW.weightsEach, Tryd.underlying54]
set_option maxRecDepth 100000 in
theorem sized_fsps {L : List FSp} {d : DataW H} (h : ∀ n ∈ d.weights Tryd.prog 23, n ≤ reachBytes) (hL : (d = .nil ∧ L = []) ∨ ∃ rest, d = .slice (L.map fspD) rest) : FSpOk L := by
  have hr : reachBytes ≤ Room := by unfold Room reachBytes; omega
  rcases hL with ⟨_, rfl⟩ | ⟨rest, rfl⟩
  · exact ⟨Nat.zero_le _, fun _ h => nomatch h⟩
  · have hU := Tryd.underlying23
    have hbytes : 1 ≤ Tryd.prog.bytesOf 54 := of_decide_eq_true (by kernel_rfl)
    refine ⟨?_, fun x hx => ?_⟩
    · have h1 := h (((L.map (fspD (H := H))).length + rest.length) * Tryd.prog.bytesOf 54) (by simp [DataW.weights, hU])
      simp only [List.length_map] at h1
      have h2 : L.length * 1 ≤ (L.length + rest.length) * Tryd.prog.bytesOf 54 := Nat.mul_le_mul (by omega) hbytes
      omega
    · have hm : fspD (H := H) x ∈ L.map fspD := List.mem_map_of_mem hx
      have key : ∀ n, n ∈ (fspD (H := H) x).weights Tryd.prog 54 → n ≤ Room := fun n hn => by
        have h1 := h n (by
          simp only [DataW.weights, hU, List.mem_cons, List.mem_append]
          exact .inr (.inl (wAll_mem hm n hn)))
        omega
      have k1 := key _ (weights_fsp (H := H) x)
      rw [Array.length_toList] at k1
      exact k1
/-- What the data of a schema is. -/
def SchD (V : List VSp) (F : List FSp) (d : DataW H) : Prop := ∃ dv df, d = .agg [dv, df] ∧ ((dv = .nil ∧ V = []) ∨ ∃ rest, dv = .slice (V.map vspD) rest) ∧ ((df = .nil ∧ F = []) ∨ ∃ rest, df = .slice (F.map fspD) rest)
set_option maxRecDepth 100000 in
/-- A schema. -/
theorem open_sch {v : Value} {d : DataW H} {p : List MemPlace} (hv : Value.okWide Tryd.prog W r b0 25 v) (h : DataW.Trod enc Tryd.prog W base (fun _ => true) true 25 v d p) :
    ∃ (V : List VSp) (F : List FSp) (u f : Value), v = .agg #[u, f] ∧ SchD V F d ∧ VSpAt W u V ∧ FSpAt W f F := by
  obtain ⟨v0, v1, y0, y1, n, rfl, rfl, -, h0, h1⟩ := open_agg2 Tryd.underlying25 (by kernel_rfl) (by kernel_rfl) hv h
  obtain ⟨u, L, hu, hU, hD⟩ := open_vsps h0
  obtain ⟨f, M, hf, hF, hE⟩ := open_fsps h1
  obtain rfl : v0 = u := by simpa using hu
  obtain rfl : v1 = f := by simpa using hf
  exact ⟨L, M, _, _, rfl, ⟨_, _, rfl, hD, hE⟩, hU, hF⟩
set_option maxRecDepth 100000 in
theorem sized_sch {ts : List TypeId} {ds : List (DataW H)} {V : List VSp} {F : List FSp} {d : DataW H} (h : (DataW.weightsEach Tryd.prog ts ds).all (· ≤ reachBytes) = true) {j : Nat} (ht : ts[j]? = some 25) (hd : ds[j]? = some d) (hx : SchD V F d) :
    VSpOk V ∧ FSpOk F := by
  obtain ⟨dv, df, rfl, hV, hF⟩ := hx
  have key : ∀ n, n ∈ (DataW.agg [dv, df]).weights Tryd.prog 25 → n ≤ reachBytes := fun n hn => by
    have h1 := List.all_eq_true.1 h _ (DataW.weights_mem_each ht hd n hn)
    simpa using h1
  have hU := Tryd.underlying25
  refine ⟨sized_vsps (fun n hn => key n ?_) hV, sized_fsps (fun n hn => key n ?_) hF⟩
  · simp only [DataW.weights, hU, DataW.weightsEach, List.mem_append]
    simp [DataW.weightsEach, DataW.weights, hn]
  · simp only [DataW.weights, hU, DataW.weightsEach, List.mem_append]
    simp [DataW.weightsEach, DataW.weights, hn]
end
end Go.Proofs.YtfppemgagifmpaaDoor
