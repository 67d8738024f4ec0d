/- How a row of vectors and a point that come in as arguments are read. Conditions: those that each theorem names. -/
import Derived.Test.YtfppemgagifmpaaDoorPlArgs
import Derived.Deep.Strs
namespace Go.Proofs.YtfppemgagifmpaaDoor
set_option linter.unusedVariables false
open Go.ChangeShapes Go.WideShapes Go.ChangeAt Go.RowKit Go.Joins Go.Deep Pl
section
variable {H : Type} {enc : TypeId × Value → H} {W : World} {base : Nat} {b0 : Nat} {r : Reach}
/-- A row of integers. -/
theorem open_ints' {fuel : Nat} {cs : List Value} {x : DataW H × List MemPlace} (h : DataW.trod enc Tryd.prog W base (fun _ => true) true fuel 41 cs = some x) :
    ∃ (v : Value) (bs : List Int), cs = [v] ∧ IntsAt W v bs ∧ ((x.1 = .nil ∧ bs = []) ∨ ∃ rest, x.1 = .slice (lits .i64 bs) rest) := by
  rcases open_ints Tryd.underlying41 Tryd.underlying3 (by kernel_rfl) h with ⟨hcs, hx⟩ | ⟨a, len, cap, zs, hcs, _, hl, hm, hz, hx, hcell, hwz⟩
  · exact ⟨_, [], hcs, .inl ⟨rfl, none, 0, rfl⟩, .inl ⟨by rw [hx], rfl⟩⟩
  · simp only [if_true] at hz
    have hlt : (zs.take len).length = len := by simp; omega
    refine ⟨_, zs.take len, hcs, ?_, .inr ⟨_, by rw [hx]⟩⟩
    rcases Nat.eq_zero_or_pos len with h0 | hpos
    · subst h0
      exact .inl ⟨by simp, some a, cap, rfl⟩
    · have hsome := hcell 0 (by omega)
      have ha0 : a.add 0 = a := by simp [Addr.add]
      rw [ha0] at hsome
      have hsp := addr_plain hsome
      obtain ⟨g, off, sp⟩ := a
      simp only at hsp
      subst hsp
      have hg : g < W.heap.size := by
        rcases Nat.lt_or_ge g W.heap.size with hlt | hge
        · exact hlt
        · simp [World.cell?, Array.getElem?_eq_none hge] at hsome
      refine .inr ⟨g, off, cap, by rw [hlt], hg, fun W' hW' j hj => ?_⟩
      have hj' : j < zs.length := by simp at hj; omega
      have := hcell j hj'
      have hjl : (zs.take len)[j] = zs.getD j 0 := by simp [List.getD, List.getElem?_eq_getElem hj']
      rw [hjl]
      have ha : (⟨g, off, none⟩ : Addr).add j = ⟨g, off + j, none⟩ := by unfold Addr.add; split <;> simp_all
      rw [ha] at this
      unfold World.cell? at this ⊢
      simp only [hW']
      exact this
/-- What the data of a vector is. -/
def VecD (x : Vec) (d : DataW H) : Prop := ∃ dv, d = .agg [.lit (.string x.name.data.toList), dv] ∧ ((dv = .nil ∧ x.v = []) ∨ ∃ rest, dv = .slice (lits .i64 x.v) rest)
set_option maxRecDepth 100000 in
theorem trod_vec {m : Nat} {cs : List Value} {y : DataW H × List MemPlace} (h : DataW.trod enc Tryd.prog W base (fun _ => true) true m 43 cs = some y) :
    ∃ (x : Vec) (s : Value), cs = [.string x.name, s] ∧ IntsAt W s x.v ∧ VecD x y.1 := by
  have hS : Tryd.prog.cellsOf 9 = 1 := by kernel_rfl
  have hV : Tryd.prog.cellsOf 41 = 1 := by kernel_rfl
  have hc : Tryd.prog.cellsOf 43 = 2 := by kernel_rfl
  obtain ⟨y0, y1, n, rfl, hl, h0, h1⟩ := trod_struct2 Tryd.underlying43 h
  rw [hc] at hl
  match cs, hl with
  | [c0, c1], _ =>
    simp only [hS, hV, List.drop_zero, List.drop_succ_cons, List.take_succ_cons, List.take_zero] at h0 h1
    obtain ⟨a, ha, ha', _⟩ := DataW.trod_string Tryd.underlying9 h0
    obtain rfl : c0 = .string a := by simpa using ha
    obtain ⟨s, bs, hs, hi, hd⟩ := open_ints' h1
    obtain rfl : c1 = s := by simpa using hs
    subst ha'
    exact ⟨⟨a, bs⟩, _, rfl, hi, _, rfl, hd⟩
set_option maxRecDepth 100000 in
/-- A row of vectors. -/
theorem open_vecs {fuel : Nat} {cs : List Value} {x : DataW H × List MemPlace} (h : DataW.trod enc Tryd.prog W base (fun _ => true) true fuel 26 cs = some x) :
    ∃ (v : Value) (L : List Vec), cs = [v] ∧ VecsAt W v L ∧ ((x.1 = .nil ∧ L = []) ∨ ∃ es rest, x.1 = .slice es rest ∧ es.length = L.length ∧ ∀ i (h : i < L.length) (h' : i < es.length), VecD L[i] es[i]) := by
  have hc : Tryd.prog.cellsOf 43 = 2 := by kernel_rfl
  rcases DataW.trod_slice Tryd.underlying26 h with ⟨hcs, hx⟩ | ⟨a, len, cap, elems, rest, n, _, hcs, hx, hb, hl, hm, hlen, hel, _, _⟩
  · exact ⟨_, [], hcs, .inl ⟨rfl, none, 0, rfl⟩, .inl ⟨by rw [hx], rfl⟩⟩
  · rw [hc] at hel
    rcases Nat.eq_zero_or_pos len with h0 | hpos
    · subst h0
      obtain rfl : elems = [] := List.length_eq_zero_iff.mp hlen
      exact ⟨_, [], hcs, .inl ⟨rfl, some a, cap, rfl⟩, .inr ⟨[], _, by rw [hx]; rfl, rfl, fun i h => nomatch h⟩⟩
    · have each : ∀ i, ∃ f : Vec × Value, i < len → (∀ h : i < elems.length, VecD f.1 (elems[i]).1) ∧ IntsAt W f.2 f.1.v ∧ ∀ j, j < 2 → W.cell? ((a.add (i * 2)).add j) = [.string f.1.name, f.2][j]? := by
        intro i
        by_cases hi : i < len
        · have he := hel i hi
          rw [List.getElem?_eq_getElem (by omega), Option.bind_eq_some_iff] at he
          obtain ⟨cs', hcs', ht⟩ := he
          obtain ⟨_, _, hcell⟩ := World.cells?_some hcs'
          obtain ⟨f, s, rfl, hs, hd⟩ := trod_vec ht
          exact ⟨(f, s), fun _ => ⟨fun _ => hd, hs, hcell⟩⟩
        · exact ⟨(⟨⟨#[]⟩, []⟩, .nilIface), fun c => absurd c hi⟩
      obtain ⟨F, hF⟩ := Classical.axiomOfChoice each
      have h00 := (hF 0 hpos).2.2 0 (by decide)
      have ha0 : ((a.add (0 * 2)).add 0) = a := by simp [Addr.add]
      rw [ha0] at h00
      have hsp := addr_plain h00
      obtain ⟨g, off, sp⟩ := a
      simp only at hsp
      subst hsp
      have hg : g < W.heap.size := by
        rcases Nat.lt_or_ge g W.heap.size with hlt | hge
        · exact hlt
        · simp [World.cell?, Array.getElem?_eq_none hge] at h00
      have hadd : ∀ i j, ((⟨g, off, none⟩ : Addr).add (i * 2)).add j = ⟨g, off + i * 2 + j, none⟩ := fun i j => by
        unfold Addr.add
        by_cases h1 : i * 2 = 0 <;> by_cases h2 : j = 0 <;> simp [h1, h2]
      refine ⟨_, (List.range len).map fun i => (F i).1, hcs, .inr ⟨g, off, cap, fun i => (F i).2, by simp, hg, fun W' hW' j hj => ?_, fun j hj => ?_⟩, .inr ⟨elems.map (·.1), rest.map (·.1), by rw [hx], by simp [hlen], fun i h1 h2 => ?_⟩⟩
      · have hj' : j < len := by simpa using hj
        have hc := (hF j hj').2.2
        simp only [hadd] at hc
        have e : ((List.range len).map fun i => (F i).1)[j] = (F j).1 := by simp
        rw [e]
        have turn : ∀ i v, W.cell? ⟨g, i, none⟩ = some v → W'.cell? ⟨g, i, none⟩ = some v := fun i v hv => by
          rw [← hv]; exact World.cell?_of_block (w := W) hW'
        exact ⟨turn _ _ (hc 0 (by decide)), turn _ _ (hc 1 (by decide))⟩
      · have hj' : j < len := by simpa using hj
        have e : ((List.range len).map fun i => (F i).1)[j] = (F j).1 := by simp
        rw [e]
        exact (hF j hj').2.1
      · have hi' : i < len := by simpa using h1
        have := (hF i hi').1 (by omega)
        simpa using this
set_option maxRecDepth 100000 in
theorem sized_vecs {L : List Vec} {d : DataW H} (h : ∀ n ∈ d.weights Tryd.prog 26, n ≤ reachBytes)
    (hL : (d = .nil ∧ L = []) ∨ ∃ es rest, d = .slice es rest ∧ es.length = L.length ∧ ∀ i (h : i < L.length) (h' : i < es.length), VecD L[i] es[i]) : VecsOk L := by
  have hr : reachBytes ≤ Room := by unfold Room reachBytes; omega
  rcases hL with ⟨_, rfl⟩ | ⟨es, rest, rfl, hel, hd⟩
  · exact ⟨Nat.zero_le _, fun _ h => nomatch h⟩
  · have hU := Tryd.underlying26
    have hU1 := Tryd.underlying43
    have hU2 := Tryd.underlying41
    have hbytes : 1 ≤ Tryd.prog.bytesOf 43 := of_decide_eq_true (by kernel_rfl)
    have hbytes2 : 1 ≤ Tryd.prog.bytesOf 3 := of_decide_eq_true (by kernel_rfl)
    refine ⟨?_, fun x hx => ?_⟩
    · have h1 := h ((es.length + rest.length) * Tryd.prog.bytesOf 43) (by simp [DataW.weights, hU])
      have h2 : es.length * 1 ≤ (es.length + rest.length) * Tryd.prog.bytesOf 43 := Nat.mul_le_mul (by omega) hbytes
      omega
    · obtain ⟨i, hi, rfl⟩ := List.getElem_of_mem hx
      obtain ⟨dv, he, hv⟩ := hd i hi (by omega)
      have hm : es[i]'(by omega) ∈ es := List.getElem_mem _
      have key : ∀ n, n ∈ (es[i]'(by omega)).weights Tryd.prog 43 → n ≤ Room := fun n hn => by
        have h1 := h n (by
          simp only [DataW.weights, hU, List.mem_cons, List.mem_append]
          exact .inr (.inl (wAll_mem hm n hn)))
        omega
      rw [he] at key
      refine ⟨?_, ?_⟩
      · have := key (L[i].name.data.toList.length) (by simp [DataW.weights, DataW.weightsEach, hU1])
        rw [Array.length_toList] at this
        exact this
      · rcases hv with ⟨rfl, hv⟩ | ⟨r2, rfl⟩
        · rw [hv]; exact Nat.zero_le _
        · have := key (((lits (H := H) .i64 L[i].v).length + r2.length) * Tryd.prog.bytesOf 3) (by simp [DataW.weights, DataW.weightsEach, hU1, hU2])
          have h2 : (lits (H := H) .i64 L[i].v).length * 1 ≤ ((lits (H := H) .i64 L[i].v).length + r2.length) * Tryd.prog.bytesOf 3 := Nat.mul_le_mul (by omega) hbytes2
          have h3 : (lits (H := H) .i64 L[i].v).length = L[i].v.length := by simp [lits]
          omega
set_option maxRecDepth 100000 in
theorem sized_flds' {L : List Fld} {d : DataW H} (h : ∀ n ∈ d.weights Tryd.prog 27, n ≤ reachBytes) (hL : (d = .nil ∧ L = []) ∨ ∃ rest, d = .slice (L.map fldD) rest) : FldsOk L := by
  have hr : reachBytes ≤ Room := by unfold Room reachBytes; omega
  rcases hL with ⟨_, rfl⟩ | ⟨rest, rfl⟩
  · exact ⟨Nat.zero_le _, fun _ h => nomatch h⟩
  · have hU := Tryd.underlying27
    have hbytes : 1 ≤ Tryd.prog.bytesOf 47 := of_decide_eq_true (by kernel_rfl)
    refine ⟨?_, fun x hx => ?_⟩
    · have h1 := h (((L.map (fldD (H := H))).length + rest.length) * Tryd.prog.bytesOf 47) (by simp [DataW.weights, hU])
      simp only [List.length_map] at h1
      have h2 : L.length * 1 ≤ (L.length + rest.length) * Tryd.prog.bytesOf 47 := Nat.mul_le_mul (by omega) hbytes
      omega
    · have hm : fldD (H := H) x ∈ L.map fldD := List.mem_map_of_mem hx
      have key : ∀ n, n ∈ (fldD (H := H) x).weights Tryd.prog 47 → n ≤ Room := fun n hn => by
        have h1 := h n (by
          simp only [DataW.weights, hU, List.mem_cons, List.mem_append]
          exact .inr (.inl (wAll_mem hm n hn)))
        omega
      obtain ⟨w1, w2⟩ := weights_fld (H := H) x
      have k1 := key _ w1
      have k2 := key _ w2
      rw [Array.length_toList] at k1 k2
      exact ⟨k1, k2⟩
/-- What the data of a point is. -/
def PtD (x : Pt) (d : DataW H) : Prop := ∃ dv df, d = .agg [.lit (.int .i64 x.id), dv, df] ∧
  ((dv = .nil ∧ x.vecs = []) ∨ ∃ es rest, dv = .slice es rest ∧ es.length = x.vecs.length ∧ ∀ i (h : i < x.vecs.length) (h' : i < es.length), VecD x.vecs[i] es[i]) ∧
  ((df = .nil ∧ x.flds = []) ∨ ∃ rest, df = .slice (x.flds.map fldD) rest)
set_option maxRecDepth 100000 in
/-- A point. -/
theorem open_pt {v : Value} {d : DataW H} {p : List MemPlace} (hv : Value.okWide Tryd.prog W r b0 29 v) (h : DataW.Trod enc Tryd.prog W base (fun _ => true) true 29 v d p) :
    ∃ (x : Pt) (u f : Value), v = .agg #[.int .i64 x.id, u, f] ∧ PtD x d ∧ VecsAt W u x.vecs ∧ FldsAt W f x.flds ∧ (-9223372036854775808 ≤ x.id ∧ x.id ≤ 9223372036854775807) := by
  obtain ⟨v0, v1, v2, y0, y1, y2, n, rfl, rfl, -, h0, h1, h2⟩ := open_agg3 Tryd.underlying29 (by kernel_rfl) (by kernel_rfl) hv h
  obtain ⟨a, ha, ha', wa⟩ := DataW.trod_int Tryd.underlying3 h0
  obtain ⟨u, L, hu, hU, hD⟩ := open_vecs h1
  obtain ⟨f, M, hf, hF, hE⟩ := open_flds h2
  obtain rfl : v0 = .int .i64 a := by simpa using ha
  obtain rfl : v1 = u := by simpa using hu
  obtain rfl : v2 = f := by simpa using hf
  subst ha'
  have xa : -9223372036854775808 ≤ a ∧ a ≤ 9223372036854775807 := by simpa [Lit.wf, show IntKind.i64.min = -9223372036854775808 from rfl] using wa
  exact ⟨⟨a, L, M⟩, _, _, rfl, ⟨_, _, rfl, hD, hE⟩, hU, hF, xa⟩
set_option maxRecDepth 100000 in
theorem sized_pt {ts : List TypeId} {ds : List (DataW H)} {x : Pt} {d : DataW H} (h : (DataW.weightsEach Tryd.prog ts ds).all (· ≤ reachBytes) = true) {j : Nat} (ht : ts[j]? = some 29) (hd : ds[j]? = some d) (hx : PtD x d) :
    VecsOk x.vecs ∧ FldsOk x.flds := by
  obtain ⟨dv, df, rfl, hV, hF⟩ := hx
  have key : ∀ n, n ∈ (DataW.agg [.lit (.int .i64 x.id), dv, df]).weights Tryd.prog 29 → n ≤ reachBytes := fun n hn => by
    have h1 := List.all_eq_true.1 h _ (DataW.weights_mem_each ht hd n hn)
    simpa using h1
  have hU := Tryd.underlying29
  refine ⟨sized_vecs (fun n hn => key n ?_) hV, sized_flds' (fun n hn => key n ?_) hF⟩
  · simp only [DataW.weights, hU, DataW.weightsEach, List.mem_append]
    simp [DataW.weightsEach, DataW.weights, hn]
  · simp only [DataW.weights, hU, DataW.weightsEach, List.mem_append]
    simp [DataW.weightsEach, DataW.weights, hn]
set_option maxRecDepth 100000 in
/-- The sizes that copying asks. -/
theorem sized_copy {ts : List TypeId} {ds : List (DataW H)} {x : Pt} {d : DataW H} (h : (DataW.weightsEach Tryd.prog ts ds).all (· ≤ reachBytes) = true) {j : Nat} (ht : ts[j]? = some 29) (hd : ds[j]? = some d) (hx : PtD x d) :
    x.vecs.length * 40 ≤ 140737488355328 ∧ (∀ y ∈ x.vecs, y.v.length * 8 ≤ 140737488355328) ∧ x.flds.length * 48 ≤ 140737488355328 := by
  obtain ⟨dv, df, rfl, hV, hF⟩ := hx
  have hr : reachBytes ≤ 140737488355328 := by unfold reachBytes; omega
  have key : ∀ n, n ∈ (DataW.agg [.lit (.int .i64 x.id), dv, df]).weights Tryd.prog 29 → n ≤ reachBytes := fun n hn => by
    have h1 := List.all_eq_true.1 h _ (DataW.weights_mem_each ht hd n hn)
    simpa using h1
  have hU := Tryd.underlying29
  have kv : ∀ n ∈ dv.weights Tryd.prog 26, n ≤ reachBytes := fun n hn => key n (by
    simp only [DataW.weights, hU, DataW.weightsEach, List.mem_append]
    simp [DataW.weightsEach, DataW.weights, hn])
  have kf : ∀ n ∈ df.weights Tryd.prog 27, n ≤ reachBytes := fun n hn => key n (by
    simp only [DataW.weights, hU, DataW.weightsEach, List.mem_append]
    simp [DataW.weightsEach, DataW.weights, hn])
  have u1 := Tryd.underlying26
  have u2 := Tryd.underlying43
  have u3 := Tryd.underlying41
  have u4 := Tryd.underlying27
  have b1 : Tryd.prog.bytesOf 43 = 40 := by kernel_rfl
  have b2 : Tryd.prog.bytesOf 3 = 8 := by kernel_rfl
  have b3 : Tryd.prog.bytesOf 47 = 48 := by kernel_rfl
  refine ⟨?_, ?_, ?_⟩
  · rcases hV with ⟨_, e⟩ | ⟨es, rest, rfl, hel, hdd⟩
    · rw [e]; simp
    · have h1 := kv ((es.length + rest.length) * Tryd.prog.bytesOf 43) (by simp [DataW.weights, u1])
      rw [b1] at h1
      omega
  · rcases hV with ⟨_, e⟩ | ⟨es, rest, rfl, hel, hdd⟩
    · rw [e]; simp
    · intro y hy
      obtain ⟨i, hi, rfl⟩ := List.getElem_of_mem hy
      obtain ⟨dw, he, hv⟩ := hdd i hi (by omega)
      rcases hv with ⟨_, e⟩ | ⟨r2, rfl⟩
      · rw [e]; simp
      · have hm : es[i]'(by omega) ∈ es := List.getElem_mem _
        have h1 := kv (((lits (H := H) .i64 x.vecs[i].v).length + r2.length) * Tryd.prog.bytesOf 3) (by
          simp only [DataW.weights, u1, List.mem_cons, List.mem_append]
          refine .inr (.inl (wAll_mem hm _ ?_))
          rw [he]
          simp [DataW.weights, DataW.weightsEach, u2, u3])
        rw [b2] at h1
        have h3 : (lits (H := H) .i64 x.vecs[i].v).length = x.vecs[i].v.length := by simp [lits]
        omega
  · rcases hF with ⟨_, e⟩ | ⟨rest, rfl⟩
    · rw [e]; simp
    · have h1 := kf (((x.flds.map (fldD (H := H))).length + rest.length) * Tryd.prog.bytesOf 47) (by simp [DataW.weights, u4])
      rw [b3] at h1
      simp only [List.length_map] at h1
      omega
end
end Go.Proofs.YtfppemgagifmpaaDoor
