/- How a value and a row of fields that come in as arguments are read. Conditions: those that each theorem names. -/
import Derived.Test.YtfppemgagifmpaaDoorPlLd
import Derived.OpenShut
import Derived.SizedLaws
import Derived.Lib.SmallJoins
import Derived.ChangeOld
import Derived.ChangeSlices
import Derived.ChangeSame
namespace Go.Proofs.YtfppemgagifmpaaDoor
set_option linter.unusedVariables false
open Go.ChangeShapes Go.WideShapes Go.ChangeAt Go.RowKit Go.Joins Go.Deep Pl

theorem wAll_mem {H : Type} {P : Program} {e : TypeId} : ∀ {l : List (DataW H)} {d : DataW H}, d ∈ l → ∀ n ∈ d.weights P e, n ∈ DataW.weightsAll P e l
  | x :: l, d, h, n, hn => by
    simp only [DataW.weightsAll, List.mem_append]
    rcases List.mem_cons.mp h with rfl | h
    · exact .inl hn
    · exact .inr (wAll_mem h n hn)
section
variable {H : Type} {enc : TypeId × Value → H} {W : World} {base : Nat} {b0 : Nat} {r : Reach}
def valD (v : Val) : DataW H := .agg [.lit (.int .i64 v.kind), .lit (.int .i64 v.n), .lit (.string v.text.data.toList)]
def fldD (f : Fld) : DataW H := .agg [.lit (.string f.name.data.toList), valD f.val]
set_option maxRecDepth 100000 in
/-- A value. -/
theorem open_val {v : Value} {d : DataW H} {p : List MemPlace} (hv : Value.okWide Tryd.prog W r b0 45 v) (h : DataW.Trod enc Tryd.prog W base (fun _ => true) true 45 v d p) :
    ∃ x : Val, v = .agg #[.int .i64 x.kind, .int .i64 x.n, .string x.text] ∧ d = valD x ∧ (-9223372036854775808 ≤ x.kind ∧ x.kind ≤ 9223372036854775807) ∧ (-9223372036854775808 ≤ x.n ∧ x.n ≤ 9223372036854775807) := by
  obtain ⟨v0, v1, v2, y0, y1, y2, n, rfl, rfl, -, h0, h1, h2⟩ := open_agg3 Tryd.underlying45 (by kernel_rfl) (by kernel_rfl) hv h
  obtain ⟨a, ha, ha', wa⟩ := DataW.trod_int Tryd.underlying3 h0
  obtain ⟨b, hb, hb', wb⟩ := DataW.trod_int Tryd.underlying3 h1
  obtain ⟨c, hc, hc', hc''⟩ := DataW.trod_string Tryd.underlying9 h2
  obtain rfl : v0 = .int .i64 a := by simpa using ha
  obtain rfl : v1 = .int .i64 b := by simpa using hb
  obtain rfl : v2 = .string c := by simpa using hc
  subst ha' hb' hc'
  have xa : -9223372036854775808 ≤ a ∧ a ≤ 9223372036854775807 := by simpa [Lit.wf, show IntKind.i64.min = -9223372036854775808 from rfl] using wa
  have xb : -9223372036854775808 ≤ b ∧ b ≤ 9223372036854775807 := by simpa [Lit.wf, show IntKind.i64.min = -9223372036854775808 from rfl] using wb
  exact ⟨⟨a, b, c⟩, rfl, rfl, xa, xb⟩
set_option maxRecDepth 100000 in
theorem trod_val {m : Nat} {cs : List Value} {y : DataW H × List MemPlace} (h : DataW.trod enc Tryd.prog W base (fun _ => true) true m 45 cs = some y) :
    ∃ x : Val, cs = [.int .i64 x.kind, .int .i64 x.n, .string x.text] ∧ y.1 = valD x ∧ (-9223372036854775808 ≤ x.kind ∧ x.kind ≤ 9223372036854775807) ∧ (-9223372036854775808 ≤ x.n ∧ x.n ≤ 9223372036854775807) := by
  have hI : Tryd.prog.cellsOf 3 = 1 := by kernel_rfl
  have hS : Tryd.prog.cellsOf 9 = 1 := by kernel_rfl
  have hc : Tryd.prog.cellsOf 45 = 3 := by kernel_rfl
  obtain ⟨xs, n, _, rfl, hl, hlen, hf⟩ := DataW.trod_struct Tryd.underlying45 h
  rw [hc] at hl
  match cs, hl, xs, hlen with
  | [c0, c1, c2], _, [y0, y1, y2], _ =>
    have h0 : DataW.trod enc Tryd.prog W base (fun _ => true) true n 3 [c0] = some y0 := by simpa [hI] using hf 0 _ rfl
    have h1 : DataW.trod enc Tryd.prog W base (fun _ => true) true n 3 [c1] = some y1 := by simpa [hI] using hf 1 _ rfl
    have h2 : DataW.trod enc Tryd.prog W base (fun _ => true) true n 9 [c2] = some y2 := by simpa [hS] using hf 2 _ rfl
    obtain ⟨a, ha, ha', wa⟩ := DataW.trod_int Tryd.underlying3 h0
    obtain ⟨b, hb, hb', wb⟩ := DataW.trod_int Tryd.underlying3 h1
    obtain ⟨c, hc, hc', hc''⟩ := DataW.trod_string Tryd.underlying9 h2
    obtain rfl : c0 = .int .i64 a := by simpa using ha
    obtain rfl : c1 = .int .i64 b := by simpa using hb
    obtain rfl : c2 = .string c := by simpa using hc
    subst ha' hb' hc'
    have xa : -9223372036854775808 ≤ a ∧ a ≤ 9223372036854775807 := by simpa [Lit.wf, show IntKind.i64.min = -9223372036854775808 from rfl] using wa
    have xb : -9223372036854775808 ≤ b ∧ b ≤ 9223372036854775807 := by simpa [Lit.wf, show IntKind.i64.min = -9223372036854775808 from rfl] using wb
    exact ⟨⟨a, b, c⟩, rfl, rfl, xa, xb⟩
set_option maxRecDepth 100000 in
theorem trod_fld {m : Nat} {cs : List Value} {y : DataW H × List MemPlace} (h : DataW.trod enc Tryd.prog W base (fun _ => true) true m 47 cs = some y) :
    ∃ f : Fld, cs = [.string f.name, .int .i64 f.val.kind, .int .i64 f.val.n, .string f.val.text] ∧ y.1 = fldD f ∧ (-9223372036854775808 ≤ f.val.kind ∧ f.val.kind ≤ 9223372036854775807) ∧ (-9223372036854775808 ≤ f.val.n ∧ f.val.n ≤ 9223372036854775807) := by
  have hS : Tryd.prog.cellsOf 9 = 1 := by kernel_rfl
  have hV : Tryd.prog.cellsOf 45 = 3 := by kernel_rfl
  have hc : Tryd.prog.cellsOf 47 = 4 := by kernel_rfl
  obtain ⟨y0, y1, n, rfl, hl, h0, h1⟩ := trod_struct2 Tryd.underlying47 h
  rw [hc] at hl
  match cs, hl with
  | [c0, c1, c2, c3], _ =>
    simp only [hS, hV, List.drop_zero, List.drop_succ_cons, List.take_succ_cons, List.take_zero] at h0 h1
    obtain ⟨a, ha, ha', _⟩ := DataW.trod_string Tryd.underlying9 h0
    obtain rfl : c0 = .string a := by simpa using ha
    obtain ⟨x, hx, hd, xa, xb⟩ := trod_val h1
    injection hx with e1 hx
    injection hx with e2 hx
    injection hx with e3 hx
    subst e1 e2 e3
    refine ⟨⟨a, x⟩, rfl, ?_, xa, xb⟩
    subst ha'
    simp only [fldD, hd]
theorem addr_plain {a : Addr} {v : Value} (h : W.cell? a = some v) : a.spot = none := by
  cases hs : a.spot with
  | none => rfl
  | some q =>
    simp [World.cell?, hs] at h
    split at h <;> simp at h
set_option maxRecDepth 100000 in
/-- A row of fields. -/
theorem open_flds {fuel : Nat} {cs : List Value} {x : DataW H × List MemPlace} (h : DataW.trod enc Tryd.prog W base (fun _ => true) true fuel 27 cs = some x) :
    ∃ (v : Value) (L : List Fld), cs = [v] ∧ FldsAt W v L ∧ ((x.1 = .nil ∧ L = []) ∨ ∃ rest, x.1 = .slice (L.map fldD) rest) := by
  have hc : Tryd.prog.cellsOf 47 = 4 := by kernel_rfl
  rcases DataW.trod_slice Tryd.underlying27 h with ⟨hcs, hx⟩ | ⟨a, len, cap, elems, rest, n, _, hcs, hx, hb, hl, hm, hlen, hel, _, _⟩
  · exact ⟨_, [], hcs, .inl ⟨rfl, none, 0, rfl⟩, .inl ⟨by rw [hx], rfl⟩⟩
  · rw [hc] at hel
    rcases Nat.eq_zero_or_pos len with h0 | hpos
    · subst h0
      obtain rfl : elems = [] := List.length_eq_zero_iff.mp hlen
      exact ⟨_, [], hcs, .inl ⟨rfl, some a, cap, rfl⟩, .inr ⟨_, by rw [hx]; rfl⟩⟩
    · have each : ∀ i, ∃ f : Fld, i < len → elems[i]?.map (·.1) = some (fldD f) ∧ ∀ j, j < 4 → W.cell? ((a.add (i * 4)).add j) = [.string f.name, .int .i64 f.val.kind, .int .i64 f.val.n, .string f.val.text][j]? := by
        intro i
        by_cases hi : i < len
        · have he := hel i hi
          rw [List.getElem?_eq_getElem (by omega), Option.bind_eq_some_iff] at he
          obtain ⟨cs', hcs', ht⟩ := he
          obtain ⟨_, _, hcell⟩ := World.cells?_some hcs'
          obtain ⟨f, rfl, hd, _⟩ := trod_fld ht
          exact ⟨f, fun _ => ⟨by rw [List.getElem?_eq_getElem (by omega)]; simp [hd], hcell⟩⟩
        · exact ⟨⟨⟨#[]⟩, ⟨0, 0, ⟨#[]⟩⟩⟩, fun c => absurd c hi⟩
      obtain ⟨F, hF⟩ := Classical.axiomOfChoice each
      have h00 := (hF 0 hpos).2 0 (by decide)
      have ha0 : ((a.add (0 * 4)).add 0) = a := by simp [Addr.add]
      rw [ha0] at h00
      have hsp := addr_plain h00
      obtain ⟨g, off, sp⟩ := a
      simp only at hsp
      subst hsp
      have hg : g < W.heap.size := by
        rcases Nat.lt_or_ge g W.heap.size with hlt | hge
        · exact hlt
        · simp [World.cell?, Array.getElem?_eq_none hge] at h00
      have hadd : ∀ i j, ((⟨g, off, none⟩ : Addr).add (i * 4)).add j = ⟨g, off + i * 4 + j, none⟩ := fun i j => by
        unfold Addr.add
        by_cases h1 : i * 4 = 0 <;> by_cases h2 : j = 0 <;> simp [h1, h2]
      refine ⟨_, (List.range len).map F, hcs, .inr ⟨g, off, cap, by simp, hg, fun W' hW' j hj => ?_⟩, .inr ⟨rest.map (·.1), ?_⟩⟩
      · have hj' : j < len := by simpa using hj
        have hc := (hF j hj').2
        simp only [hadd] at hc
        have e : ((List.range len).map F)[j] = F j := by simp
        rw [e]
        have turn : ∀ i v, W.cell? ⟨g, i, none⟩ = some v → W'.cell? ⟨g, i, none⟩ = some v := fun i v hv => by
          rw [← hv]; exact World.cell?_of_block (w := W) hW'
        exact ⟨turn _ _ (hc 0 (by decide)), turn _ _ (hc 1 (by decide)), turn _ _ (hc 2 (by decide)), turn _ _ (hc 3 (by decide))⟩
      · rw [hx]
        have e : elems.map (·.1) = ((List.range len).map F).map fldD := by
          apply List.ext_getElem?
          intro i
          rcases Nat.lt_or_ge i len with hi | hi
          · rw [List.getElem?_map, (hF i hi).1]
            simp [hi]
          · rw [List.getElem?_eq_none (by simp; omega), List.getElem?_eq_none (by simp; omega)]
        simp only [e]
set_option maxRecDepth 100000 in
theorem weights_fld (f : Fld) : f.name.data.toList.length ∈ (fldD (H := H) f).weights Tryd.prog 47 ∧ f.val.text.data.toList.length ∈ (fldD (H := H) f).weights Tryd.prog 47 := by
  constructor <;> simp [fldD, valD, DataW.weights, DataW.weightsEach, Tryd.underlying47, Tryd.underlying45]
set_option maxRecDepth 100000 in
theorem sized_flds {ts : List TypeId} {ds : List (DataW H)} {L : List Fld} {d : DataW H} (h : (DataW.weightsEach Tryd.prog ts ds).all (· ≤ reachBytes) = true) {j : Nat} (ht : ts[j]? = some 27) (hd : ds[j]? = some d)
    (hL : (d = .nil ∧ L = []) ∨ ∃ rest, d = .slice (L.map fldD) rest) : FldsOk L := by
  have hr : reachBytes ≤ Room := by unfold Room reachBytes; omega
  rcases hL with ⟨_, rfl⟩ | ⟨rest, rfl⟩
  · exact ⟨Nat.zero_le _, fun _ h => nomatch h⟩
  · have hU := Tryd.underlying27
    have hbytes : 1 ≤ Tryd.prog.bytesOf 47 := of_decide_eq_true (by kernel_rfl)
    refine ⟨?_, fun x hx => ?_⟩
    · have h1 := sized_slice h ht hd hU
      simp only [List.length_map] at h1
      have h2 : L.length * 1 ≤ (L.length + rest.length) * Tryd.prog.bytesOf 47 := Nat.mul_le_mul (by omega) hbytes
      omega
    · have hm : fldD (H := H) x ∈ L.map fldD := List.mem_map_of_mem hx
      have key : ∀ n, n ∈ (fldD (H := H) x).weights Tryd.prog 47 → n ≤ Room := fun n hn => by
        have h1 := List.all_eq_true.1 h _ (DataW.weights_mem_each ht hd n (by
          simp only [DataW.weights, hU, List.mem_cons, List.mem_append]
          exact .inr (.inl (wAll_mem hm n hn))))
        have h2 : n ≤ reachBytes := by simpa using h1
        omega
      obtain ⟨w1, w2⟩ := weights_fld (H := H) x
      have k1 := key _ w1
      have k2 := key _ w2
      rw [Array.length_toList] at k1 k2
      exact ⟨k1, k2⟩
end
end Go.Proofs.YtfppemgagifmpaaDoor
