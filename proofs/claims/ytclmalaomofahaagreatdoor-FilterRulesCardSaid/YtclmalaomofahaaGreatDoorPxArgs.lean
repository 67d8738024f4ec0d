/- How a value and a row of points that come in as arguments are read. Conditions: those that each theorem names. -/
import Derived.Test.YtclmalaomofahaaGreatDoorPx
import Derived.OpenShut
import Derived.SizedLaws
import Derived.Lib.SmallJoins
import Derived.ChangeOld
import Derived.ChangeSlices
import Derived.ChangeSame
import Derived.Deep.Strs
namespace Go.Proofs.YtclmalaomofahaaGreatDoor
set_option linter.unusedVariables false
namespace Px
open Go.ChangeShapes Go.WideShapes Go.ChangeAt Go.RowKit Go.Joins Go.Deep Pq Pq.Pl

theorem wAll_mem {H : Type} {P : Program} {e : TypeId} : ∀ {l : List (DataW H)} {d : DataW H}, d ∈ l → ∀ n ∈ d.weights P e, n ∈ DataW.weightsAll P e l
  | x :: l, d, h, n, hn => by
    simp only [DataW.weightsAll, List.mem_append]
    rcases List.mem_cons.mp h with rfl | h
    · exact .inl hn
    · exact .inr (wAll_mem h n hn)
section
variable {H : Type} {enc : TypeId × Value → H} {W : World} {base : Nat} {b0 : Nat} {r : Reach}
def valD (v : Val) : DataW H := .agg [.lit (.int .i64 v.kind), .lit (.int .i64 v.n), .lit (.string v.text.data.toList)]
def fldD (f : Fld) : DataW H := .agg [.lit (.string f.name.data.toList), valD f.val]
set_option maxRecDepth 100000 in
/-- A value. -/
theorem open_val {v : Value} {d : DataW H} {p : List MemPlace} (hv : Value.okWide Tryz.prog W r b0 23 v) (h : DataW.Trod enc Tryz.prog W base (fun _ => true) true 23 v d p) :
    ∃ x : Val, v = .agg #[.int .i64 x.kind, .int .i64 x.n, .string x.text] ∧ d = valD x ∧ (-9223372036854775808 ≤ x.kind ∧ x.kind ≤ 9223372036854775807) ∧ (-9223372036854775808 ≤ x.n ∧ x.n ≤ 9223372036854775807) := by
  obtain ⟨v0, v1, v2, y0, y1, y2, n, rfl, rfl, -, h0, h1, h2⟩ := open_agg3 Tryz.underlying23 (by kernel_rfl) (by kernel_rfl) hv h
  obtain ⟨a, ha, ha', wa⟩ := DataW.trod_int Tryz.underlying3 h0
  obtain ⟨b, hb, hb', wb⟩ := DataW.trod_int Tryz.underlying3 h1
  obtain ⟨c, hc, hc', hc''⟩ := DataW.trod_string Tryz.underlying9 h2
  obtain rfl : v0 = .int .i64 a := by simpa using ha
  obtain rfl : v1 = .int .i64 b := by simpa using hb
  obtain rfl : v2 = .string c := by simpa using hc
  subst ha' hb' hc'
  have xa : -9223372036854775808 ≤ a ∧ a ≤ 9223372036854775807 := by simpa [Lit.wf, show IntKind.i64.min = -9223372036854775808 from rfl] using wa
  have xb : -9223372036854775808 ≤ b ∧ b ≤ 9223372036854775807 := by simpa [Lit.wf, show IntKind.i64.min = -9223372036854775808 from rfl] using wb
  exact ⟨⟨a, b, c⟩, rfl, rfl, xa, xb⟩
set_option maxRecDepth 100000 in
theorem trod_val {m : Nat} {cs : List Value} {y : DataW H × List MemPlace} (h : DataW.trod enc Tryz.prog W base (fun _ => true) true m 23 cs = some y) :
    ∃ x : Val, cs = [.int .i64 x.kind, .int .i64 x.n, .string x.text] ∧ y.1 = valD x ∧ (-9223372036854775808 ≤ x.kind ∧ x.kind ≤ 9223372036854775807) ∧ (-9223372036854775808 ≤ x.n ∧ x.n ≤ 9223372036854775807) := by
  have hI : Tryz.prog.cellsOf 3 = 1 := by kernel_rfl
  have hS : Tryz.prog.cellsOf 9 = 1 := by kernel_rfl
  have hc : Tryz.prog.cellsOf 23 = 3 := by kernel_rfl
  obtain ⟨xs, n, _, rfl, hl, hlen, hf⟩ := DataW.trod_struct Tryz.underlying23 h
  rw [hc] at hl
  match cs, hl, xs, hlen with
  | [c0, c1, c2], _, [y0, y1, y2], _ =>
    have h0 : DataW.trod enc Tryz.prog W base (fun _ => true) true n 3 [c0] = some y0 := by simpa [hI] using hf 0 _ rfl
    have h1 : DataW.trod enc Tryz.prog W base (fun _ => true) true n 3 [c1] = some y1 := by simpa [hI] using hf 1 _ rfl
    have h2 : DataW.trod enc Tryz.prog W base (fun _ => true) true n 9 [c2] = some y2 := by simpa [hS] using hf 2 _ rfl
    obtain ⟨a, ha, ha', wa⟩ := DataW.trod_int Tryz.underlying3 h0
    obtain ⟨b, hb, hb', wb⟩ := DataW.trod_int Tryz.underlying3 h1
    obtain ⟨c, hc, hc', hc''⟩ := DataW.trod_string Tryz.underlying9 h2
    obtain rfl : c0 = .int .i64 a := by simpa using ha
    obtain rfl : c1 = .int .i64 b := by simpa using hb
    obtain rfl : c2 = .string c := by simpa using hc
    subst ha' hb' hc'
    have xa : -9223372036854775808 ≤ a ∧ a ≤ 9223372036854775807 := by simpa [Lit.wf, show IntKind.i64.min = -9223372036854775808 from rfl] using wa
    have xb : -9223372036854775808 ≤ b ∧ b ≤ 9223372036854775807 := by simpa [Lit.wf, show IntKind.i64.min = -9223372036854775808 from rfl] using wb
    exact ⟨⟨a, b, c⟩, rfl, rfl, xa, xb⟩
set_option maxRecDepth 100000 in
theorem trod_fld {m : Nat} {cs : List Value} {y : DataW H × List MemPlace} (h : DataW.trod enc Tryz.prog W base (fun _ => true) true m 55 cs = some y) :
    ∃ f : Fld, cs = [.string f.name, .int .i64 f.val.kind, .int .i64 f.val.n, .string f.val.text] ∧ y.1 = fldD f ∧ (-9223372036854775808 ≤ f.val.kind ∧ f.val.kind ≤ 9223372036854775807) ∧ (-9223372036854775808 ≤ f.val.n ∧ f.val.n ≤ 9223372036854775807) := by
  have hS : Tryz.prog.cellsOf 9 = 1 := by kernel_rfl
  have hV : Tryz.prog.cellsOf 23 = 3 := by kernel_rfl
  have hc : Tryz.prog.cellsOf 55 = 4 := by kernel_rfl
  obtain ⟨y0, y1, n, rfl, hl, h0, h1⟩ := trod_struct2 Tryz.underlying55 h
  rw [hc] at hl
  match cs, hl with
  | [c0, c1, c2, c3], _ =>
    simp only [hS, hV, List.drop_zero, List.drop_succ_cons, List.take_succ_cons, List.take_zero] at h0 h1
    obtain ⟨a, ha, ha', _⟩ := DataW.trod_string Tryz.underlying9 h0
    obtain rfl : c0 = .string a := by simpa using ha
    obtain ⟨x, hx, hd, xa, xb⟩ := trod_val h1
    injection hx with e1 hx
    injection hx with e2 hx
    injection hx with e3 hx
    subst e1 e2 e3
    refine ⟨⟨a, x⟩, rfl, ?_, xa, xb⟩
    subst ha'
    simp only [fldD, hd]
theorem addr_plain {a : Addr} {v : Value} (h : W.cell? a = some v) : a.spot = none := by
  cases hs : a.spot with
  | none => rfl
  | some q =>
    simp [World.cell?, hs] at h
    split at h <;> simp at h
set_option maxRecDepth 100000 in
/-- A row of fields. -/
theorem open_flds {fuel : Nat} {cs : List Value} {x : DataW H × List MemPlace} (h : DataW.trod enc Tryz.prog W base (fun _ => true) true fuel 28 cs = some x) :
    ∃ (v : Value) (L : List Fld), cs = [v] ∧ FldsAt W v L ∧ ((x.1 = .nil ∧ L = []) ∨ ∃ rest, x.1 = .slice (L.map fldD) rest) ∧ ∀ f ∈ L, (-9223372036854775808 ≤ f.val.kind ∧ f.val.kind ≤ 9223372036854775807) ∧ (-9223372036854775808 ≤ f.val.n ∧ f.val.n ≤ 9223372036854775807) := by
  have hc : Tryz.prog.cellsOf 55 = 4 := by kernel_rfl
  rcases DataW.trod_slice Tryz.underlying28 h with ⟨hcs, hx⟩ | ⟨a, len, cap, elems, rest, n, _, hcs, hx, hb, hl, hm, hlen, hel, _, _⟩
  · exact ⟨_, [], hcs, .inl ⟨rfl, none, 0, rfl⟩, .inl ⟨by rw [hx], rfl⟩, (fun f h => nomatch h)⟩
  · rw [hc] at hel
    rcases Nat.eq_zero_or_pos len with h0 | hpos
    · subst h0
      obtain rfl : elems = [] := List.length_eq_zero_iff.mp hlen
      exact ⟨_, [], hcs, .inl ⟨rfl, some a, cap, rfl⟩, .inr ⟨_, by rw [hx]; rfl⟩, (fun f h => nomatch h)⟩
    · have each : ∀ i, ∃ f : Fld, i < len → elems[i]?.map (·.1) = some (fldD f) ∧ ((-9223372036854775808 ≤ f.val.kind ∧ f.val.kind ≤ 9223372036854775807) ∧ (-9223372036854775808 ≤ f.val.n ∧ f.val.n ≤ 9223372036854775807)) ∧ ∀ j, j < 4 → W.cell? ((a.add (i * 4)).add j) = [.string f.name, .int .i64 f.val.kind, .int .i64 f.val.n, .string f.val.text][j]? := by
        intro i
        by_cases hi : i < len
        · have he := hel i hi
          rw [List.getElem?_eq_getElem (by omega), Option.bind_eq_some_iff] at he
          obtain ⟨cs', hcs', ht⟩ := he
          obtain ⟨_, _, hcell⟩ := World.cells?_some hcs'
          obtain ⟨f, rfl, hd, hbd⟩ := trod_fld ht
          exact ⟨f, fun _ => ⟨by rw [List.getElem?_eq_getElem (by omega)]; simp [hd], hbd, hcell⟩⟩
        · exact ⟨⟨⟨#[]⟩, ⟨0, 0, ⟨#[]⟩⟩⟩, fun c => absurd c hi⟩
      obtain ⟨F, hF⟩ := Classical.axiomOfChoice each
      have h00 := (hF 0 hpos).2.2 0 (by decide)
      have ha0 : ((a.add (0 * 4)).add 0) = a := by simp [Addr.add]
      rw [ha0] at h00
      have hsp := addr_plain h00
      obtain ⟨g, off, sp⟩ := a
      simp only at hsp
      subst hsp
      have hg : g < W.heap.size := by
        rcases Nat.lt_or_ge g W.heap.size with hlt | hge
        · exact hlt
        · simp [World.cell?, Array.getElem?_eq_none hge] at h00
      have hadd : ∀ i j, ((⟨g, off, none⟩ : Addr).add (i * 4)).add j = ⟨g, off + i * 4 + j, none⟩ := fun i j => by
        unfold Addr.add
        by_cases h1 : i * 4 = 0 <;> by_cases h2 : j = 0 <;> simp [h1, h2]
      refine ⟨_, (List.range len).map F, hcs, .inr ⟨g, off, cap, by simp, hg, fun W' hW' j hj => ?_⟩, .inr ⟨rest.map (·.1), ?_⟩, fun f hf => ?_⟩
      · have hj' : j < len := by simpa using hj
        have hc := (hF j hj').2.2
        simp only [hadd] at hc
        have e : ((List.range len).map F)[j] = F j := by simp
        rw [e]
        have turn : ∀ i v, W.cell? ⟨g, i, none⟩ = some v → W'.cell? ⟨g, i, none⟩ = some v := fun i v hv => by
          rw [← hv]; exact World.cell?_of_block (w := W) hW'
        exact ⟨turn _ _ (hc 0 (by decide)), turn _ _ (hc 1 (by decide)), turn _ _ (hc 2 (by decide)), turn _ _ (hc 3 (by decide))⟩
      · rw [hx]
        have e : elems.map (·.1) = ((List.range len).map F).map fldD := by
          apply List.ext_getElem?
          intro i
          rcases Nat.lt_or_ge i len with hi | hi
          · rw [List.getElem?_map, (hF i hi).1]
            simp [hi]
          · rw [List.getElem?_eq_none (by simp; omega), List.getElem?_eq_none (by simp; omega)]
        simp only [e]
      · obtain ⟨i, hi, rfl⟩ := List.mem_map.1 hf
        exact (hF i (List.mem_range.1 hi)).2.1
set_option maxRecDepth 100000 in
theorem weights_fld (f : Fld) : f.name.data.toList.length ∈ (fldD (H := H) f).weights Tryz.prog 55 ∧ f.val.text.data.toList.length ∈ (fldD (H := H) f).weights Tryz.prog 55 := by
  constructor <;> simp [fldD, valD, DataW.weights, DataW.weightsEach, Tryz.underlying55, Tryz.underlying23]
/-- A row of integers. -/
theorem open_ints' {fuel : Nat} {cs : List Value} {x : DataW H × List MemPlace} (h : DataW.trod enc Tryz.prog W base (fun _ => true) true fuel 38 cs = some x) :
    ∃ (v : Value) (bs : List Int), cs = [v] ∧ IntsAt W v bs ∧ ((x.1 = .nil ∧ bs = []) ∨ ∃ rest, x.1 = .slice (lits .i64 bs) rest) := by
  rcases open_ints Tryz.underlying38 Tryz.underlying3 (by kernel_rfl) h with ⟨hcs, hx⟩ | ⟨a, len, cap, zs, hcs, _, hl, hm, hz, hx, hcell, hwz⟩
  · exact ⟨_, [], hcs, .inl ⟨rfl, none, 0, rfl⟩, .inl ⟨by rw [hx], rfl⟩⟩
  · simp only [if_true] at hz
    have hlt : (zs.take len).length = len := by simp; omega
    refine ⟨_, zs.take len, hcs, ?_, .inr ⟨_, by rw [hx]⟩⟩
    rcases Nat.eq_zero_or_pos len with h0 | hpos
    · subst h0
      exact .inl ⟨by simp, some a, cap, rfl⟩
    · have hsome := hcell 0 (by omega)
      have ha0 : a.add 0 = a := by simp [Addr.add]
      rw [ha0] at hsome
      have hsp := addr_plain hsome
      obtain ⟨g, off, sp⟩ := a
      simp only at hsp
      subst hsp
      have hg : g < W.heap.size := by
        rcases Nat.lt_or_ge g W.heap.size with hlt | hge
        · exact hlt
        · simp [World.cell?, Array.getElem?_eq_none hge] at hsome
      refine .inr ⟨g, off, cap, by rw [hlt], hg, fun W' hW' j hj => ?_⟩
      have hj' : j < zs.length := by simp at hj; omega
      have := hcell j hj'
      have hjl : (zs.take len)[j] = zs.getD j 0 := by simp [List.getD, List.getElem?_eq_getElem hj']
      rw [hjl]
      have ha : (⟨g, off, none⟩ : Addr).add j = ⟨g, off + j, none⟩ := by unfold Addr.add; split <;> simp_all
      rw [ha] at this
      unfold World.cell? at this ⊢
      simp only [hW']
      exact this
/-- What the data of a vector is. -/
def VecD (x : Vec) (d : DataW H) : Prop := ∃ dv, d = .agg [.lit (.string x.name.data.toList), dv] ∧ ((dv = .nil ∧ x.v = []) ∨ ∃ rest, dv = .slice (lits .i64 x.v) rest)
set_option maxRecDepth 100000 in
theorem trod_vec {m : Nat} {cs : List Value} {y : DataW H × List MemPlace} (h : DataW.trod enc Tryz.prog W base (fun _ => true) true m 125 cs = some y) :
    ∃ (x : Vec) (s : Value), cs = [.string x.name, s] ∧ IntsAt W s x.v ∧ VecD x y.1 := by
  have hS : Tryz.prog.cellsOf 9 = 1 := by kernel_rfl
  have hV : Tryz.prog.cellsOf 38 = 1 := by kernel_rfl
  have hc : Tryz.prog.cellsOf 125 = 2 := by kernel_rfl
  obtain ⟨y0, y1, n, rfl, hl, h0, h1⟩ := trod_struct2 Tryz.underlying125 h
  rw [hc] at hl
  match cs, hl with
  | [c0, c1], _ =>
    simp only [hS, hV, List.drop_zero, List.drop_succ_cons, List.take_succ_cons, List.take_zero] at h0 h1
    obtain ⟨a, ha, ha', _⟩ := DataW.trod_string Tryz.underlying9 h0
    obtain rfl : c0 = .string a := by simpa using ha
    obtain ⟨s, bs, hs, hi, hd⟩ := open_ints' h1
    obtain rfl : c1 = s := by simpa using hs
    subst ha'
    exact ⟨⟨a, bs⟩, _, rfl, hi, _, rfl, hd⟩
set_option maxRecDepth 100000 in
/-- A row of vectors. -/
theorem open_vecs {fuel : Nat} {cs : List Value} {x : DataW H × List MemPlace} (h : DataW.trod enc Tryz.prog W base (fun _ => true) true fuel 27 cs = some x) :
    ∃ (v : Value) (L : List Vec), cs = [v] ∧ VecsAt W v L ∧ ((x.1 = .nil ∧ L = []) ∨ ∃ es rest, x.1 = .slice es rest ∧ es.length = L.length ∧ ∀ i (h : i < L.length) (h' : i < es.length), VecD L[i] es[i]) := by
  have hc : Tryz.prog.cellsOf 125 = 2 := by kernel_rfl
  rcases DataW.trod_slice Tryz.underlying27 h with ⟨hcs, hx⟩ | ⟨a, len, cap, elems, rest, n, _, hcs, hx, hb, hl, hm, hlen, hel, _, _⟩
  · exact ⟨_, [], hcs, .inl ⟨rfl, none, 0, rfl⟩, .inl ⟨by rw [hx], rfl⟩⟩
  · rw [hc] at hel
    rcases Nat.eq_zero_or_pos len with h0 | hpos
    · subst h0
      obtain rfl : elems = [] := List.length_eq_zero_iff.mp hlen
      exact ⟨_, [], hcs, .inl ⟨rfl, some a, cap, rfl⟩, .inr ⟨[], _, by rw [hx]; rfl, rfl, (fun i h => nomatch h)⟩⟩
    · have each : ∀ i, ∃ f : Vec × Value, i < len → (∀ h : i < elems.length, VecD f.1 (elems[i]).1) ∧ IntsAt W f.2 f.1.v ∧ ∀ j, j < 2 → W.cell? ((a.add (i * 2)).add j) = [.string f.1.name, f.2][j]? := by
        intro i
        by_cases hi : i < len
        · have he := hel i hi
          rw [List.getElem?_eq_getElem (by omega), Option.bind_eq_some_iff] at he
          obtain ⟨cs', hcs', ht⟩ := he
          obtain ⟨_, _, hcell⟩ := World.cells?_some hcs'
          obtain ⟨f, s, rfl, hs, hd⟩ := trod_vec ht
          exact ⟨(f, s), fun _ => ⟨fun _ => hd, hs, hcell⟩⟩
        · exact ⟨(⟨⟨#[]⟩, []⟩, .nilIface), fun c => absurd c hi⟩
      obtain ⟨F, hF⟩ := Classical.axiomOfChoice each
      have h00 := (hF 0 hpos).2.2 0 (by decide)
      have ha0 : ((a.add (0 * 2)).add 0) = a := by simp [Addr.add]
      rw [ha0] at h00
      have hsp := addr_plain h00
      obtain ⟨g, off, sp⟩ := a
      simp only at hsp
      subst hsp
      have hg : g < W.heap.size := by
        rcases Nat.lt_or_ge g W.heap.size with hlt | hge
        · exact hlt
        · simp [World.cell?, Array.getElem?_eq_none hge] at h00
      have hadd : ∀ i j, ((⟨g, off, none⟩ : Addr).add (i * 2)).add j = ⟨g, off + i * 2 + j, none⟩ := fun i j => by
        unfold Addr.add
        by_cases h1 : i * 2 = 0 <;> by_cases h2 : j = 0 <;> simp [h1, h2]
      refine ⟨_, (List.range len).map fun i => (F i).1, hcs, .inr ⟨g, off, cap, fun i => (F i).2, by simp, hg, fun W' hW' j hj => ?_, fun j hj => ?_⟩, .inr ⟨elems.map (·.1), rest.map (·.1), by rw [hx], by simp [hlen], fun i h1 h2 => ?_⟩⟩
      · have hj' : j < len := by simpa using hj
        have hc := (hF j hj').2.2
        simp only [hadd] at hc
        have e : ((List.range len).map fun i => (F i).1)[j] = (F j).1 := by simp
        rw [e]
        have turn : ∀ i v, W.cell? ⟨g, i, none⟩ = some v → W'.cell? ⟨g, i, none⟩ = some v := fun i v hv => by
          rw [← hv]; exact World.cell?_of_block (w := W) hW'
        exact ⟨turn _ _ (hc 0 (by decide)), turn _ _ (hc 1 (by decide))⟩
      · have hj' : j < len := by simpa using hj
        have e : ((List.range len).map fun i => (F i).1)[j] = (F j).1 := by simp
        rw [e]
        exact (hF j hj').2.1
      · have hi' : i < len := by simpa using h1
        have := (hF i hi').1 (by omega)
        simpa using this
set_option maxRecDepth 100000 in
theorem sized_vecs {L : List Vec} {d : DataW H} (h : ∀ n ∈ d.weights Tryz.prog 27, n ≤ reachBytes)
    (hL : (d = .nil ∧ L = []) ∨ ∃ es rest, d = .slice es rest ∧ es.length = L.length ∧ ∀ i (h : i < L.length) (h' : i < es.length), VecD L[i] es[i]) : VecsOk L := by
  have hr : reachBytes ≤ Room := by unfold Room reachBytes; omega
  rcases hL with ⟨_, rfl⟩ | ⟨es, rest, rfl, hel, hd⟩
  · exact ⟨Nat.zero_le _, (fun _ h => nomatch h)⟩
  · have hU := Tryz.underlying27
    have hU1 := Tryz.underlying125
    have hU2 := Tryz.underlying38
    have hbytes : 1 ≤ Tryz.prog.bytesOf 125 := of_decide_eq_true (by kernel_rfl)
    have hbytes2 : 1 ≤ Tryz.prog.bytesOf 3 := of_decide_eq_true (by kernel_rfl)
    refine ⟨?_, fun x hx => ?_⟩
    · have h1 := h ((es.length + rest.length) * Tryz.prog.bytesOf 125) (by simp [DataW.weights, hU])
      have h2 : es.length * 1 ≤ (es.length + rest.length) * Tryz.prog.bytesOf 125 := Nat.mul_le_mul (by omega) hbytes
      omega
    · obtain ⟨i, hi, rfl⟩ := List.getElem_of_mem hx
      obtain ⟨dv, he, hv⟩ := hd i hi (by omega)
      have hm : es[i]'(by omega) ∈ es := List.getElem_mem _
      have key : ∀ n, n ∈ (es[i]'(by omega)).weights Tryz.prog 125 → n ≤ Room := fun n hn => by
        have h1 := h n (by
          simp only [DataW.weights, hU, List.mem_cons, List.mem_append]
          exact .inr (.inl (wAll_mem hm n hn)))
        omega
      rw [he] at key
      refine ⟨?_, ?_⟩
      · have := key (L[i].name.data.toList.length) (by simp [DataW.weights, DataW.weightsEach, hU1])
        rw [Array.length_toList] at this
        exact this
      · rcases hv with ⟨rfl, hv⟩ | ⟨r2, rfl⟩
        · rw [hv]; exact Nat.zero_le _
        · have := key (((lits (H := H) .i64 L[i].v).length + r2.length) * Tryz.prog.bytesOf 3) (by simp [DataW.weights, DataW.weightsEach, hU1, hU2])
          have h2 : (lits (H := H) .i64 L[i].v).length * 1 ≤ ((lits (H := H) .i64 L[i].v).length + r2.length) * Tryz.prog.bytesOf 3 := Nat.mul_le_mul (by omega) hbytes2
          have h3 : (lits (H := H) .i64 L[i].v).length = L[i].v.length := by simp [lits]
          omega
set_option maxRecDepth 100000 in
theorem sized_flds' {L : List Fld} {d : DataW H} (h : ∀ n ∈ d.weights Tryz.prog 28, n ≤ reachBytes) (hL : (d = .nil ∧ L = []) ∨ ∃ rest, d = .slice (L.map fldD) rest) : FldsOk L := by
  have hr : reachBytes ≤ Room := by unfold Room reachBytes; omega
  rcases hL with ⟨_, rfl⟩ | ⟨rest, rfl⟩
  · exact ⟨Nat.zero_le _, (fun _ h => nomatch h)⟩
  · have hU := Tryz.underlying28
    have hbytes : 1 ≤ Tryz.prog.bytesOf 55 := of_decide_eq_true (by kernel_rfl)
    refine ⟨?_, fun x hx => ?_⟩
    · have h1 := h (((L.map (fldD (H := H))).length + rest.length) * Tryz.prog.bytesOf 55) (by simp [DataW.weights, hU])
      simp only [List.length_map] at h1
      have h2 : L.length * 1 ≤ (L.length + rest.length) * Tryz.prog.bytesOf 55 := Nat.mul_le_mul (by omega) hbytes
      omega
    · have hm : fldD (H := H) x ∈ L.map fldD := List.mem_map_of_mem hx
      have key : ∀ n, n ∈ (fldD (H := H) x).weights Tryz.prog 55 → n ≤ Room := fun n hn => by
        have h1 := h n (by
          simp only [DataW.weights, hU, List.mem_cons, List.mem_append]
          exact .inr (.inl (wAll_mem hm n hn)))
        omega
      obtain ⟨w1, w2⟩ := weights_fld (H := H) x
      have k1 := key _ w1
      have k2 := key _ w2
      rw [Array.length_toList] at k1 k2
      exact ⟨k1, k2⟩
/-- What the data of a point is. -/
def PtD (x : Pt) (d : DataW H) : Prop := ∃ dv df, d = .agg [.lit (.int .i64 x.id), dv, df] ∧
  ((dv = .nil ∧ x.vecs = []) ∨ ∃ es rest, dv = .slice es rest ∧ es.length = x.vecs.length ∧ ∀ i (h : i < x.vecs.length) (h' : i < es.length), VecD x.vecs[i] es[i]) ∧
  ((df = .nil ∧ x.flds = []) ∨ ∃ rest, df = .slice (x.flds.map fldD) rest)
/-- The numbers of a point are of 64 bits. -/
def PtN (x : Pt) : Prop := (Lit.int .i64 x.id).wf = true ∧ ∀ f ∈ x.flds, (Lit.int .i64 f.val.kind).wf = true ∧ (Lit.int .i64 f.val.n).wf = true
theorem wf_of {a : Int} (h : -9223372036854775808 ≤ a ∧ a ≤ 9223372036854775807) : (Lit.int .i64 a).wf = true := by
  simpa [Lit.wf, show IntKind.i64.min = -9223372036854775808 from rfl, show IntKind.i64.max = 9223372036854775807 from rfl] using h
theorem sl_of {w : World} {v : Value} {L : List Vec} (h : VecsAt w v L) : ∃ s : Sl, v = slv s := by
  rcases h with ⟨_, p, c, rfl⟩ | ⟨g, off, c, _, rfl, _⟩
  · exact ⟨⟨_, _, _⟩, rfl⟩
  · exact ⟨⟨_, _, _⟩, rfl⟩
theorem sl_of' {w : World} {v : Value} {L : List Fld} (h : FldsAt w v L) : ∃ s : Sl, v = slv s := by
  rcases h with ⟨_, p, c, rfl⟩ | ⟨g, off, c, rfl, _⟩
  · exact ⟨⟨_, _, _⟩, rfl⟩
  · exact ⟨⟨_, _, _⟩, rfl⟩
set_option maxRecDepth 100000 in
/-- A point. -/
theorem trod_pt {m : Nat} {cs : List Value} {y : DataW H × List MemPlace} (h : DataW.trod enc Tryz.prog W base (fun _ => true) true m 30 cs = some y) :
    ∃ (r : Rp) (x : Pt), cs = encP r ∧ PtW W r x ∧ PtD x y.1 ∧ PtN x := by
  have hI : Tryz.prog.cellsOf 3 = 1 := by kernel_rfl
  have hV : Tryz.prog.cellsOf 27 = 1 := by kernel_rfl
  have hF : Tryz.prog.cellsOf 28 = 1 := by kernel_rfl
  have hc : Tryz.prog.cellsOf 30 = 3 := by kernel_rfl
  obtain ⟨xs, n, _, rfl, hl, hlen, hf⟩ := DataW.trod_struct Tryz.underlying30 h
  rw [hc] at hl
  match cs, hl, xs, hlen with
  | [c0, c1, c2], _, [y0, y1, y2], _ =>
    have h0 : DataW.trod enc Tryz.prog W base (fun _ => true) true n 3 [c0] = some y0 := by simpa [hI] using hf 0 _ rfl
    have h1 : DataW.trod enc Tryz.prog W base (fun _ => true) true n 27 [c1] = some y1 := by simpa [hI, hV] using hf 1 _ rfl
    have h2 : DataW.trod enc Tryz.prog W base (fun _ => true) true n 28 [c2] = some y2 := by simpa [hI, hV, hF] using hf 2 _ rfl
    obtain ⟨a, ha, ha', wa⟩ := DataW.trod_int Tryz.underlying3 h0
    obtain ⟨u, L, hu, hU, hD⟩ := open_vecs h1
    obtain ⟨f, M, hff, hF, hE, hN⟩ := open_flds h2
    obtain rfl : c0 = .int .i64 a := by simpa using ha
    obtain rfl : c1 = u := by simpa using hu
    obtain rfl : c2 = f := by simpa using hff
    obtain ⟨s, rfl⟩ := sl_of hU
    obtain ⟨s', rfl⟩ := sl_of' hF
    refine ⟨⟨a, s, s'⟩, ⟨a, L, M⟩, rfl, ⟨rfl, hU, hF⟩, ⟨_, _, ?_, hD, hE⟩, wa, fun f hf => ⟨wf_of (hN f hf).1, wf_of (hN f hf).2⟩⟩
    simp [ha']
set_option maxRecDepth 100000 in
/-- A row of points. -/
theorem open_pts {fuel : Nat} {cs : List Value} {x : DataW H × List MemPlace} (h : DataW.trod enc Tryz.prog W base (fun _ => true) true fuel 36 cs = some x) :
    ∃ (v : Value) (L : List Pt), cs = [v] ∧ PtsAt W v L ∧ (∀ p ∈ L, PtN p) ∧ ((x.1 = .nil ∧ L = []) ∨ ∃ es rest, x.1 = .slice es rest ∧ es.length = L.length ∧ ∀ i (h : i < L.length) (h' : i < es.length), PtD L[i] es[i]) := by
  have hc : Tryz.prog.cellsOf 30 = 3 := by kernel_rfl
  rcases DataW.trod_slice Tryz.underlying36 h with ⟨hcs, hx⟩ | ⟨a, len, cap, elems, rest, n, _, hcs, hx, hb, hl, hm, hlen, hel, _, _⟩
  · exact ⟨_, [], hcs, ⟨[], .inl ⟨rfl, none, 0, rfl⟩, rfl, (fun j h => nomatch h)⟩, (fun p h => nomatch h), .inl ⟨by rw [hx], rfl⟩⟩
  · rw [hc] at hel
    rcases Nat.eq_zero_or_pos len with h0 | hpos
    · subst h0
      obtain rfl : elems = [] := List.length_eq_zero_iff.mp hlen
      exact ⟨_, [], hcs, ⟨[], .inl ⟨rfl, some a, cap, rfl⟩, rfl, (fun j h => nomatch h)⟩, (fun p h => nomatch h), .inr ⟨[], _, by rw [hx]; rfl, rfl, (fun i h1 h2 => nomatch h1)⟩⟩
    · have each : ∀ i, ∃ f : Rp × Pt, i < len → (∀ h : i < elems.length, PtD f.2 (elems[i]).1) ∧ PtW W f.1 f.2 ∧ PtN f.2 ∧ ∀ j, j < 3 → W.cell? ((a.add (i * 3)).add j) = (encP f.1)[j]? := by
        intro i
        by_cases hi : i < len
        · have he := hel i hi
          rw [List.getElem?_eq_getElem (by omega), Option.bind_eq_some_iff] at he
          obtain ⟨cs', hcs', ht⟩ := he
          obtain ⟨_, _, hcell⟩ := World.cells?_some hcs'
          obtain ⟨r, p, rfl, hs, hd, hn⟩ := trod_pt ht
          exact ⟨(r, p), fun _ => ⟨fun _ => hd, hs, hn, hcell⟩⟩
        · exact ⟨(default, ⟨0, [], []⟩), fun c => absurd c hi⟩
      obtain ⟨F, hF⟩ := Classical.axiomOfChoice each
      have h00 := (hF 0 hpos).2.2.2 0 (by decide)
      have ha0 : ((a.add (0 * 3)).add 0) = a := by simp [Addr.add]
      rw [ha0] at h00
      have hsp := addr_plain h00
      obtain ⟨g, off, sp⟩ := a
      simp only at hsp
      subst hsp
      have hg : g < W.heap.size := by
        rcases Nat.lt_or_ge g W.heap.size with hlt | hge
        · exact hlt
        · simp [World.cell?, Array.getElem?_eq_none hge, encP] at h00
      have hadd : ∀ i j, ((⟨g, off, none⟩ : Addr).add (i * 3)).add j = ⟨g, off + i * 3 + j, none⟩ := fun i j => by
        unfold Addr.add
        by_cases h1 : i * 3 = 0 <;> by_cases h2 : j = 0 <;> simp [h1, h2]
      refine ⟨_, (List.range len).map fun i => (F i).2, hcs, ⟨(List.range len).map fun i => (F i).1, .inr ⟨g, off, cap, by simp, hg, fun W' hW' j hj i u hu => ?_⟩, by simp, fun j hj hj2 => ?_⟩, fun p hp => ?_, .inr ⟨elems.map (·.1), rest.map (·.1), by rw [hx], by simp [hlen], fun i h1 h2 => ?_⟩⟩
      · have hj' : j < len := by simpa using hj
        have hc := (hF j hj').2.2.2
        simp only [hadd] at hc
        have e : ((List.range len).map fun i => (F i).1)[j] = (F j).1 := by simp
        rw [e] at hu
        have hi : i < 3 := (List.getElem?_eq_some_iff.1 hu).1
        rw [World.cell?_of_block (w := W) hW', hc i hi]
        exact hu
      · have hj' : j < len := by simpa using hj
        have e : ((List.range len).map fun i => (F i).1)[j] = (F j).1 := by simp
        have e2 : ((List.range len).map fun i => (F i).2)[j] = (F j).2 := by simp
        rw [e, e2]
        exact (hF j hj').2.1
      · obtain ⟨i, hi, rfl⟩ := List.mem_map.1 hp
        exact (hF i (List.mem_range.1 hi)).2.2.1
      · have hi' : i < len := by simpa using h1
        have := (hF i hi').1 (by omega)
        simpa using this
/-- A row of points of bearable size. -/
structure OkA (L : List Pt) : Prop where
  len : L.length * 56 ≤ 140737488351232
  ok : ∀ p ∈ L, OkP p
  vecs : ∀ p ∈ L, VecsOk p.vecs
  vlen : ∀ p ∈ L, p.vecs.length * 40 ≤ 140737488355328
  ints : ∀ p ∈ L, ∀ y ∈ p.vecs, y.v.length * 8 ≤ 140737488355328
  flen : ∀ p ∈ L, p.flds.length * 48 ≤ 140737488355328
set_option maxRecDepth 100000 in
theorem sized_pt1 {x : Pt} {d : DataW H} (key : ∀ n, n ∈ d.weights Tryz.prog 30 → n ≤ reachBytes) (hx : PtD x d) :
    VecsOk x.vecs ∧ FldsOk x.flds ∧ x.vecs.length * 40 ≤ 140737488355328 ∧ (∀ y ∈ x.vecs, y.v.length * 8 ≤ 140737488355328) ∧ x.flds.length * 48 ≤ 140737488355328 := by
  obtain ⟨dv, df, rfl, hV, hF⟩ := hx
  have hr : reachBytes ≤ 140737488355328 := by unfold reachBytes; omega
  have hU := Tryz.underlying30
  have kv : ∀ n ∈ dv.weights Tryz.prog 27, n ≤ reachBytes := fun n hn => key n (by
    simp only [DataW.weights, hU]
    simp [DataW.weightsEach, DataW.weights, hn])
  have kf : ∀ n ∈ df.weights Tryz.prog 28, n ≤ reachBytes := fun n hn => key n (by
    simp only [DataW.weights, hU]
    simp [DataW.weightsEach, DataW.weights, hn])
  have u1 := Tryz.underlying27
  have u2 := Tryz.underlying125
  have u3 := Tryz.underlying38
  have u4 := Tryz.underlying28
  have b1 : Tryz.prog.bytesOf 125 = 40 := by kernel_rfl
  have b2 : Tryz.prog.bytesOf 3 = 8 := by kernel_rfl
  have b3 : Tryz.prog.bytesOf 55 = 48 := by kernel_rfl
  refine ⟨sized_vecs kv hV, sized_flds' kf hF, ?_, ?_, ?_⟩
  · rcases hV with ⟨_, e⟩ | ⟨es, rest, rfl, hel, hdd⟩
    · rw [e]; simp
    · have h1 := kv ((es.length + rest.length) * Tryz.prog.bytesOf 125) (by simp [DataW.weights, u1])
      rw [b1] at h1
      omega
  · rcases hV with ⟨_, e⟩ | ⟨es, rest, rfl, hel, hdd⟩
    · rw [e]; simp
    · intro y hy
      obtain ⟨i, hi, rfl⟩ := List.getElem_of_mem hy
      obtain ⟨dw, he, hv⟩ := hdd i hi (by omega)
      rcases hv with ⟨_, e⟩ | ⟨r2, rfl⟩
      · rw [e]; simp
      · have hm : es[i]'(by omega) ∈ es := List.getElem_mem _
        have h1 := kv (((lits (H := H) .i64 x.vecs[i].v).length + r2.length) * Tryz.prog.bytesOf 3) (by
          simp only [DataW.weights, u1, List.mem_cons, List.mem_append]
          refine .inr (.inl (wAll_mem hm _ ?_))
          rw [he]
          simp [DataW.weights, DataW.weightsEach, u2, u3])
        rw [b2] at h1
        have h3 : (lits (H := H) .i64 x.vecs[i].v).length = x.vecs[i].v.length := by simp [lits]
        omega
  · rcases hF with ⟨_, e⟩ | ⟨rest, rfl⟩
    · rw [e]; simp
    · have h1 := kf (((x.flds.map (fldD (H := H))).length + rest.length) * Tryz.prog.bytesOf 55) (by simp [DataW.weights, u4])
      rw [b3] at h1
      simp only [List.length_map] at h1
      omega
set_option maxRecDepth 100000 in
theorem sized_pts {ts : List TypeId} {ds : List (DataW H)} {L : List Pt} {d : DataW H} (h : (DataW.weightsEach Tryz.prog ts ds).all (· ≤ reachBytes) = true) {j : Nat} (ht : ts[j]? = some 36) (hd : ds[j]? = some d) (hn : ∀ p ∈ L, PtN p)
    (hL : (d = .nil ∧ L = []) ∨ ∃ es rest, d = .slice es rest ∧ es.length = L.length ∧ ∀ i (h : i < L.length) (h' : i < es.length), PtD L[i] es[i]) : OkA L := by
  have hr : reachBytes = 140737488351232 := by rfl
  rcases hL with ⟨_, rfl⟩ | ⟨es, rest, rfl, hel, hdd⟩
  · exact ⟨Nat.zero_le _, (fun _ h => nomatch h), (fun _ h => nomatch h), (fun _ h => nomatch h), (fun _ h => nomatch h), (fun _ h => nomatch h)⟩
  · have hU := Tryz.underlying36
    have hbytes : Tryz.prog.bytesOf 30 = 56 := by kernel_rfl
    have each : ∀ p ∈ L, PtN p ∧ VecsOk p.vecs ∧ FldsOk p.flds ∧ p.vecs.length * 40 ≤ 140737488355328 ∧ (∀ y ∈ p.vecs, y.v.length * 8 ≤ 140737488355328) ∧ p.flds.length * 48 ≤ 140737488355328 := by
      intro p hp
      obtain ⟨i, hi, rfl⟩ := List.getElem_of_mem hp
      have hm : es[i]'(by omega) ∈ es := List.getElem_mem _
      refine ⟨hn _ hp, sized_pt1 (fun n hn => ?_) (hdd i hi (by omega))⟩
      have h1 := List.all_eq_true.1 h _ (DataW.weights_mem_each ht hd n (by
        simp only [DataW.weights, hU, List.mem_cons, List.mem_append]
        exact .inr (.inl (wAll_mem hm n hn))))
      simpa using h1
    refine ⟨?_, fun p hp => ?_, fun p hp => (each p hp).2.1, fun p hp => (each p hp).2.2.2.1, fun p hp => (each p hp).2.2.2.2.1, fun p hp => (each p hp).2.2.2.2.2⟩
    · have h1 := sized_slice h ht hd hU
      rw [hbytes, hr] at h1
      omega
    · obtain ⟨h1, _, h3, _⟩ := each p hp
      exact ⟨h1.1, h3, fun f hf => ⟨(h1.2 f hf).1, (h1.2 f hf).2, (h3.2 f hf).2⟩⟩
/-- A value of bearable size. -/
theorem sized_val {ts : List TypeId} {ds : List (DataW H)} {x : Val} (h : (DataW.weightsEach Tryz.prog ts ds).all (· ≤ reachBytes) = true) {j : Nat} (ht : ts[j]? = some 23) (hd : ds[j]? = some (valD (H := H) x))
    (h1 : -9223372036854775808 ≤ x.kind ∧ x.kind ≤ 9223372036854775807) (h2 : -9223372036854775808 ≤ x.n ∧ x.n ≤ 9223372036854775807) : OkV x := by
  have hr : reachBytes ≤ Room := by unfold Room reachBytes; omega
  refine ⟨wf_of h1, wf_of h2, ?_⟩
  have h3 := List.all_eq_true.1 h _ (DataW.weights_mem_each ht hd x.text.data.toList.length (by simp [valD, DataW.weights, DataW.weightsEach, Tryz.underlying23]))
  have h4 : x.text.data.toList.length ≤ reachBytes := by simpa using h3
  rw [Array.length_toList] at h4
  exact Nat.le_trans h4 hr
end
end Px
end Go.Proofs.YtclmalaomofahaaGreatDoor
