/- How a row of deeds that comes in as an argument is read: rows of structs by one law, faults, deeds. Conditions: those that each theorem names. -/
import Derived.Test.YtioidkbpjkcjeaaGreatDoorRfBoth
import Derived.Test.YtioidkbpjkcjeaaGreatDoorCrArgs
import Derived.Deep.Strs
namespace Go.Proofs.YtioidkbpjkcjeaaGreatDoor
set_option linter.unusedVariables false
open Go.ChangeShapes Go.WideShapes Go.ChangeAt Go.RowKit Go.Joins Go.Deep Dk
section
variable {H : Type} {enc : TypeId × Value → H} {W : World} {base : Nat} {b0 : Nat} {r : Reach}
theorem addr_flat {a : Addr} {v : Value} (h : W.cell? a = some v) : a.spot = none := by
  cases hs : a.spot with
  | none => rfl
  | some q =>
    simp [World.cell?, hs] at h
    split at h <;> simp at h
/-- Any row of structs. -/
theorem open_rows {α : Type} (x0 : α) {TS TE : TypeId} {c : Nat} (hU : Tryz.prog.underlying TS = some (.slice TE)) (hc : Tryz.prog.cellsOf TE = c) (hc0 : 0 < c) (cells : α → List Value) (hcl : ∀ x, (cells x).length = c) (P : α → DataW H → Prop)
    (hE : ∀ m cs y, DataW.trod enc Tryz.prog W base (fun _ => true) true m TE cs = some y → ∃ x, cs = cells x ∧ P x y.1) {fuel : Nat} {cs : List Value} {x : DataW H × List MemPlace} (h : DataW.trod enc Tryz.prog W base (fun _ => true) true fuel TS cs = some x) :
    ∃ (v : Value) (L : List α), cs = [v] ∧ ((L = [] ∧ ∃ p c, v = .slice p 0 c) ∨ ∃ g off cp, v = .slice (some ⟨g, off, none⟩) L.length cp ∧ g < W.heap.size ∧ ∀ W' : World, W'.heap[g]? = W.heap[g]? → ∀ j (h : j < L.length) i u, (cells L[j])[i]? = some u → W'.cell? ⟨g, off + j * c + i, none⟩ = some u) ∧
      ((x.1 = .nil ∧ L = []) ∨ ∃ es rest, x.1 = .slice es rest ∧ es.length = L.length ∧ ∀ i (h : i < L.length) (h' : i < es.length), P L[i] es[i]) := by
  rcases DataW.trod_slice hU h with ⟨hcs, hx⟩ | ⟨a, len, cap, elems, rest, n, _, hcs, hx, hb, hl, hm, hlen, hel, _, _⟩
  · exact ⟨_, [], hcs, .inl ⟨rfl, none, 0, rfl⟩, .inl ⟨by rw [hx], rfl⟩⟩
  · rw [hc] at hel
    rcases Nat.eq_zero_or_pos len with h0 | hpos
    · subst h0
      obtain rfl : elems = [] := List.length_eq_zero_iff.mp hlen
      exact ⟨_, [], hcs, .inl ⟨rfl, some a, cap, rfl⟩, .inr ⟨[], _, by rw [hx]; rfl, rfl, fun i h => nomatch h⟩⟩
    · have each : ∀ i, ∃ f : α, i < len → (∀ h : i < elems.length, P f (elems[i]).1) ∧ ∀ j, j < c → W.cell? ((a.add (i * c)).add j) = (cells f)[j]? := by
        intro i
        by_cases hi : i < len
        · have he := hel i hi
          rw [List.getElem?_eq_getElem (by omega), Option.bind_eq_some_iff] at he
          obtain ⟨cs', hcs', ht⟩ := he
          obtain ⟨_, _, hcell⟩ := World.cells?_some hcs'
          obtain ⟨f, rfl, hd⟩ := hE _ _ _ ht
          exact ⟨f, fun _ => ⟨fun _ => hd, hcell⟩⟩
        · exact ⟨x0, fun c => absurd c hi⟩
      obtain ⟨F, hF⟩ := Classical.axiomOfChoice each
      have h00 := (hF 0 hpos).2 0 hc0
      have ha0 : ((a.add (0 * c)).add 0) = a := by simp [Addr.add]
      rw [ha0, List.getElem?_eq_getElem (by rw [hcl]; exact hc0)] at h00
      have hsp := addr_flat h00
      obtain ⟨g, off, sp⟩ := a
      simp only at hsp
      subst hsp
      have hg : g < W.heap.size := by
        rcases Nat.lt_or_ge g W.heap.size with hlt | hge
        · exact hlt
        · simp [World.cell?, Array.getElem?_eq_none hge] at h00
      have hadd : ∀ i j, ((⟨g, off, none⟩ : Addr).add (i * c)).add j = ⟨g, off + i * c + j, none⟩ := fun i j => by
        unfold Addr.add
        by_cases h1 : i * c = 0 <;> by_cases h2 : j = 0 <;> simp [h1, h2]
      refine ⟨_, (List.range len).map fun i => F i, hcs, .inr ⟨g, off, cap, by simp, hg, fun W' hW' j hj i u hu => ?_⟩, .inr ⟨elems.map (·.1), rest.map (·.1), by rw [hx], by simp [hlen], fun i h1 h2 => ?_⟩⟩
      · have hj' : j < len := by simpa using hj
        have e : ((List.range len).map fun i => F i)[j] = F j := by simp
        rw [e] at hu
        have hi : i < c := by
          have := (List.getElem?_eq_some_iff.1 hu).1
          rwa [hcl] at this
        have hcc := (hF j hj').2 i hi
        rw [hadd, hu] at hcc
        rw [← hcc]; exact World.cell?_of_block (w := W) hW'
      · have hi' : i < len := by simpa using h1
        have := (hF i hi').1 (by omega)
        simpa using this
theorem bulk_pos {H : Type} (d : DataW H) : 1 ≤ Rows.uptoBulk d := by
  cases d with
  | lit l => cases l <;> simp [Rows.uptoBulk]
  | _ => simp [Rows.uptoBulk]
theorem bulk_mem {H : Type} : ∀ {l : List (DataW H)} {d : DataW H}, d ∈ l → Rows.uptoBulk d ≤ Rows.uptoBulkAll l
  | x :: r, d, h => by
    simp only [Rows.uptoBulkAll]
    rcases List.mem_cons.1 h with rfl | h
    · omega
    · have := bulk_mem h; omega
theorem bulk_len {H : Type} : ∀ {l : List (DataW H)}, (∀ d ∈ l, 1 ≤ Rows.uptoBulk d) → l.length ≤ Rows.uptoBulkAll l
  | [], _ => Nat.zero_le _
  | x :: r, h => by
    simp only [Rows.uptoBulkAll, List.length_cons]
    have h1 := h x (by simp)
    have h2 := bulk_len (l := r) (fun d hd => h d (by simp [hd]))
    omega
def okI (z : Int) : Prop := -9223372036854775808 ≤ z ∧ z ≤ 9223372036854775807
def fltOk (f : Int × Int × Int) : Prop := okI f.1 ∧ okI f.2.1 ∧ okI f.2.2
theorem okI_of {z : Int} (h : (Lit.int .i64 z).wf = true) : okI z := by simpa [okI, Lit.wf, show IntKind.i64.min = -9223372036854775808 from rfl] using h
set_option maxRecDepth 100000 in
theorem trod_flt {m : Nat} {cs : List Value} {y : DataW H × List MemPlace} (h : DataW.trod enc Tryz.prog W base (fun _ => true) true m 40 cs = some y) :
    ∃ f : Int × Int × Int, cs = [.int .i64 f.1, .int .i64 f.2.1, .int .i64 f.2.2] ∧ fltOk f := by
  have hI : Tryz.prog.cellsOf 3 = 1 := by kernel_rfl
  have hc : Tryz.prog.cellsOf 40 = 3 := by kernel_rfl
  obtain ⟨xs, n, _, rfl, hl, hlen, hf⟩ := DataW.trod_struct Tryz.underlying40 h
  rw [hc] at hl
  match cs, hl, xs, hlen with
  | [c0, c1, c2], _, [y0, y1, y2], _ =>
    have h0 : DataW.trod enc Tryz.prog W base (fun _ => true) true n 3 [c0] = some y0 := by simpa [hI] using hf 0 _ rfl
    have h1 : DataW.trod enc Tryz.prog W base (fun _ => true) true n 3 [c1] = some y1 := by simpa [hI] using hf 1 _ rfl
    have h2 : DataW.trod enc Tryz.prog W base (fun _ => true) true n 3 [c2] = some y2 := by simpa [hI] using hf 2 _ rfl
    obtain ⟨a, ha, ha', wa⟩ := DataW.trod_int Tryz.underlying3 h0
    obtain ⟨b, hb, hb', wb⟩ := DataW.trod_int Tryz.underlying3 h1
    obtain ⟨c, hc, hc', wc⟩ := DataW.trod_int Tryz.underlying3 h2
    obtain rfl : c0 = .int .i64 a := by simpa using ha
    obtain rfl : c1 = .int .i64 b := by simpa using hb
    obtain rfl : c2 = .int .i64 c := by simpa using hc
    exact ⟨⟨a, b, c⟩, rfl, okI_of wa, okI_of wb, okI_of wc⟩
/-- A row of faults. -/
theorem open_flts {fuel : Nat} {cs : List Value} {x : DataW H × List MemPlace} (h : DataW.trod enc Tryz.prog W base (fun _ => true) true fuel 30 cs = some x) :
    ∃ (v : Value) (L : List (Int × Int × Int)), cs = [v] ∧ FltR W v L ∧ (∀ f ∈ L, fltOk f) ∧ L.length ≤ Rows.uptoBulk x.1 := by
  obtain ⟨v, L, hcs, hrow, hdat⟩ := open_rows ((0, 0, 0) : Int × Int × Int) Tryz.underlying30 (show Tryz.prog.cellsOf 40 = 3 by kernel_rfl) (by decide) (fun f => [.int .i64 f.1, .int .i64 f.2.1, .int .i64 f.2.2]) (fun _ => rfl) (fun f _ => fltOk f)
    (fun m cs y h => trod_flt h) h
  refine ⟨v, L, hcs, ?_, fun f hf => ?_, ?_⟩
  · rcases hrow with h | ⟨g, off, cp, rfl, hg, hc⟩
    · exact .inl h
    · exact .inr ⟨g, off, cp, rfl, hg, fun W' hW j hj => ⟨hc W' hW j hj 0 _ rfl, hc W' hW j hj 1 _ rfl, hc W' hW j hj 2 _ rfl⟩⟩
  · rcases hdat with ⟨_, rfl⟩ | ⟨es, rest, _, hel, hd⟩
    · cases hf
    · obtain ⟨i, hi, rfl⟩ := List.getElem_of_mem hf
      exact hd i hi (by omega)
  · rcases hdat with ⟨_, rfl⟩ | ⟨es, rest, hx, hel, hd⟩
    · exact Nat.zero_le _
    · rw [hx]
      have := bulk_len (l := es) (fun d _ => bulk_pos d)
      simp only [Rows.uptoBulk]; omega
/-- A deed, plain, beside its two rows in memory. -/
structure DeedC where
  kind : Int
  a : ByteArray
  b : ByteArray
  n : Int
  fv : Value
  fl : List (Int × Int × Int)
  cn : Int
  cv : Value
  cl : List Int
def DeedC.cells (x : DeedC) : List Value := [.int .i64 x.kind, .string x.a, .string x.b, .int .i64 x.n, x.fv, .int .i64 x.cn, x.cv]
structure DeedIn (W : World) (x : DeedC) : Prop where
  kind : okI x.kind
  n : okI x.n
  row : FltR W x.fv x.fl
  flts : ∀ f ∈ x.fl, fltOk f
  cn : okI x.cn
  crow : IntsAt W x.cv x.cl
  clen : x.cl.length ≤ maxLen
  cok : ∀ z ∈ x.cl, okI z
  cown : x.cl = [] ∨ ∀ g, x.cv.ownBlock = some g → g < W.heap.size
def DeedD (W : World) (x : DeedC) (d : DataW H) : Prop := DeedIn W x ∧ x.a.size + x.b.size + x.fl.length + 1 ≤ Rows.uptoBulk d
/-- A row of deeds. -/
def DeedsAt (W : World) (v : Value) (L : List DeedC) : Prop :=
  (L = [] ∧ ∃ p c, v = .slice p 0 c) ∨ ∃ g off cp, v = .slice (some ⟨g, off, none⟩) L.length cp ∧ g < W.heap.size ∧ ∀ W' : World, W'.heap[g]? = W.heap[g]? → ∀ j (h : j < L.length) i u, (DeedC.cells L[j])[i]? = some u → W'.cell? ⟨g, off + j * 7 + i, none⟩ = some u
end
end Go.Proofs.YtioidkbpjkcjeaaGreatDoor
