/- How a row of a log's deeds that comes in as an argument is read. Conditions: those that each theorem names. -/
import Derived.Test.YtioidkbpjkcjeaaGreatDoorRfArgs
import Derived.Test.YtioidkbpjkcjeaaGreatDoorWlDc
namespace Go.Proofs.YtioidkbpjkcjeaaGreatDoor
set_option linter.unusedVariables false
open Go Go.ChangeShapes Go.WideShapes Go.ChangeAt Go.RowKit Go.Joins Go.Deep Dk
namespace Wl
section
variable {H : Type} {enc : TypeId × Value → H} {W : World} {base : Nat}
/-- A deed, plain, beside its row in memory. -/
structure DeedC where
  kind : Int
  body : ByteArray
  seq : Int
  step : Int
  flt : Int × Int × Int
  cn : Int
  cv : Value
  cl : List Int
def DeedC.cells (x : DeedC) : List Value := [.int .i64 x.kind, .string x.body, .int .i64 x.seq, .int .i64 x.step, .int .i64 x.flt.1, .int .i64 x.flt.2.1, .int .i64 x.flt.2.2, .int .i64 x.cn, x.cv]
structure DeedIn (W : World) (x : DeedC) : Prop where
  kind : okI x.kind
  seq : okI x.seq
  step : okI x.step
  flt : fltOk x.flt
  cn : okI x.cn
  crow : IntsAt W x.cv x.cl
  clen : x.cl.length ≤ maxLen
  cok : ∀ z ∈ x.cl, okI z
  cown : x.cl = [] ∨ ∀ g, x.cv.ownBlock = some g → g < W.heap.size
def DeedD (W : World) (x : DeedC) (d : DataW H) : Prop := DeedIn W x ∧ x.body.size + 1 ≤ Rows.uptoBulk d
set_option maxRecDepth 100000 in
set_option maxHeartbeats 1000000 in
theorem trod_deed {m : Nat} {cs : List Value} {y : DataW H × List MemPlace} (h : DataW.trod enc Tryz.prog W base (fun _ => true) true m 45 cs = some y) :
    ∃ x : DeedC, cs = x.cells ∧ DeedD W x y.1 := by
  have hI : Tryz.prog.cellsOf 3 = 1 := by kernel_rfl
  have hS : Tryz.prog.cellsOf 9 = 1 := by kernel_rfl
  have hF : Tryz.prog.cellsOf 40 = 3 := by kernel_rfl
  have hC : Tryz.prog.cellsOf 43 = 2 := by kernel_rfl
  have hR : Tryz.prog.cellsOf 41 = 1 := by kernel_rfl
  have hc : Tryz.prog.cellsOf 45 = 9 := by kernel_rfl
  obtain ⟨xs, k, _, rfl, hl, hlen, hel⟩ := DataW.trod_struct Tryz.underlying45 h
  rw [hc] at hl
  match cs, hl, xs, hlen with
  | [c0, c1, c2, c3, c4, c5, c6, c7, c8], _, [y0, y1, y2, y3, y4, y5], _ =>
    have e0 : DataW.trod enc Tryz.prog W base (fun _ => true) true k 3 [c0] = some y0 := by simpa [hI] using hel 0 _ rfl
    have e1 : DataW.trod enc Tryz.prog W base (fun _ => true) true k 9 [c1] = some y1 := by simpa [hS] using hel 1 _ rfl
    have e2 : DataW.trod enc Tryz.prog W base (fun _ => true) true k 3 [c2] = some y2 := by simpa [hI] using hel 2 _ rfl
    have e3 : DataW.trod enc Tryz.prog W base (fun _ => true) true k 3 [c3] = some y3 := by simpa [hI] using hel 3 _ rfl
    have e4 : DataW.trod enc Tryz.prog W base (fun _ => true) true k 40 [c4, c5, c6] = some y4 := by simpa [hF] using hel 4 _ rfl
    have e5 : DataW.trod enc Tryz.prog W base (fun _ => true) true k 43 [c7, c8] = some y5 := by simpa [hC] using hel 5 _ rfl
    clear hel h
    obtain ⟨kd, hk, _, wk⟩ := DataW.trod_int Tryz.underlying3 e0
    obtain rfl : c0 = .int .i64 kd := by simpa using hk
    obtain ⟨s, hs, hs', _⟩ := DataW.trod_string Tryz.underlying9 e1
    obtain rfl : c1 = .string s := by simpa using hs
    obtain ⟨sq, hq, _, wq⟩ := DataW.trod_int Tryz.underlying3 e2
    obtain rfl : c2 = .int .i64 sq := by simpa using hq
    obtain ⟨n, hn, _, wn⟩ := DataW.trod_int Tryz.underlying3 e3
    obtain rfl : c3 = .int .i64 n := by simpa using hn
    obtain ⟨f, hf, hfo⟩ := trod_flt e4
    obtain ⟨rfl, rfl, rfl⟩ : c4 = .int .i64 f.1 ∧ c5 = .int .i64 f.2.1 ∧ c6 = .int .i64 f.2.2 := by simpa using hf
    obtain ⟨z0, z1, n', _, _, g0, g1⟩ := trod_struct2 Tryz.underlying43 e5
    simp [hI, hR] at g0 g1
    obtain ⟨cn, hcn, _, wc⟩ := DataW.trod_int Tryz.underlying3 g0
    obtain rfl : c7 = .int .i64 cn := by simpa using hcn
    obtain ⟨cv, cl, hcv, i1, i2, i3, i4⟩ := open_row g1
    obtain rfl : c8 = cv := by simpa using hcv
    refine ⟨⟨kd, s, sq, n, f, cn, _, cl⟩, rfl, ⟨okI_of wk, okI_of wq, okI_of wn, hfo, okI_of wc, i1, i2, i3, i4⟩, ?_⟩
    have l1 : s.data.toList.length = s.size := by rw [Array.length_toList]; rfl
    simp only [List.map_cons, List.map_nil, Rows.uptoBulk, Rows.uptoBulkAll, hs', l1]
    omega
/-- A row of deeds. -/
def DeedsAt (W : World) (v : Value) (L : List DeedC) : Prop :=
  (L = [] ∧ ∃ p c, v = .slice p 0 c) ∨ ∃ g off cp, v = .slice (some ⟨g, off, none⟩) L.length cp ∧ g < W.heap.size ∧ ∀ W' : World, W'.heap[g]? = W.heap[g]? → ∀ j (h : j < L.length) i u, (DeedC.cells L[j])[i]? = some u → W'.cell? ⟨g, off + j * 9 + i, none⟩ = some u
theorem open_deeds {fuel : Nat} {cs : List Value} {x : DataW H × List MemPlace} (h : DataW.trod enc Tryz.prog W base (fun _ => true) true fuel 22 cs = some x) :
    ∃ (v : Value) (L : List DeedC), cs = [v] ∧ DeedsAt W v L ∧ (∀ y ∈ L, DeedIn W y) ∧ L.length ≤ Rows.uptoBulk x.1 ∧ ∀ y ∈ L, y.body.size ≤ Rows.uptoBulk x.1 := by
  obtain ⟨v, L, hcs, hrow, hdat⟩ := open_rows (⟨0, ⟨#[]⟩, 0, 0, (0, 0, 0), 0, .nilIface, []⟩ : DeedC) Tryz.underlying22 (show Tryz.prog.cellsOf 45 = 9 by kernel_rfl) (by decide) DeedC.cells (fun _ => rfl) (DeedD W)
    (fun m cs y h => trod_deed h) h
  refine ⟨v, L, hcs, hrow, ?_⟩
  rcases hdat with ⟨_, rfl⟩ | ⟨es, rest, hx, hel, hd⟩
  · exact ⟨fun _ h => (nomatch h), Nat.zero_le _, fun _ h => (nomatch h)⟩
  · rw [hx]
    have each : ∀ i (hi : i < L.length), DeedIn W L[i] ∧ (L[i]).body.size + 1 ≤ Rows.uptoBulk (es[i]'(by omega)) := fun i hi => hd i hi (by omega)
    have h1 : es.length ≤ Rows.uptoBulkAll es := bulk_len (fun d hm => by
      obtain ⟨i, hi, rfl⟩ := List.getElem_of_mem hm
      have := (each i (by omega)).2; omega)
    refine ⟨fun y hy => ?_, ?_, fun y hy => ?_⟩
    · obtain ⟨i, hi, rfl⟩ := List.getElem_of_mem hy; exact (each i hi).1
    · simp only [Rows.uptoBulk]; omega
    · obtain ⟨i, hi, rfl⟩ := List.getElem_of_mem hy
      have := (each i hi).2
      have := bulk_mem (List.getElem_mem (l := es) (n := i) (by omega))
      simp only [Rows.uptoBulk]; omega
end
end Wl
end Go.Proofs.YtioidkbpjkcjeaaGreatDoor
