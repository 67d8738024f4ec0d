/- How a quantizer, a row of numbers, a row of rows, a row of items, two numbers that come in as arguments are read. Conditions: those that each theorem names. -/
import Derived.Test.YtfgmkdghpdpdkaaScR
import Derived.Test.YtfgmkdghpdpdkaaRows
import Derived.OpenShut
import Derived.SizedLaws
import Derived.Lib.SmallJoins
import Derived.ChangeOld
import Derived.ChangeSlices
import Derived.ChangeSame
import Derived.SliceStrings
namespace Go.Proofs.Ytfgmkdghpdpdkaa
set_option linter.unusedVariables false
open Go Go.ChangeShapes Go.WideShapes Go.ChangeAt Go.RowKit Go.Joins Go.Deep
namespace Sc
section
variable {H : Type} {enc : TypeId × Value → H} {W : World} {base : Nat} {b0 : Nat} {r : Reach}
theorem addr_plain {a : Addr} {v : Value} (h : W.cell? a = some v) : a.spot = none := by
  cases hs : a.spot with
  | none => rfl
  | some q =>
    simp [World.cell?, hs] at h
    split at h <;> simp at h
theorem lt_plain {g off : Nat} {v : Value} (h : W.cell? ⟨g, off, none⟩ = some v) : g < W.heap.size := by
  rcases Nat.lt_or_ge g W.heap.size with hlt | hge
  · exact hlt
  · simp [World.cell?, Array.getElem?_eq_none hge] at h
abbrev In64 (x : Int) : Prop := -9223372036854775808 ≤ x ∧ x ≤ 9223372036854775807
theorem in64_of {x : Int} (w : (Lit.int .i64 x).wf = true) : In64 x := by simpa [Lit.wf, show IntKind.i64.min = -9223372036854775808 from rfl] using w
/-- An argument that is a row of numbers. -/
def NumsIn (W : World) (v : Value) (L : List Int) : Prop := IntsAt W v L ∧ L.length ≤ maxLen
set_option maxRecDepth 100000 in
/-- A row of numbers. -/
theorem open_nums {fuel : Nat} {cs : List Value} {x : DataW H × List MemPlace} (h : DataW.trod enc Try.prog W base (fun _ => true) true fuel 23 cs = some x) :
    ∃ (p : Option Addr) (n c : Nat) (L : List Int), cs = [.slice p n c] ∧ NumsIn W (.slice p n c) L ∧ ((x.1 = .nil ∧ L = []) ∨ ∃ rest, x.1 = .slice (lits .i64 L) rest) := by
  rcases open_ints Try.underlying23 Try.underlying3 (by kernel_rfl) h with ⟨hcs, hx⟩ | ⟨a, len, cap, zs, hcs, _, hl, hm, hz, hx, hcell, hwz⟩
  · exact ⟨_, _, _, [], hcs, ⟨.inl ⟨rfl, none, 0, rfl⟩, Nat.zero_le _⟩, .inl ⟨by rw [hx], rfl⟩⟩
  · simp only [if_true] at hz
    have hlt : (zs.take len).length = len := by simp; omega
    rcases Nat.eq_zero_or_pos len with h0 | hpos
    · subst h0
      exact ⟨_, _, _, [], hcs, ⟨.inl ⟨rfl, some a, cap, rfl⟩, Nat.zero_le _⟩, .inr ⟨_, by rw [hx]; rfl⟩⟩
    · have hsome := hcell 0 (by omega)
      have ha0 : a.add 0 = a := by simp [Addr.add]
      rw [ha0] at hsome
      have hsp := addr_plain hsome
      obtain ⟨g, off, sp⟩ := a
      simp only at hsp
      subst hsp
      have hg := lt_plain hsome
      refine ⟨_, _, _, zs.take len, hcs, ⟨.inr ⟨g, off, cap, by rw [hlt], hg, fun W' hW' j hj => ?_⟩, by rw [hlt]; omega⟩, .inr ⟨_, by rw [hx]⟩⟩
      have hj' : j < zs.length := by simp at hj; omega
      have := hcell j hj'
      have hjl : (zs.take len)[j] = zs.getD j 0 := by simp [List.getD, List.getElem?_eq_getElem hj']
      rw [hjl]
      rw [Rk.addr_at] at this
      unfold World.cell? at this ⊢
      simp only [hW']
      exact this
set_option maxRecDepth 100000 in
/-- A quantizer. -/
theorem open_sca {v : Value} {d : DataW H} {p : List MemPlace} (hv : Value.okWide Try.prog W r b0 25 v) (h : DataW.Trod enc Try.prog W base (fun _ => true) true 25 v d p) :
    ∃ (a b : Value) (lo hi : List Int), v = .agg #[a, b] ∧ NumsIn W a lo ∧ NumsIn W b hi := by
  obtain ⟨v0, v1, y0, y1, n, rfl, rfl, -, h0, h1⟩ := open_agg2 Try.underlying25 (by kernel_rfl) (by kernel_rfl) hv h
  obtain ⟨p0, n0, c0, L, hu, hU, _⟩ := open_nums h0
  obtain ⟨p1, n1, c1, M, hf, hF, _⟩ := open_nums h1
  obtain rfl : v0 = .slice p0 n0 c0 := by simpa using hu
  obtain rfl : v1 = .slice p1 n1 c1 := by simpa using hf
  exact ⟨_, _, L, M, rfl, hU, hF⟩
/-- An argument that is a row of rows. -/
def RowsIn (W : World) (v : Value) (M : List (List Int)) : Prop := RowsAt W v M ∧ M.length ≤ maxLen ∧ ∀ u ∈ M, u.length ≤ maxLen
set_option maxRecDepth 100000 in
/-- A row of rows. -/
theorem open_rrows {fuel : Nat} {cs : List Value} {x : DataW H × List MemPlace} (h : DataW.trod enc Try.prog W base (fun _ => true) true fuel 22 cs = some x) :
    ∃ (p : Option Addr) (n c : Nat) (M : List (List Int)), cs = [.slice p n c] ∧ RowsIn W (.slice p n c) M ∧ ((x.1 = .nil ∧ M = []) ∨ ∃ es rest, x.1 = .slice es rest ∧ es.length = M.length) := by
  have hc : Try.prog.cellsOf 23 = 1 := by kernel_rfl
  rcases DataW.trod_slice Try.underlying22 h with ⟨hcs, hx⟩ | ⟨a, len, cap, elems, rest, n, _, hcs, hx, hb, hl, hm, hlen, hel, _, _⟩
  · exact ⟨_, _, _, [], hcs, ⟨⟨none, 0, rfl, Nat.le_refl _, fun h => by simp at h⟩, Nat.zero_le _, fun u hu => nomatch hu⟩, .inl ⟨by rw [hx], rfl⟩⟩
  · rw [hc] at hel
    rcases Nat.eq_zero_or_pos len with h0 | hpos
    · subst h0
      obtain rfl : elems = [] := List.length_eq_zero_iff.mp hlen
      exact ⟨_, _, _, [], hcs, ⟨⟨some a, cap, rfl, Nat.zero_le _, fun h => by simp at h⟩, Nat.zero_le _, fun u hu => nomatch hu⟩, .inr ⟨[], _, by rw [hx]; rfl, rfl⟩⟩
    · have each : ∀ i, ∃ f : List Int × (Option Addr × Nat × Nat), i < len → NumsIn W (.slice f.2.1 f.2.2.1 f.2.2.2) f.1 ∧ W.cell? ((a.add (i * 1)).add 0) = some (.slice f.2.1 f.2.2.1 f.2.2.2) := by
        intro i
        by_cases hi : i < len
        · have he := hel i hi
          rw [List.getElem?_eq_getElem (by omega), Option.bind_eq_some_iff] at he
          obtain ⟨cs', hcs', ht⟩ := he
          obtain ⟨_, _, hcell⟩ := World.cells?_some hcs'
          obtain ⟨p0, n0, c0, L, rfl, hL, _⟩ := open_nums ht
          exact ⟨(L, (p0, n0, c0)), fun _ => ⟨hL, by simpa using hcell 0 (by decide)⟩⟩
        · exact ⟨([], (none, 0, 0)), fun c => absurd c hi⟩
      obtain ⟨F, hF⟩ := Classical.axiomOfChoice each
      have h00 := (hF 0 hpos).2
      have ha0 : ((a.add (0 * 1)).add 0) = a := by simp [Addr.add]
      rw [ha0] at h00
      have hsp := addr_plain h00
      obtain ⟨g, off, sp⟩ := a
      simp only at hsp
      subst hsp
      have hg := lt_plain h00
      have hadd : ∀ i, ((⟨g, off, none⟩ : Addr).add (i * 1)).add 0 = ⟨g, off + i, none⟩ := fun i => by
        rw [Rk.addr_at, Rk.addr_at, Nat.mul_one, Nat.add_zero]
      refine ⟨_, _, _, (List.range len).map fun i => (F i).1, hcs, ⟨⟨some ⟨g, off, none⟩, cap, by simp, by simpa using hl, fun _ => ⟨g, off, rfl, hg, fun k u hu => ?_⟩⟩, by simp; omega, fun u hu => ?_⟩, .inr ⟨elems.map (·.1), rest.map (·.1), by rw [hx], by simp [hlen]⟩⟩
      · have hk : k < len := by have := (List.getElem?_eq_some_iff.1 hu).1; simpa using this
        have e : u = (F k).1 := by simpa [hk] using hu.symm
        subst e
        obtain ⟨⟨h1, _⟩, h2⟩ := hF k hk
        rw [hadd] at h2
        obtain ⟨pf, cf, ef⟩ := h1.form
        rw [ef] at h1 h2
        exact ⟨pf, cf, fun wr hw => (World.cell?_of_block (hw.block g hg)).trans h2, h1⟩
      · obtain ⟨i, hi, rfl⟩ := List.mem_map.1 hu
        exact ((hF i (List.mem_range.1 hi)).1).2
/-- An argument that is a row of items. -/
def ItemsIn (W : World) (v : Value) (E : List It) : Prop := Rk.RowAt encT 2 W v E ∧ (∀ e ∈ E, ItW W e ∧ e.V.length ≤ maxLen ∧ e.n = e.V.length) ∧ E.length ≤ maxLen
set_option maxRecDepth 100000 in
/-- A row of items. -/
theorem open_items {fuel : Nat} {cs : List Value} {x : DataW H × List MemPlace} (h : DataW.trod enc Try.prog W base (fun _ => true) true fuel 46 cs = some x) :
    ∃ (p : Option Addr) (n c : Nat) (E : List It), cs = [.slice p n c] ∧ ItemsIn W (.slice p n c) E ∧ ((x.1 = .nil ∧ E = []) ∨ ∃ es rest, x.1 = .slice es rest ∧ es.length = E.length) := by
  have hc : Try.prog.cellsOf 49 = 2 := by kernel_rfl
  have hI : Try.prog.cellsOf 3 = 1 := by kernel_rfl
  have hS : Try.prog.cellsOf 23 = 1 := by kernel_rfl
  rcases DataW.trod_slice Try.underlying46 h with ⟨hcs, hx⟩ | ⟨a, len, cap, elems, rest, n, _, hcs, hx, hb, hl, hm, hlen, hel, _, _⟩
  · exact ⟨_, _, _, [], hcs, ⟨.inl ⟨rfl, none, 0, rfl⟩, (fun u hu => nomatch hu), Nat.zero_le _⟩, .inl ⟨by rw [hx], rfl⟩⟩
  · rw [hc] at hel
    rcases Nat.eq_zero_or_pos len with h0 | hpos
    · subst h0
      obtain rfl : elems = [] := List.length_eq_zero_iff.mp hlen
      exact ⟨_, _, _, [], hcs, ⟨.inl ⟨rfl, some a, cap, rfl⟩, (fun u hu => nomatch hu), Nat.zero_le _⟩, .inr ⟨[], _, by rw [hx]; rfl, rfl⟩⟩
    · have each : ∀ i, ∃ f : It, i < len → (ItW W f ∧ f.V.length ≤ maxLen ∧ f.n = f.V.length) ∧ ∀ j, j < 2 → W.cell? ((a.add (i * 2)).add j) = (encT f)[j]? := by
        intro i
        by_cases hi : i < len
        · have he := hel i hi
          rw [List.getElem?_eq_getElem (by omega), Option.bind_eq_some_iff] at he
          obtain ⟨cs', hcs', ht⟩ := he
          obtain ⟨_, _, hcell⟩ := World.cells?_some hcs'
          obtain ⟨y0, y1, n', rfl', hl', h0, h1⟩ := trod_struct2 Try.underlying49 ht
          rw [hc] at hl'
          match cs', hl' with
          | [c0, c1], _ =>
            simp only [hI, hS, List.drop_zero, List.drop_succ_cons, List.take_succ_cons, List.take_zero] at h0 h1
            obtain ⟨k, hk, _, _⟩ := DataW.trod_int Try.underlying3 h0
            obtain rfl : c0 = .int .i64 k := by simpa using hk
            obtain ⟨p0, n0, c0', L, hL1, hL, _⟩ := open_nums h1
            obtain rfl : c1 = .slice p0 n0 c0' := by simpa using hL1
            obtain ⟨pf, cf, ef⟩ := hL.1.form
            injection ef with _ en _
            exact ⟨⟨k, p0, n0, c0', L⟩, fun _ => ⟨⟨hL.1, hL.2, en⟩, hcell⟩⟩
        · exact ⟨default, fun c => absurd c hi⟩
      obtain ⟨F, hF⟩ := Classical.axiomOfChoice each
      have h00 := (hF 0 hpos).2 0 (by decide)
      have ha0 : ((a.add (0 * 2)).add 0) = a := by simp [Addr.add]
      rw [ha0] at h00
      have hsp := addr_plain (show W.cell? a = some (.int .i64 (F 0).id) from h00)
      obtain ⟨g, off, sp⟩ := a
      simp only at hsp
      subst hsp
      have hg := lt_plain (show W.cell? ⟨g, off, none⟩ = some (.int .i64 (F 0).id) from h00)
      have hadd : ∀ i j, ((⟨g, off, none⟩ : Addr).add (i * 2)).add j = ⟨g, off + i * 2 + j, none⟩ := fun i j => by
        rw [Rk.addr_at, Rk.addr_at]
      refine ⟨_, _, _, (List.range len).map F, hcs, ⟨.inr ⟨g, off, cap, by simp, hg, fun W' hW' j hj i u hu => ?_⟩, fun u hu => ?_, by simp; omega⟩, .inr ⟨elems.map (·.1), rest.map (·.1), by rw [hx], by simp [hlen]⟩⟩
      · have hj' : j < len := by simpa using hj
        have e : ((List.range len).map F)[j] = F j := by simp
        rw [e] at hu
        have hi : i < 2 := (List.getElem?_eq_some_iff.1 hu).1
        have hc := (hF j hj').2 i hi
        rw [hadd, hu] at hc
        rw [← hc]
        exact World.cell?_of_block hW'
      · obtain ⟨i, hi, rfl⟩ := List.mem_map.1 hu
        exact (hF i (List.mem_range.1 hi)).1
set_option maxRecDepth 100000 in
theorem open_ints2 {v : Value} {d : DataW H} {p : List MemPlace} (hv : Value.okWide Try.prog W r b0 45 v) (h : DataW.Trod enc Try.prog W base (fun _ => true) true 45 v d p) :
    ∃ a b : Int, v = .agg #[.int .i64 a, .int .i64 b] ∧ In64 a ∧ In64 b := by
  obtain ⟨n, hn⟩ := h
  have hu : Try.prog.underlying 45 = some (.array 2 3) := Try.underlying45
  have hc : Try.prog.cellsOf 45 = 2 := by kernel_rfl
  have hc1 : Try.prog.cellsOf 3 = 1 := by kernel_rfl
  unfold Value.okWide at hv
  rw [hu] at hv
  obtain ⟨cs, rfl, hsz, _⟩ := hv
  rw [hc] at hsz
  obtain ⟨c0, c1, rfl⟩ := array2 hsz
  obtain ⟨xs, m, _, hx, _, hlen, hel⟩ := DataW.trod_array hu hn
  rw [hc1] at hel
  have e0 := hel 0 (by decide)
  have e1 := hel 1 (by decide)
  match xs, hlen with
  | [y0, y1], _ =>
    simp [Value.cells] at e0 e1
    obtain ⟨a, h0, h0', w0⟩ := DataW.trod_int Try.underlying3 e0
    obtain ⟨b, h1, h1', w1⟩ := DataW.trod_int Try.underlying3 e1
    obtain rfl : c0 = .int .i64 a := by simpa using h0
    obtain rfl : c1 = .int .i64 b := by simpa using h1
    exact ⟨a, b, rfl, in64_of w0, in64_of w1⟩
end
end Sc
end Go.Proofs.Ytfgmkdghpdpdkaa
