/- How the arguments of the laws of disks lie in memory. Conditions: those that each theorem names. -/
import Derived.Test.YtadelkdecgljbaaDkSure
import Derived.OpenShut
import Derived.SizedLaws
import Derived.Lib.SmallJoins
import Derived.ChangeOld
import Derived.ChangeSlices
namespace Go.Proofs.Ytadelkdecgljbaa
open Go.ChangeShapes Go.WideShapes Go.ChangeAt Go.RowKit Go.Joins Go.Deep

/-- What a crash that came in holds. -/
structure CrashIn (W : World) (n : Int) (u : Value) (bs : List Int) : Prop where
  lo : -9223372036854775808 ≤ n
  hi : n ≤ 9223372036854775807
  row : IntsAt W u bs
  len : bs.length ≤ maxLen
  fits : ∀ x ∈ bs, -9223372036854775808 ≤ x ∧ x ≤ 9223372036854775807
  own : bs = [] ∨ ∀ g, u.ownBlock = some g → g < W.heap.size

section
variable {H : Type} {enc : TypeId × Value → H} {W : World} {base : Nat} {b0 : Nat} {r : Reach}

set_option maxRecDepth 100000 in
/-- Two texts. -/
theorem open_two {v : Value} {d : DataW H} {p : List MemPlace} (hv : Value.okWide Try.prog W r b0 56 v) (h : DataW.Trod enc Try.prog W base (fun _ => true) true 56 v d p) :
    ∃ a b : ByteArray, v = .agg #[.string a, .string b] ∧ d = .agg [.lit (.string a.data.toList), .lit (.string b.data.toList)] ∧ a.size ≤ maxLen ∧ b.size ≤ maxLen := by
  obtain ⟨n, hn⟩ := h
  have hu : Try.prog.underlying 56 = some (.array 2 9) := Try.underlying56
  have hc : Try.prog.cellsOf 56 = 2 := by kernel_rfl
  have hc1 : Try.prog.cellsOf 9 = 1 := by kernel_rfl
  unfold Value.okWide at hv
  rw [hu] at hv
  obtain ⟨cs, rfl, hsz, _⟩ := hv
  rw [hc] at hsz
  obtain ⟨c0, c1, rfl⟩ := array2 hsz
  obtain ⟨xs, m, _, hx, _, hlen, hel⟩ := DataW.trod_array hu hn
  rw [hc1] at hel
  have e0 := hel 0 (by decide)
  have e1 := hel 1 (by decide)
  match xs, hlen with
  | [y0, y1], _ =>
    simp [Value.cells] at e0 e1
    obtain ⟨s0, h0, h0', h0''⟩ := DataW.trod_string Try.underlying9 e0
    obtain ⟨s1, h1, h1', h1''⟩ := DataW.trod_string Try.underlying9 e1
    obtain rfl : c0 = .string s0 := by simpa using h0
    obtain rfl : c1 = .string s1 := by simpa using h1
    subst h0' h1'
    simp at hx
    exact ⟨s0, s1, rfl, hx.1, h0'', h1''⟩

set_option maxRecDepth 100000 in
/-- How far two texts that are the argument number j reach. -/
theorem sized_two {ts : List TypeId} {ds : List (DataW H)} {a b : List UInt8} (h : (DataW.weightsEach Try.prog ts ds).all (· ≤ reachBytes) = true) {j : Nat} (ht : ts[j]? = some 56) (hd : ds[j]? = some (.agg [.lit (.string a), .lit (.string b)])) :
    a.length ≤ reachBytes ∧ b.length ≤ reachBytes := by
  have hu : Try.prog.underlying 56 = some (.array 2 9) := Try.underlying56
  have h1 := List.all_eq_true.1 h _ (DataW.weights_mem_each ht hd a.length (by simp [DataW.weights, DataW.weightsAll, hu]))
  have h2 := List.all_eq_true.1 h _ (DataW.weights_mem_each ht hd b.length (by simp [DataW.weights, DataW.weightsAll, hu]))
  exact ⟨by simpa using h1, by simpa using h2⟩

/-- A row of integers. -/
theorem open_row {fuel : Nat} {cs : List Value} {x : DataW H × List MemPlace} (h : DataW.trod enc Try.prog W base (fun _ => true) true fuel 33 cs = some x) :
    ∃ (v : Value) (bs : List Int), cs = [v] ∧ IntsAt W v bs ∧ bs.length ≤ maxLen ∧ (∀ x ∈ bs, -9223372036854775808 ≤ x ∧ x ≤ 9223372036854775807) ∧ (bs = [] ∨ ∀ g, v.ownBlock = some g → g < W.heap.size) := by
  rcases open_ints Try.underlying33 Try.underlying3 (by kernel_rfl) h with ⟨hcs, _⟩ | ⟨a, len, cap, zs, hcs, _, hl, hm, hz, _, hcell, hwz⟩
  · exact ⟨_, [], hcs, .inl ⟨rfl, none, 0, rfl⟩, by simp, by simp, .inl rfl⟩
  · simp only [if_true] at hz
    have hlt : (zs.take len).length = len := by simp; omega
    rcases Nat.eq_zero_or_pos len with h0 | hpos
    · subst h0
      exact ⟨_, [], hcs, .inl ⟨rfl, some a, cap, rfl⟩, by simp, by simp, .inl rfl⟩
    · have hsome := hcell 0 (by omega)
      have hsp : a.spot = none := by
        cases hs : a.spot with
        | none => rfl
        | some q =>
          simp [World.cell?, Addr.add, hs] at hsome
          split at hsome <;> simp at hsome
      obtain ⟨g, off, sp⟩ := a
      simp only at hsp
      subst hsp
      have hg : g < W.heap.size := by
        rcases Nat.lt_or_ge g W.heap.size with hlt | hge
        · exact hlt
        · simp [World.cell?, Addr.add, Array.getElem?_eq_none hge] at hsome
      refine ⟨_, zs.take len, hcs, .inr ⟨g, off, cap, by rw [hlt], hg, fun W' hW' j hj => ?_⟩, by omega, fun x hx => ?_, .inr fun g' hg' => ?_⟩
      · have hj' : j < zs.length := by simp at hj; omega
        have := hcell j hj'
        have hjl : (zs.take len)[j] = zs.getD j 0 := by simp [List.getD, List.getElem?_eq_getElem hj']
        rw [hjl]
        have ha : (⟨g, off, none⟩ : Addr).add j = ⟨g, off + j, none⟩ := by unfold Addr.add; split <;> simp_all
        rw [ha] at this
        unfold World.cell? at this ⊢
        simp only [hW']
        exact this
      · have := hwz x (List.mem_of_mem_take hx)
        simpa [Lit.wf, show IntKind.i64.min = -9223372036854775808 from rfl] using this
      · have : g = g' := by simpa [Value.ownBlock] using hg'
        omega

set_option maxRecDepth 100000 in
/-- A crash. -/
theorem open_crash {v : Value} {d : DataW H} {p : List MemPlace} (hv : Value.okWide Try.prog W r b0 35 v) (h : DataW.Trod enc Try.prog W base (fun _ => true) true 35 v d p) :
    ∃ (n : Int) (u : Value) (bs : List Int), v = .agg #[.int .i64 n, u] ∧ CrashIn W n u bs := by
  obtain ⟨v0, v1, y0, y1, n, rfl, _, _, h0, h1⟩ := open_agg2 Try.underlying35 (by kernel_rfl) (by kernel_rfl) hv h
  obtain ⟨k, hk, _, hk'⟩ := DataW.trod_int Try.underlying3 h0
  obtain rfl : v0 = .int .i64 k := by simpa using hk
  obtain ⟨u, bs, hu, h1, h2, h3, h4⟩ := open_row h1
  obtain rfl : v1 = u := by simpa using hu
  have : -9223372036854775808 ≤ k ∧ k ≤ 9223372036854775807 := by simpa [Lit.wf, show IntKind.i64.min = -9223372036854775808 from rfl] using hk'
  exact ⟨k, _, bs, rfl, ⟨this.1, this.2, h1, h2, h3, h4⟩⟩

set_option maxRecDepth 100000 in
set_option maxHeartbeats 1000000 in
/-- A deed: only of what kind its cells are. -/
theorem open_deed {v : Value} {d : DataW H} {p : List MemPlace} (hv : Value.okWide Try.prog W r b0 37 v) (h : DataW.Trod enc Try.prog W base (fun _ => true) true 37 v d p) :
    ∃ (kind : Int) (a b : ByteArray) (n : Int) (fp : Option Addr) (fl fc : Nat) (cn : Int) (cp : Option Addr) (cl cc : Nat),
      v = .agg #[.int .i64 kind, .string a, .string b, .int .i64 n, .slice fp fl fc, .int .i64 cn, .slice cp cl cc] ∧ a.size ≤ maxLen ∧ b.size ≤ maxLen := by
  obtain ⟨fuel, hf⟩ := h
  obtain ⟨cs, rfl, hsz⟩ := okWide_struct Try.underlying37 hv
  rw [show Try.prog.cellsOf 37 = 7 by kernel_rfl] at hsz
  obtain ⟨l, rfl⟩ : ∃ l : List Value, cs = l.toArray := ⟨cs.toList, by simp⟩
  match l, hsz with
  | [c0, c1, c2, c3, c4, c5, c6], _ =>
    obtain ⟨xs, m, _, _, _, hlen, hel⟩ := DataW.trod_struct Try.underlying37 hf
    match xs, hlen with
    | [y0, y1, y2, y3, y4, y5], _ =>
      have hI : Try.prog.cellsOf 3 = 1 := by kernel_rfl
      have hS : Try.prog.cellsOf 9 = 1 := by kernel_rfl
      have hF : Try.prog.cellsOf 29 = 1 := by kernel_rfl
      have hC : Try.prog.cellsOf 35 = 2 := by kernel_rfl
      have e0 : DataW.trod enc Try.prog W base (fun _ => true) true m 3 [c0] = some y0 := by simpa [Value.cells, hI] using hel 0 _ rfl
      have e1 : DataW.trod enc Try.prog W base (fun _ => true) true m 9 [c1] = some y1 := by simpa [Value.cells, hS] using hel 1 _ rfl
      have e2 : DataW.trod enc Try.prog W base (fun _ => true) true m 9 [c2] = some y2 := by simpa [Value.cells, hS] using hel 2 _ rfl
      have e3 : DataW.trod enc Try.prog W base (fun _ => true) true m 3 [c3] = some y3 := by simpa [Value.cells, hI] using hel 3 _ rfl
      have e4 : DataW.trod enc Try.prog W base (fun _ => true) true m 29 [c4] = some y4 := by simpa [Value.cells, hF] using hel 4 _ rfl
      have e5 : DataW.trod enc Try.prog W base (fun _ => true) true m 35 [c5, c6] = some y5 := by simpa [Value.cells, hC] using hel 5 _ rfl
      clear hel hv hf
      obtain ⟨k, hk, _, _⟩ := DataW.trod_int Try.underlying3 e0
      obtain rfl : c0 = .int .i64 k := by simpa using hk
      obtain ⟨s, hs, _, hsl⟩ := DataW.trod_string Try.underlying9 e1
      obtain rfl : c1 = .string s := by simpa using hs
      obtain ⟨u, hu, _, hul⟩ := DataW.trod_string Try.underlying9 e2
      obtain rfl : c2 = .string u := by simpa using hu
      obtain ⟨n, hn, _, _⟩ := DataW.trod_int Try.underlying3 e3
      obtain rfl : c3 = .int .i64 n := by simpa using hn
      obtain ⟨fp, fl, fc, rfl⟩ : ∃ fp fl fc, c4 = .slice fp fl fc := by
        rcases DataW.trod_slice Try.underlying29 e4 with ⟨h, _⟩ | ⟨a, l, c, _, _, _, _, h, _⟩
        · exact ⟨_, _, _, by simpa using h⟩
        · exact ⟨_, _, _, by simpa using h⟩
      obtain ⟨z0, z1, n', _, _, g0, g1⟩ := trod_struct2 Try.underlying35 e5
      have hR : Try.prog.cellsOf 33 = 1 := by kernel_rfl
      simp [hI, hR] at g0 g1
      obtain ⟨cn, hcn, _, _⟩ := DataW.trod_int Try.underlying3 g0
      obtain rfl : c5 = .int .i64 cn := by simpa using hcn
      obtain ⟨cp, cl, cc, rfl⟩ : ∃ cp cl cc, c6 = .slice cp cl cc := by
        rcases DataW.trod_slice Try.underlying33 g1 with ⟨h, _⟩ | ⟨a, l, c, _, _, _, _, h, _⟩
        · exact ⟨_, _, _, by simpa using h⟩
        · exact ⟨_, _, _, by simpa using h⟩
      exact ⟨k, s, u, n, fp, fl, fc, cn, cp, cl, cc, rfl, hsl, hul⟩
end
end Go.Proofs.Ytadelkdecgljbaa
