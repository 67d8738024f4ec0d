/- Out of what a row lists of variables: what manifest's calls ask of a world. Conditions: none but those that each theorem names. How a manifest that comes in as an argument is read. How a crash that comes in as an argument is read. How a row of deeds that comes in as an argument is read: rows of structs by one law, faults, deeds. How a row of manifests, a row of faults and a crash that come in as arguments are read. Conditions: those that each theorem names. -/
import Derived.Test.YtkbdokakoapooaaGreatDoorMfA
import Derived.Test.YtkbdokakoapooaaGreatDoorRows
import Derived.Lib.LaidTab
import Derived.Lib.LaidU8
import Derived.Stop.LaidErr
import Derived.MakeChecks
import Derived.Test.YtkbdokakoapooaaGreatDoorMfRow
import Derived.OpenShut
import Derived.SizedLaws
import Derived.Lib.SmallJoins
import Derived.ChangeOld
import Derived.ChangeSlices
import Derived.ChangeSame
import Derived.Deep.Strs
import Derived.Test.YtkbdokakoapooaaGreatDoorGaF
import Derived.Test.YtkbdokakoapooaaGreatDoorRfBoth
namespace Go.Proofs.YtkbdokakoapooaaGreatDoor
set_option linter.unusedVariables false
open Go Go.RowKit Go.Shelf
namespace Mf
theorem star : "*" ++ "errors.errorString" = "*errors.errorString" := by decide
theorem rowE (u : TypeId) (h : Tryz.prog.typeName? 3 u = some "*errors.errorString") : u = 296 :=
  typeName_ptr_named (nm := "errors.errorString") (by rw [star]; kernel_rfl) (by kernel_rfl) (by decide) u (by rw [star]; exact h)
theorem gN_le {W : World} (h : W.ShapedOpen Tryz.prog) : gN ≤ W.heap.size := by
  have hs : (((begin Tryz.prog (fun _ _ => 0) default).world.heap[Tryz.prog.globals.size - 1]?).bind Obj.row?).isSome = true := by kernel_rfl
  obtain ⟨⟨z, t⟩, hzt⟩ := Option.isSome_iff_exists.1 hs
  have hp : Tryz.prog.globals.size - 1 < Tryz.prog.globals.size := of_decide_eq_true (by kernel_rfl)
  obtain ⟨cs, hc, _⟩ := h.1 _ z t hp hzt
  have := (Array.getElem?_eq_some_iff.1 hc).1
  unfold gN
  omega
theorem same_cell {W X : World} (h : Same8 W X) {g k : Nat} (hg : g < gN) : X.cell? ⟨g, k, none⟩ = W.cell? ⟨g, k, none⟩ := World.cell?_of_block (w := W) (h g hg)
theorem same_var {W X : World} (h : Same8 W X) {n : String} {g : Nat} (hn : Tryz.prog.globalNamed n = some g) (hg : g < gN) : X.var? Tryz.prog n = W.var? Tryz.prog n := by
  unfold World.var?
  rw [hn]
  simp only [Option.bind_some]
  rw [h g hg]
theorem gh_of {W : World} {r : List (String × DataW Unit)} (hsh : W.ShapedOpen Tryz.prog)
    (hL : laidMet Tryz.prog (("math/bits.deBruijn32tab", Rows.laid_math_bits_deBruijn32tab) :: ("math/bits.deBruijn64tab", Rows.laid_math_bits_deBruijn64tab) :: ("internal/strconv.uint64pow10", Rows.laid_internal_strconv_uint64pow10) :: ("unicode/utf8.acceptRanges", Rows.laid_unicode_utf8_acceptRanges) :: ("strconv.ErrRange", Rows.laid_strconv_ErrRange) :: ("strconv.ErrSyntax", Rows.laid_strconv_ErrSyntax) :: r) W) : Gh W := by
  have hT : Lib.TabIs Tryz.prog W "internal/strconv.uint64pow10" .u64 Lib.pow10Tab :=
    Lib.tabIs_of_head (g := 1) (by kernel_rfl) (by kernel_rfl) Tryz.underlying261 Tryz.underlying145 (by kernel_rfl) (by kernel_rfl) hL.tail.tail
  obtain ⟨a0, t0, hv0, -, -, -⟩ := laid_sentinel (g := 6) hL.tail.tail.tail.tail (by kernel_rfl) (by kernel_rfl) Tryz.underlying128 rowE Tryz.underlying296 Tryz.underlying298 rfl rfl Tryz.underlying9 (by kernel_rfl) (by kernel_rfl)
  obtain ⟨a1, t1, hv1, -, -, -⟩ := laid_sentinel (g := 5) hL.tail.tail.tail.tail.tail (by kernel_rfl) (by kernel_rfl) Tryz.underlying128 rowE Tryz.underlying296 Tryz.underlying298 rfl rfl Tryz.underlying9 (by kernel_rfl) (by kernel_rfl)
  have c0 : W.cell? ⟨6, 0, none⟩ = some (.iface 296 (.pointer (some a0))) := World.var?_cell (by kernel_rfl) hv0 0
  have c1 : W.cell? ⟨5, 0, none⟩ = some (.iface 296 (.pointer (some a1))) := World.var?_cell (by kernel_rfl) hv1 0
  obtain ⟨m, hm⟩ := Tryz.laysM145.s1_3 W hsh
  have hm' : W.cell? ⟨2, 0, none⟩ = some (.int .i64 m) := hm
  have b0 : 6 < gN := of_decide_eq_true (by kernel_rfl)
  have b1 : 5 < gN := of_decide_eq_true (by kernel_rfl)
  have b2 : 2 < gN := of_decide_eq_true (by kernel_rfl)
  have b3 : 1 < gN := of_decide_eq_true (by kernel_rfl)
  exact ⟨gN_le hsh, ⟨m, fun X h => (same_cell h b2).trans hm'⟩, ⟨_, _, fun X h => (same_cell h b1).trans c1⟩, ⟨_, _, fun X h => (same_cell h b0).trans c0⟩,
    fun X h => (same_var h (by kernel_rfl) b3).trans hT⟩
end Mf
end Go.Proofs.YtkbdokakoapooaaGreatDoor
namespace Go.Proofs.YtkbdokakoapooaaGreatDoor
set_option linter.unusedVariables false
open Go.ChangeShapes Go.WideShapes Go.ChangeAt Go.RowKit Go.Joins Go.Deep
namespace Mf
section
variable {H : Type} {enc : TypeId × Value → H} {W : World} {base : Nat} {b0 : Nat} {r : Reach}
theorem bulk_strs (L : List ByteArray) : Rows.uptoBulkAll (strs (H := H) L) = (L.map fun s => s.size + 1).sum := by
  induction L with
  | nil => rfl
  | cons s L ih =>
    have h := ln s
    simp only [strs] at ih
    simp only [strs, List.map_cons, Rows.uptoBulkAll, Rows.uptoBulk, ih, List.sum_cons]
    omega
theorem sum_each : ∀ (L : List ByteArray) (q : Nat), (L.map fun s => s.size + 1).sum ≤ q → L.length ≤ q ∧ ∀ s ∈ L, s.size ≤ q
  | [], q, _ => ⟨Nat.zero_le _, fun s hs => by cases hs⟩
  | s :: L, q, h => by
    simp only [List.map_cons, List.sum_cons] at h
    have h1 := sum_each L (q - (s.size + 1)) (by omega)
    refine ⟨by rw [List.length_cons]; omega, fun y hy => ?_⟩
    rcases List.mem_cons.1 hy with rfl | hy
    · omega
    · have := h1.2 y hy; omega
/-- A row of texts. -/
theorem open_txs {fuel : Nat} {cs : List Value} {x : DataW H × List MemPlace} (h : DataW.trod enc Tryz.prog W base (fun _ => true) true fuel 59 cs = some x) :
    ∃ (v : Value) (L : List ByteArray), cs = [v] ∧ TxsAt W v L ∧ ((x.1 = .nil ∧ L = []) ∨ ∃ rest, x.1 = .slice (strs L) rest) := by
  rcases open_strings Tryz.underlying59 Tryz.underlying9 (by kernel_rfl) h with ⟨hcs, hx⟩ | ⟨a, len, cap, ss, hcs, _, hl, hm, hz, hx, hcell, hsz⟩
  · exact ⟨_, [], hcs, .inl ⟨rfl, none, 0, rfl⟩, .inl ⟨by rw [hx], rfl⟩⟩
  · simp only [if_true] at hz
    have hlt : (ss.take len).length = len := by simp; omega
    rcases Nat.eq_zero_or_pos len with h0 | hpos
    · subst h0
      exact ⟨_, [], hcs, .inl ⟨rfl, some a, cap, rfl⟩, .inr ⟨_, by rw [hx]; rfl⟩⟩
    · have hsome := hcell 0 (by omega)
      have hsp : a.spot = none := by
        cases hs : a.spot with
        | none => rfl
        | some q =>
          simp [World.cell?, Addr.add, hs] at hsome
          split at hsome <;> simp at hsome
      obtain ⟨g, off, sp⟩ := a
      simp only at hsp
      subst hsp
      have hg : g < W.heap.size := by
        rcases Nat.lt_or_ge g W.heap.size with hlt | hge
        · exact hlt
        · simp [World.cell?, Addr.add, Array.getElem?_eq_none hge] at hsome
      refine ⟨_, ss.take len, hcs, .inr ⟨g, off, cap, by rw [hlt], hg, by rw [hlt]; omega, fun W' hW' j hj => ?_⟩, .inr ⟨_, by rw [hx]⟩⟩
      have hj' : j < ss.length := by simp at hj; omega
      have := hcell j hj'
      have hjl : (ss.take len)[j] = ss.getD j ByteArray.empty := by simp [List.getD, List.getElem?_eq_getElem hj']
      rw [hjl]
      have ha : (⟨g, off, none⟩ : Addr).add j = ⟨g, off + j, none⟩ := by unfold Addr.add; split <;> simp_all
      rw [ha] at this
      unfold World.cell? at this ⊢
      simp only [hW']
      exact this
set_option maxRecDepth 100000 in
/-- A manifest. -/
theorem open_mn {v : Value} {d : DataW H} {p : List MemPlace} (hv : Value.okWide Tryz.prog W r b0 61 v) (h : DataW.Trod enc Tryz.prog W base (fun _ => true) true 61 v d p) :
    ∃ m : Mn, MnAt W v m ∧ (Rows.uptoBulk d ≤ 1048576 → Small m) := by
  obtain ⟨v0, v1, v2, v3, y0, y1, y2, y3, n, rfl, rfl, -, h0, h1, h2, h3⟩ := open_agg4 Tryz.underlying61 (by kernel_rfl) (by kernel_rfl) hv h
  obtain ⟨u, L, hu, hU, hD⟩ := open_txs h0
  obtain ⟨l, hl, hl', hl''⟩ := DataW.trod_string Tryz.underlying9 h1
  obtain ⟨a, ha, ha', wa⟩ := DataW.trod_int Tryz.underlying3 h2
  obtain ⟨b, hb, hb', wb⟩ := DataW.trod_int Tryz.underlying3 h3
  obtain rfl : v0 = u := by simpa using hu
  obtain rfl : v1 = .string l := by simpa using hl
  obtain rfl : v2 = .int .i64 a := by simpa using ha
  obtain rfl : v3 = .int .i64 b := by simpa using hb
  have xa : -9223372036854775808 ≤ a ∧ a ≤ 9223372036854775807 := by simpa [Lit.wf, show IntKind.i64.min = -9223372036854775808 from rfl] using wa
  have xb : -9223372036854775808 ≤ b ∧ b ≤ 9223372036854775807 := by simpa [Lit.wf, show IntKind.i64.min = -9223372036854775808 from rfl] using wb
  obtain ⟨pf, cf, hf⟩ := hU.form
  subst hf
  refine ⟨⟨L, l, a, b⟩, ⟨pf, cf, rfl, hU⟩, fun hs => ?_⟩
  rw [hl'] at hs
  have hll := ln l
  simp only [Rows.uptoBulk, Rows.uptoBulkAll] at hs
  have hL : L.length ≤ 1048576 ∧ ∀ s ∈ L, s.size ≤ 1048576 := by
    rcases hD with ⟨_, rfl⟩ | ⟨rest, hr⟩
    · exact ⟨Nat.zero_le _, fun s hs => by cases hs⟩
    · rw [hr] at hs
      simp only [Rows.uptoBulk, bulk_strs] at hs
      exact sum_each L _ (by omega)
  exact ⟨hL.1, by show l.size ≤ _; omega, fun s hs => Nat.le_trans (hL.2 s hs) (by omega), xa.1, xa.2, xb.1, xb.2⟩
end
end Mf
end Go.Proofs.YtkbdokakoapooaaGreatDoor
namespace Go.Proofs.YtkbdokakoapooaaGreatDoor
open Go.ChangeShapes Go.WideShapes Go.ChangeAt Go.RowKit Go.Joins Go.Deep
/-- What a crash that came in holds. -/
structure CrashIn (W : World) (n : Int) (u : Value) (bs : List Int) : Prop where
  lo : -9223372036854775808 ≤ n
  hi : n ≤ 9223372036854775807
  row : IntsAt W u bs
  len : bs.length ≤ maxLen
  fits : ∀ x ∈ bs, -9223372036854775808 ≤ x ∧ x ≤ 9223372036854775807
  own : bs = [] ∨ ∀ g, u.ownBlock = some g → g < W.heap.size

section
variable {H : Type} {enc : TypeId × Value → H} {W : World} {base : Nat} {b0 : Nat} {r : Reach}

/-- A row of integers. -/
theorem open_row {fuel : Nat} {cs : List Value} {x : DataW H × List MemPlace} (h : DataW.trod enc Tryz.prog W base (fun _ => true) true fuel 41 cs = some x) :
    ∃ (v : Value) (bs : List Int), cs = [v] ∧ IntsAt W v bs ∧ bs.length ≤ maxLen ∧ (∀ x ∈ bs, -9223372036854775808 ≤ x ∧ x ≤ 9223372036854775807) ∧ (bs = [] ∨ ∀ g, v.ownBlock = some g → g < W.heap.size) := by
  rcases open_ints Tryz.underlying41 Tryz.underlying3 (by kernel_rfl) h with ⟨hcs, _⟩ | ⟨a, len, cap, zs, hcs, _, hl, hm, hz, _, hcell, hwz⟩
  · exact ⟨_, [], hcs, .inl ⟨rfl, none, 0, rfl⟩, by simp, by simp, .inl rfl⟩
  · simp only [if_true] at hz
    have hlt : (zs.take len).length = len := by simp; omega
    rcases Nat.eq_zero_or_pos len with h0 | hpos
    · subst h0
      exact ⟨_, [], hcs, .inl ⟨rfl, some a, cap, rfl⟩, by simp, by simp, .inl rfl⟩
    · have hsome := hcell 0 (by omega)
      have hsp : a.spot = none := by
        cases hs : a.spot with
        | none => rfl
        | some q =>
          simp [World.cell?, Addr.add, hs] at hsome
          split at hsome <;> simp at hsome
      obtain ⟨g, off, sp⟩ := a
      simp only at hsp
      subst hsp
      have hg : g < W.heap.size := by
        rcases Nat.lt_or_ge g W.heap.size with hlt | hge
        · exact hlt
        · simp [World.cell?, Addr.add, Array.getElem?_eq_none hge] at hsome
      refine ⟨_, zs.take len, hcs, .inr ⟨g, off, cap, by rw [hlt], hg, fun W' hW' j hj => ?_⟩, by omega, fun x hx => ?_, .inr fun g' hg' => ?_⟩
      · have hj' : j < zs.length := by simp at hj; omega
        have := hcell j hj'
        have hjl : (zs.take len)[j] = zs.getD j 0 := by simp [List.getD, List.getElem?_eq_getElem hj']
        rw [hjl]
        have ha : (⟨g, off, none⟩ : Addr).add j = ⟨g, off + j, none⟩ := by unfold Addr.add; split <;> simp_all
        rw [ha] at this
        unfold World.cell? at this ⊢
        simp only [hW']
        exact this
      · have := hwz x (List.mem_of_mem_take hx)
        simpa [Lit.wf, show IntKind.i64.min = -9223372036854775808 from rfl] using this
      · have : g = g' := by simpa [Value.ownBlock] using hg'
        omega

set_option maxRecDepth 100000 in
/-- A crash. -/
theorem open_crash {v : Value} {d : DataW H} {p : List MemPlace} (hv : Value.okWide Tryz.prog W r b0 43 v) (h : DataW.Trod enc Tryz.prog W base (fun _ => true) true 43 v d p) :
    ∃ (n : Int) (u : Value) (bs : List Int), v = .agg #[.int .i64 n, u] ∧ CrashIn W n u bs := by
  obtain ⟨v0, v1, y0, y1, n, rfl, _, _, h0, h1⟩ := open_agg2 Tryz.underlying43 (by kernel_rfl) (by kernel_rfl) hv h
  obtain ⟨k, hk, _, hk'⟩ := DataW.trod_int Tryz.underlying3 h0
  obtain rfl : v0 = .int .i64 k := by simpa using hk
  obtain ⟨u, bs, hu, h1, h2, h3, h4⟩ := open_row h1
  obtain rfl : v1 = u := by simpa using hu
  have : -9223372036854775808 ≤ k ∧ k ≤ 9223372036854775807 := by simpa [Lit.wf, show IntKind.i64.min = -9223372036854775808 from rfl] using hk'
  exact ⟨k, _, bs, rfl, ⟨this.1, this.2, h1, h2, h3, h4⟩⟩

end
end Go.Proofs.YtkbdokakoapooaaGreatDoor
namespace Go.Proofs.YtkbdokakoapooaaGreatDoor
set_option linter.unusedVariables false
open Go.ChangeShapes Go.WideShapes Go.ChangeAt Go.RowKit Go.Joins Go.Deep Dk
section
variable {H : Type} {enc : TypeId × Value → H} {W : World} {base : Nat} {b0 : Nat} {r : Reach}
theorem addr_flat {a : Addr} {v : Value} (h : W.cell? a = some v) : a.spot = none := by
  cases hs : a.spot with
  | none => rfl
  | some q =>
    simp [World.cell?, hs] at h
    split at h <;> simp at h
/-- Any row of structs. -/
theorem open_rows {α : Type} (x0 : α) {TS TE : TypeId} {c : Nat} (hU : Tryz.prog.underlying TS = some (.slice TE)) (hc : Tryz.prog.cellsOf TE = c) (hc0 : 0 < c) (cells : α → List Value) (hcl : ∀ x, (cells x).length = c) (P : α → DataW H → Prop)
    (hE : ∀ m cs y, DataW.trod enc Tryz.prog W base (fun _ => true) true m TE cs = some y → ∃ x, cs = cells x ∧ P x y.1) {fuel : Nat} {cs : List Value} {x : DataW H × List MemPlace} (h : DataW.trod enc Tryz.prog W base (fun _ => true) true fuel TS cs = some x) :
    ∃ (v : Value) (L : List α), cs = [v] ∧ ((L = [] ∧ ∃ p c, v = .slice p 0 c) ∨ ∃ g off cp, v = .slice (some ⟨g, off, none⟩) L.length cp ∧ g < W.heap.size ∧ ∀ W' : World, W'.heap[g]? = W.heap[g]? → ∀ j (h : j < L.length) i u, (cells L[j])[i]? = some u → W'.cell? ⟨g, off + j * c + i, none⟩ = some u) ∧
      ((x.1 = .nil ∧ L = []) ∨ ∃ es rest, x.1 = .slice es rest ∧ es.length = L.length ∧ ∀ i (h : i < L.length) (h' : i < es.length), P L[i] es[i]) := by
  rcases DataW.trod_slice hU h with ⟨hcs, hx⟩ | ⟨a, len, cap, elems, rest, n, _, hcs, hx, hb, hl, hm, hlen, hel, _, _⟩
  · exact ⟨_, [], hcs, .inl ⟨rfl, none, 0, rfl⟩, .inl ⟨by rw [hx], rfl⟩⟩
  · rw [hc] at hel
    rcases Nat.eq_zero_or_pos len with h0 | hpos
    · subst h0
      obtain rfl : elems = [] := List.length_eq_zero_iff.mp hlen
      exact ⟨_, [], hcs, .inl ⟨rfl, some a, cap, rfl⟩, .inr ⟨[], _, by rw [hx]; rfl, rfl, fun i h => nomatch h⟩⟩
    · have each : ∀ i, ∃ f : α, i < len → (∀ h : i < elems.length, P f (elems[i]).1) ∧ ∀ j, j < c → W.cell? ((a.add (i * c)).add j) = (cells f)[j]? := by
        intro i
        by_cases hi : i < len
        · have he := hel i hi
          rw [List.getElem?_eq_getElem (by omega), Option.bind_eq_some_iff] at he
          obtain ⟨cs', hcs', ht⟩ := he
          obtain ⟨_, _, hcell⟩ := World.cells?_some hcs'
          obtain ⟨f, rfl, hd⟩ := hE _ _ _ ht
          exact ⟨f, fun _ => ⟨fun _ => hd, hcell⟩⟩
        · exact ⟨x0, fun c => absurd c hi⟩
      obtain ⟨F, hF⟩ := Classical.axiomOfChoice each
      have h00 := (hF 0 hpos).2 0 hc0
      have ha0 : ((a.add (0 * c)).add 0) = a := by simp [Addr.add]
      rw [ha0, List.getElem?_eq_getElem (by rw [hcl]; exact hc0)] at h00
      have hsp := addr_flat h00
      obtain ⟨g, off, sp⟩ := a
      simp only at hsp
      subst hsp
      have hg : g < W.heap.size := by
        rcases Nat.lt_or_ge g W.heap.size with hlt | hge
        · exact hlt
        · simp [World.cell?, Array.getElem?_eq_none hge] at h00
      have hadd : ∀ i j, ((⟨g, off, none⟩ : Addr).add (i * c)).add j = ⟨g, off + i * c + j, none⟩ := fun i j => by
        unfold Addr.add
        by_cases h1 : i * c = 0 <;> by_cases h2 : j = 0 <;> simp [h1, h2]
      refine ⟨_, (List.range len).map fun i => F i, hcs, .inr ⟨g, off, cap, by simp, hg, fun W' hW' j hj i u hu => ?_⟩, .inr ⟨elems.map (·.1), rest.map (·.1), by rw [hx], by simp [hlen], fun i h1 h2 => ?_⟩⟩
      · have hj' : j < len := by simpa using hj
        have e : ((List.range len).map fun i => F i)[j] = F j := by simp
        rw [e] at hu
        have hi : i < c := by
          have := (List.getElem?_eq_some_iff.1 hu).1
          rwa [hcl] at this
        have hcc := (hF j hj').2 i hi
        rw [hadd, hu] at hcc
        rw [← hcc]; exact World.cell?_of_block (w := W) hW'
      · have hi' : i < len := by simpa using h1
        have := (hF i hi').1 (by omega)
        simpa using this
theorem bulk_pos {H : Type} (d : DataW H) : 1 ≤ Rows.uptoBulk d := by
  cases d with
  | lit l => cases l <;> simp [Rows.uptoBulk]
  | _ => simp [Rows.uptoBulk]
theorem bulk_mem {H : Type} : ∀ {l : List (DataW H)} {d : DataW H}, d ∈ l → Rows.uptoBulk d ≤ Rows.uptoBulkAll l
  | x :: r, d, h => by
    simp only [Rows.uptoBulkAll]
    rcases List.mem_cons.1 h with rfl | h
    · omega
    · have := bulk_mem h; omega
theorem bulk_len {H : Type} : ∀ {l : List (DataW H)}, (∀ d ∈ l, 1 ≤ Rows.uptoBulk d) → l.length ≤ Rows.uptoBulkAll l
  | [], _ => Nat.zero_le _
  | x :: r, h => by
    simp only [Rows.uptoBulkAll, List.length_cons]
    have h1 := h x (by simp)
    have h2 := bulk_len (l := r) (fun d hd => h d (by simp [hd]))
    omega
def okI (z : Int) : Prop := -9223372036854775808 ≤ z ∧ z ≤ 9223372036854775807
def fltOk (f : Int × Int × Int) : Prop := okI f.1 ∧ okI f.2.1 ∧ okI f.2.2
theorem okI_of {z : Int} (h : (Lit.int .i64 z).wf = true) : okI z := by simpa [okI, Lit.wf, show IntKind.i64.min = -9223372036854775808 from rfl] using h
set_option maxRecDepth 100000 in
theorem trod_flt {m : Nat} {cs : List Value} {y : DataW H × List MemPlace} (h : DataW.trod enc Tryz.prog W base (fun _ => true) true m 40 cs = some y) :
    ∃ f : Int × Int × Int, cs = [.int .i64 f.1, .int .i64 f.2.1, .int .i64 f.2.2] ∧ fltOk f := by
  have hI : Tryz.prog.cellsOf 3 = 1 := by kernel_rfl
  have hc : Tryz.prog.cellsOf 40 = 3 := by kernel_rfl
  obtain ⟨xs, n, _, rfl, hl, hlen, hf⟩ := DataW.trod_struct Tryz.underlying40 h
  rw [hc] at hl
  match cs, hl, xs, hlen with
  | [c0, c1, c2], _, [y0, y1, y2], _ =>
    have h0 : DataW.trod enc Tryz.prog W base (fun _ => true) true n 3 [c0] = some y0 := by simpa [hI] using hf 0 _ rfl
    have h1 : DataW.trod enc Tryz.prog W base (fun _ => true) true n 3 [c1] = some y1 := by simpa [hI] using hf 1 _ rfl
    have h2 : DataW.trod enc Tryz.prog W base (fun _ => true) true n 3 [c2] = some y2 := by simpa [hI] using hf 2 _ rfl
    obtain ⟨a, ha, ha', wa⟩ := DataW.trod_int Tryz.underlying3 h0
    obtain ⟨b, hb, hb', wb⟩ := DataW.trod_int Tryz.underlying3 h1
    obtain ⟨c, hc, hc', wc⟩ := DataW.trod_int Tryz.underlying3 h2
    obtain rfl : c0 = .int .i64 a := by simpa using ha
    obtain rfl : c1 = .int .i64 b := by simpa using hb
    obtain rfl : c2 = .int .i64 c := by simpa using hc
    exact ⟨⟨a, b, c⟩, rfl, okI_of wa, okI_of wb, okI_of wc⟩
/-- A row of faults. -/
theorem open_flts {fuel : Nat} {cs : List Value} {x : DataW H × List MemPlace} (h : DataW.trod enc Tryz.prog W base (fun _ => true) true fuel 30 cs = some x) :
    ∃ (v : Value) (L : List (Int × Int × Int)), cs = [v] ∧ FltR W v L ∧ (∀ f ∈ L, fltOk f) ∧ L.length ≤ Rows.uptoBulk x.1 := by
  obtain ⟨v, L, hcs, hrow, hdat⟩ := open_rows ((0, 0, 0) : Int × Int × Int) Tryz.underlying30 (show Tryz.prog.cellsOf 40 = 3 by kernel_rfl) (by decide) (fun f => [.int .i64 f.1, .int .i64 f.2.1, .int .i64 f.2.2]) (fun _ => rfl) (fun f _ => fltOk f)
    (fun m cs y h => trod_flt h) h
  refine ⟨v, L, hcs, ?_, fun f hf => ?_, ?_⟩
  · rcases hrow with h | ⟨g, off, cp, rfl, hg, hc⟩
    · exact .inl h
    · exact .inr ⟨g, off, cp, rfl, hg, fun W' hW j hj => ⟨hc W' hW j hj 0 _ rfl, hc W' hW j hj 1 _ rfl, hc W' hW j hj 2 _ rfl⟩⟩
  · rcases hdat with ⟨_, rfl⟩ | ⟨es, rest, _, hel, hd⟩
    · cases hf
    · obtain ⟨i, hi, rfl⟩ := List.getElem_of_mem hf
      exact hd i hi (by omega)
  · rcases hdat with ⟨_, rfl⟩ | ⟨es, rest, hx, hel, hd⟩
    · exact Nat.zero_le _
    · rw [hx]
      have := bulk_len (l := es) (fun d _ => bulk_pos d)
      simp only [Rows.uptoBulk]; omega
/-- A deed, plain, beside its two rows in memory. -/
structure DeedC where
  kind : Int
  a : ByteArray
  b : ByteArray
  n : Int
  fv : Value
  fl : List (Int × Int × Int)
  cn : Int
  cv : Value
  cl : List Int
def DeedC.cells (x : DeedC) : List Value := [.int .i64 x.kind, .string x.a, .string x.b, .int .i64 x.n, x.fv, .int .i64 x.cn, x.cv]
structure DeedIn (W : World) (x : DeedC) : Prop where
  kind : okI x.kind
  n : okI x.n
  row : FltR W x.fv x.fl
  flts : ∀ f ∈ x.fl, fltOk f
  cn : okI x.cn
  crow : IntsAt W x.cv x.cl
  clen : x.cl.length ≤ maxLen
  cok : ∀ z ∈ x.cl, okI z
  cown : x.cl = [] ∨ ∀ g, x.cv.ownBlock = some g → g < W.heap.size
def DeedD (W : World) (x : DeedC) (d : DataW H) : Prop := DeedIn W x ∧ x.a.size + x.b.size + x.fl.length + 1 ≤ Rows.uptoBulk d
/-- A row of deeds. -/
def DeedsAt (W : World) (v : Value) (L : List DeedC) : Prop :=
  (L = [] ∧ ∃ p c, v = .slice p 0 c) ∨ ∃ g off cp, v = .slice (some ⟨g, off, none⟩) L.length cp ∧ g < W.heap.size ∧ ∀ W' : World, W'.heap[g]? = W.heap[g]? → ∀ j (h : j < L.length) i u, (DeedC.cells L[j])[i]? = some u → W'.cell? ⟨g, off + j * 7 + i, none⟩ = some u
end
end Go.Proofs.YtkbdokakoapooaaGreatDoor
namespace Go.Proofs.YtkbdokakoapooaaGreatDoor
set_option linter.unusedVariables false
open Go.ChangeShapes Go.WideShapes Go.ChangeAt Go.RowKit Go.Joins Go.Deep
namespace Mf
section
variable {H : Type} {enc : TypeId × Value → H} {W : World} {base : Nat} {b0 : Nat} {r : Reach}
/-- A manifest, and where its row of names lies. -/
abbrev MnC := Mn × Option Addr × Nat
def mnCells (x : MnC) : List Value := [.slice x.2.1 x.1.segs.length x.2.2, .string x.1.log, .int .i64 x.1.next, .int .i64 x.1.seq]
def MnIn (W : World) (x : MnC) : Prop := TxsAt W (.slice x.2.1 x.1.segs.length x.2.2) x.1.segs
set_option maxRecDepth 100000 in
set_option maxHeartbeats 1000000 in
theorem trod_mn {m : Nat} {cs : List Value} {y : DataW H × List MemPlace} (h : DataW.trod enc Tryz.prog W base (fun _ => true) true m 61 cs = some y) :
    ∃ x : MnC, cs = mnCells x ∧ MnIn W x ∧ (Rows.uptoBulk y.1 ≤ 1048576 → Small x.1) := by
  have hI : Tryz.prog.cellsOf 3 = 1 := by kernel_rfl
  have hS : Tryz.prog.cellsOf 9 = 1 := by kernel_rfl
  have hT : Tryz.prog.cellsOf 59 = 1 := by kernel_rfl
  have hc : Tryz.prog.cellsOf 61 = 4 := by kernel_rfl
  obtain ⟨xs, k, _, rfl, hl, hlen, hel⟩ := DataW.trod_struct Tryz.underlying61 h
  rw [hc] at hl
  match cs, hl, xs, hlen with
  | [c0, c1, c2, c3], _, [y0, y1, y2, y3], _ =>
    have e0 : DataW.trod enc Tryz.prog W base (fun _ => true) true k 59 [c0] = some y0 := by simpa [hT] using hel 0 _ rfl
    have e1 : DataW.trod enc Tryz.prog W base (fun _ => true) true k 9 [c1] = some y1 := by simpa [hS] using hel 1 _ rfl
    have e2 : DataW.trod enc Tryz.prog W base (fun _ => true) true k 3 [c2] = some y2 := by simpa [hI] using hel 2 _ rfl
    have e3 : DataW.trod enc Tryz.prog W base (fun _ => true) true k 3 [c3] = some y3 := by simpa [hI] using hel 3 _ rfl
    clear hel h
    obtain ⟨u, L, hu, hU, hD⟩ := open_txs e0
    obtain ⟨l, hl, hl', hl''⟩ := DataW.trod_string Tryz.underlying9 e1
    obtain ⟨a, ha, ha', wa⟩ := DataW.trod_int Tryz.underlying3 e2
    obtain ⟨b, hb, hb', wb⟩ := DataW.trod_int Tryz.underlying3 e3
    obtain rfl : c0 = u := by simpa using hu
    obtain rfl : c1 = .string l := by simpa using hl
    obtain rfl : c2 = .int .i64 a := by simpa using ha
    obtain rfl : c3 = .int .i64 b := by simpa using hb
    obtain ⟨pf, cf, hf⟩ := hU.form
    subst hf
    refine ⟨(⟨L, l, a, b⟩, pf, cf), rfl, hU, fun hs => ?_⟩
    have hll := ln l
    simp only [List.map_cons, List.map_nil, Rows.uptoBulk, Rows.uptoBulkAll, hl'] at hs
    have hL : L.length ≤ 1048576 ∧ ∀ s ∈ L, s.size ≤ 1048576 := by
      rcases hD with ⟨_, rfl⟩ | ⟨rest, hr⟩
      · exact ⟨Nat.zero_le _, fun s hs => by cases hs⟩
      · rw [hr] at hs
        simp only [Rows.uptoBulk, bulk_strs] at hs
        exact sum_each L _ (by omega)
    have xa := okI_of wa
    have xb := okI_of wb
    exact ⟨hL.1, by show l.size ≤ _; omega, fun s hs => Nat.le_trans (hL.2 s hs) (by omega), xa.1, xa.2, xb.1, xb.2⟩
/-- A row of manifests. -/
def MnsAt (W : World) (v : Value) (L : List MnC) : Prop :=
  (L = [] ∧ ∃ p c, v = .slice p 0 c) ∨ ∃ g off cp, v = .slice (some ⟨g, off, none⟩) L.length cp ∧ g < W.heap.size ∧ ∀ W' : World, W'.heap[g]? = W.heap[g]? → ∀ j (h : j < L.length) i u, (mnCells L[j])[i]? = some u → W'.cell? ⟨g, off + j * 4 + i, none⟩ = some u
theorem open_mns {fuel : Nat} {cs : List Value} {x : DataW H × List MemPlace} (h : DataW.trod enc Tryz.prog W base (fun _ => true) true fuel 55 cs = some x) :
    ∃ (v : Value) (L : List MnC), cs = [v] ∧ MnsAt W v L ∧ (∀ y ∈ L, MnIn W y) ∧ L.length ≤ Rows.uptoBulk x.1 ∧ (Rows.uptoBulk x.1 ≤ 1048576 → ∀ y ∈ L, Small y.1) := by
  obtain ⟨v, L, hcs, hrow, hdat⟩ := open_rows ((⟨[], ⟨#[]⟩, 0, 0⟩, none, 0) : MnC) Tryz.underlying55 (show Tryz.prog.cellsOf 61 = 4 by kernel_rfl) (by decide) mnCells (fun _ => rfl) (fun x d => MnIn W x ∧ (Rows.uptoBulk d ≤ 1048576 → Small x.1))
    (fun m cs y h => trod_mn h) h
  refine ⟨v, L, hcs, hrow, ?_⟩
  rcases hdat with ⟨_, rfl⟩ | ⟨es, rest, hx, hel, hd⟩
  · exact ⟨fun _ h => (nomatch h), Nat.zero_le _, fun _ _ h => (nomatch h)⟩
  · rw [hx]
    have h1 : es.length ≤ Rows.uptoBulkAll es := bulk_len (fun d _ => bulk_pos d)
    refine ⟨fun y hy => ?_, ?_, fun hb y hy => ?_⟩
    · obtain ⟨i, hi, rfl⟩ := List.getElem_of_mem hy; exact (hd i hi (by omega)).1
    · simp only [Rows.uptoBulk]; omega
    · obtain ⟨i, hi, rfl⟩ := List.getElem_of_mem hy
      have := bulk_mem (List.getElem_mem (l := es) (n := i) (by omega))
      simp only [Rows.uptoBulk] at hb
      exact (hd i hi (by omega)).2 (by omega)
end
end Mf
end Go.Proofs.YtkbdokakoapooaaGreatDoor
