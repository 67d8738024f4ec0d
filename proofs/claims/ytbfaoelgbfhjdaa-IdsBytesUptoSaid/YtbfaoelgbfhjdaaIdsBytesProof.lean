/- For any row of whole numbers and any text, of together at most 1048576 places and letters, the law IdsBytes of the document's chapter 8 returns true over the program's own Encode and Decode and the document's own answers: the bytes of any list, and the list of any bytes, or the errors. Condition: what is read is of bulk at most 1048576. -/
import Derived.Test.YtbfaoelgbfhjdaaRows
import Derived.WalkKit
import Derived.ProofKit
import Derived.OpenShut
import Derived.ShutString
import Derived.ChangeOld
import Derived.Below
import Derived.SizedLaws
import Derived.JoinedCond
import Derived.Test.YtbfaoelgbfhjdaaIdR
namespace Go.Proofs.Ytbfaoelgbfhjdaa.idsBytes
open Go.ChangeShapes Go.WideShapes Go.ChangeAt Go.RowKit Go.Proofs.Ytbfaoelgbfhjdaa
open Go.ChangeMaps (open_string shut_string)
set_option linter.unusedVariables false

theorem own : ownKnob Try.prog.godebug = none := by kernel_rfl
theorem laidOut : laidOutB Try.prog = true := by kernel_rfl

/-- A row of integers that came in: nil; or a row of 'cap' cells, the numbers 'zs'. -/
def IsRow (k : IntKind) (w : World) (a : Option Addr) (len cap : Nat) (zs : List Int) : Prop :=
  (a = none ∧ len = 0 ∧ cap = 0 ∧ zs = []) ∨
  ∃ x, a = some x ∧ len ≤ cap ∧ cap ≤ maxLen ∧ zs.length = cap ∧ (∀ i, i < zs.length → w.cell? (x.add i) = some (.int k (zs.getD i 0))) ∧ ∀ n ∈ zs, (Lit.int k n).wf = true
theorem bulk_lits {H : Type} (k : IntKind) : ∀ zs : List Int, Rows.uptoBulkAll (lits (H := H) k zs) = zs.length
  | [] => rfl
  | z :: zs => by
    have := bulk_lits (H := H) k zs
    simp only [lits] at this
    simp only [lits, List.map_cons, Rows.uptoBulkAll, Rows.uptoBulk, this, List.length_cons]
    omega
/-- The row that came in, as a row of whole numbers. -/
theorem row_in {w : World} {a : Option Addr} {len cap : Nat} {z : List Int} (h : IsRow .i64 w a len cap z) : IntsAt w (.slice a len cap) (z.take len) ∧ (z.take len).length = len := by
  rcases h with ⟨rfl, rfl, rfl, rfl⟩ | ⟨x, rfl, h1, h2, h3, h4, _⟩
  · exact ⟨.inl ⟨rfl, none, 0, rfl⟩, rfl⟩
  · have hl : (z.take len).length = len := by simp; omega
    refine ⟨?_, hl⟩
    rcases Nat.eq_zero_or_pos len with h0 | h0
    · subst h0
      exact .inl ⟨by simp, some x, cap, rfl⟩
    · have hsome := h4 0 (by omega)
      have hsp : x.spot = none := by
        cases hs : x.spot with
        | none => rfl
        | some q =>
          simp [World.cell?, Addr.add, hs] at hsome
          split at hsome <;> simp at hsome
      obtain ⟨g, off, sp⟩ := x
      simp only at hsp
      subst hsp
      have hg : g < w.heap.size := by
        rcases Nat.lt_or_ge g w.heap.size with hlt | hge
        · exact hlt
        · simp [World.cell?, Addr.add, Array.getElem?_eq_none hge] at hsome
      refine .inr ⟨g, off, cap, by rw [hl], hg, fun W' hW' j hj => ?_⟩
      have hj' : j < z.length := by simp at hj; omega
      have := h4 j hj'
      have hjl : (z.take len)[j] = z.getD j 0 := by simp [List.getD, List.getElem?_eq_getElem hj']
      rw [hjl]
      have ha : (⟨g, off, none⟩ : Addr).add j = ⟨g, off + j, none⟩ := by unfold Addr.add; split <;> simp_all
      rw [ha] at this
      unfold World.cell? at this ⊢
      simp only [hW']
      exact this

/-! ### The walk -/
open Ids
theorem own_len {w : World} {base : Nat} {v : Value} {L : List Int} (h : Own w base v L) : L.length ≤ maxLen := by
  rcases h.2 with ⟨_, h0⟩ | ⟨g, cap, cur, _, _, _, h1, h2, _⟩
  · omega
  · omega
/-- What both lay of any row. -/
theorem enc_both (L : List Int) (v : Value) (w : World) (h : IntsAt w v L) (hl : L.length ≤ 1048576) : ∃ (S : ByteArray) (q : Int),
    (∀ wx, Below w.heap.size w wx → Calls Try.prog 26 #[v] wx fun e w' => e = .returned (.tuple #[.string S, .int .i64 q]) ∧ Below wx.heap.size wx w') ∧
    (∀ wx, Below w.heap.size w wx → Calls Try.prog 27 #[v] wx fun e w' => e = .returned (.tuple #[.string S, .int .i64 q]) ∧ Below wx.heap.size wx w') := by
  by_cases hL : okB L
  · exact ⟨_, _, fun wx hq => encode_yes L v wx (h.below hq) hl hL, fun wx hq => encRef_yes L v wx (h.below hq) hl hL⟩
  · exact ⟨_, _, fun wx hq => encode_no L v wx (h.below hq) hl hL, fun wx hq => encRef_no L v wx (h.below hq) hl hL⟩
set_option maxHeartbeats 4000000 in
set_option maxRecDepth 100000 in
theorem walk (v0 : Value) (z0 : List Int) (a1 : ByteArray) (w : World) (i0 : IntsAt w v0 z0)  (tot : z0.length + a1.size ≤ 1048576) :
    Calls Try.prog 6 #[v0, .string a1] w fun e w' => e = .returned (.bool true) ∧ Below w.heap.size w w' := by
  obtain ⟨S, q, hE1, hE2⟩ := enc_both z0 v0 w i0 (by omega)
  have H1 := Lib.hid hE1
  have H2 := Lib.hid hE2
  have H3 := Lib.hid fun wx => decode_any a1 wx (by omega)
  have H4 := Lib.hid fun wx => decRef_any a1 wx (by omega)
  have H8 := Lib.hid sure_yes
  have HB := Lib.hid (Below.refl w.heap.size w)
  clear hE1 hE2 i0 tot
  unfold DecP at H3 H4
  generalize (decB a1.data.toList).getD [] = D at H3 H4
  generalize (if (decB a1.data.toList).isSome = true then (0 : Int) else 80) = r at H3 H4
  go_enter Try.func6, Try.ntmps6
  go_wp2_with (first
    | (go_at_call 26; refine (H1.out _ HB.out).mono ?_; rintro e w2 ⟨rfl, hb⟩; have hb' := HB.out.trans (hb.mono HB.out.size); clear HB; have HB := Lib.hid hb'; clear hb hb')
    | (go_at_call 27; refine (H2.out _ HB.out).mono ?_; rintro e w2 ⟨rfl, hb⟩; have hb' := HB.out.trans (hb.mono HB.out.size); clear HB; have HB := Lib.hid hb'; clear hb hb')
    | (go_at_call 28; refine (H3.out _).mono ?_; rintro e w2 ⟨x1, rfl, h1, hb⟩; have HX := Lib.hid h1.at; have HN := Lib.hid (own_len h1); have hb' := HB.out.trans (hb.mono HB.out.size); clear HB; have HB := Lib.hid hb'; clear hb hb' h1)
    | (go_at_call 29; refine (H4.out _).mono ?_; rintro e w2 ⟨x2, rfl, h1, hb⟩; have HY := Lib.hid h1.at; have hx := HX.out.below hb; clear HX; have HX := Lib.hid hx; have hb' := HB.out.trans (hb.mono HB.out.size); clear HB; have HB := Lib.hid hb'; clear hb hb' h1 hx)
    | (go_at_call 14; refine (sameLaw_any _ _ _ _ _ HX.out HY.out HN.out HN.out).mono ?_; rw [eqB_same]; clear HX HY; rintro e w2 ⟨rfl, hb⟩; have hb' := HB.out.trans (hb.mono HB.out.size); clear HB; have HB := Lib.hid hb'; clear hb hb')
    | (go_at_call 17; refine (H8.out _).mono ?_; rintro e w2 ⟨rfl, hb⟩; have hb' := HB.out.trans (hb.mono HB.out.size); clear HB; have HB := Lib.hid hb'; clear hb hb'))
  go_ret
  exact ⟨rfl, HB.out⟩

theorem toLen (s : ByteArray) : s.data.toList.length = s.size := by rw [Array.length_toList]; rfl

/-! ### The row -/
set_option maxRecDepth 100000 in
theorem contract (H : Type) (enc : TypeId × Value → H) (W : World) (base : Nat) (args : Array Value) (ds gs : List (DataW H)) (before : List MemPlace)
    (hval0 : ∀ (j : Nat) t v, Try.f6.params[j]? = some t → args[j]? = some v → Value.okWide Try.prog W .any base t v)
    (hW : DataW.Whole enc Try.prog Try.f6.params.toList Rows.idsBytesSpec.vars false W args.toList ds gs before) (hsz : Rows.uptoSmall H (ds ++ gs) = true) :
    Calls Try.prog 6 args W fun e W' => ∃ v, e = .returned v ∧ Rows.idsBytesSpec.post enc Try.prog Try.f6 false true false false W args v W' := by
  have hval : ∀ (j : Nat) t v, Try.f6.params[j]? = some t → args[j]? = some v → Value.okWide Try.prog W .any base t v := hval0
  have hW' := hW
  obtain ⟨p, q, hA0, hV, rfl, hfz, hnd⟩ := hW
  have hA : DataW.TrodAll enc Try.prog W 0 (fun _ => true) true Try.f6.params.toList args.toList ds p := hA0
  rw [Try.params6] at hA hval
  obtain ⟨v0, vs0, d0, ds0, p0, q0, hargs, rfl, rfl, h0, r0⟩ := trodAll_cons hA
  obtain ⟨v1, vs1, d1, ds1, p1, q1, rfl, rfl, rfl, h1, r1⟩ := trodAll_cons r0
  obtain ⟨rfl, rfl, rfl⟩ := trodAll_nil r1
  obtain rfl : args = #[v0, v1] := by cases args; simp_all
  obtain ⟨rfl, rfl⟩ := trodVars_none hV
  obtain ⟨a0, len0, cap0, rfl⟩ := okWide_slice Try.underlying22 (hval 0 22 v0 rfl rfl)
  have k0 := h0
  have lt0 : ∀ x ∈ p0, x.block < W.heap.size := by obtain ⟨m, hm⟩ := k0; exact DataW.trod_lt m _ _ _ hm
  obtain ⟨z0, w0, b0⟩ : ∃ zs, IsRow .i64 W a0 len0 cap0 zs ∧ len0 + 1 ≤ Rows.uptoBulk d0 := by
    obtain ⟨fuel, hf⟩ := h0
    rcases open_ints Try.underlying22 Try.underlying3 (by kernel_rfl) hf with ⟨hcs, hx⟩ | ⟨x, l, c, zs, hcs, _, hl, hm, hz, hx, hcell, hwz⟩
    · simp [Value.cells] at hcs
      obtain ⟨rfl, rfl, rfl⟩ := hcs
      have hx' := congrArg Prod.fst hx
      simp only at hx'
      subst hx'
      exact ⟨[], .inl ⟨rfl, rfl, rfl, rfl⟩, by simp [Rows.uptoBulk]⟩
    · simp [Value.cells] at hcs
      obtain ⟨rfl, rfl, rfl⟩ := hcs
      have hx' := congrArg Prod.fst hx
      simp only at hx'
      subst hx'
      simp only [if_true] at hz
      refine ⟨zs, .inr ⟨_, rfl, hl, hm, by simpa using hz, hcell, hwz⟩, ?_⟩
      simp only [Rows.uptoBulk, bulk_lits, List.length_take, List.length_drop]
      omega
  obtain ⟨a1, rfl, rfl, rfl, w1⟩ := open_string Try.underlying9 (hval 1 9 v1 rfl rfl) h1
  have tot : (z0.take len0).length + a1.size ≤ 1048576 := by
    have h := of_decide_eq_true hsz
    simp only [List.append_nil, Rows.uptoBulkAll, Rows.uptoBulk, toLen] at h
    rw [(row_in w0).2]
    omega
  clear hA0 hval0
  refine (walk (.slice a0 len0 cap0) (z0.take len0) a1 W (row_in w0).1  tot).mono fun e W' ⟨he, bel⟩ => ?_
  subst he
  exact ⟨_, rfl, _, _, _, [], _, [], hW', trodAll_mk1 (shut_bool Try.underlying4 _), (trodAll_cons_mk (Below.trod laidOut (by kernel_rfl) (of_decide_eq_true (by kernel_rfl)) k0 bel lt0) (trodAll_cons_mk (shut_string Try.underlying9 w1) trodAll_mk0)), rfl, bel.frame _, fun h => by cases h⟩

set_option maxRecDepth 100000 in
theorem lifted (os : Os) (started : os.Started) (H : Type) (enc : TypeId × Value → H) (F : Stop.Interp) :
    ReturnsInHanded {} Try.checked os 6 .any ((Rows.OpenSpec.upto Rows.idsBytesSpec).pre6 enc Try.prog Try.f6 Rows.idsBytesUptoRow.domain false) (((Rows.OpenSpec.upto Rows.idsBytesSpec).at F).post enc Try.prog Try.f6 false true false false) := by
  refine returnsInHanded_of_cond (C := Try.checked) (s := Rows.OpenSpec.upto Rows.idsBytesSpec) (k := Rows.uptoSmall) rfl own started (by kernel_rfl) Try.func6
    (OpenSpec.witness (enc := enc) (C := Try.checked) (s := Rows.OpenSpec.upto Rows.idsBytesSpec) (k := Rows.uptoSmall) rfl false ⟨#[], #[.slice none 0 0, .string ByteArray.empty], []⟩ 8 (by kernel_rfl) (by kernel_rfl) (by kernel_rfl)
      (x := ([.nil, .lit (.string [])], [], [])) (by kernel_rfl) rfl (by kernel_rfl)) ?_
  intro W base args ds gs before hval hW _ hk _
  exact contract H enc W base args ds gs before hval hW hk

/-- The statement. -/
theorem proved : Rows.IdsBytesUptoSaid :=
  OpenClaim.holds_of_cond 6 Try.f6 rfl rfl rfl rfl rfl rfl rfl ⟨rfl, rfl, rfl, rfl, rfl⟩ rfl rfl rfl rfl rfl (by kernel_rfl) Try.func6 (by kernel_rfl)
    (of_decide_eq_true (by kernel_rfl)) (by unfold Func.isWrapper; first | (rw [if_pos (by decide +kernel)]; kernel_rfl) | (rw [if_neg (by decide +kernel)]; exact ⟨rfl, rfl⟩))
    (fun os started H enc _ F => lifted os started H enc F)
#print axioms proved
end Go.Proofs.Ytbfaoelgbfhjdaa.idsBytes
