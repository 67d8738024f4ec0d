/- For any three rows of whole numbers, of together at most 1048576 places, the law IdsRules of the document's chapter 8 returns true over the program's own Union, Inter and Diff: unions, intersections and differences hold together as sets do. Condition: what is read is of bulk at most 1048576. -/
import Derived.Test.YtbfaoelgbfhjdaaRows
import Derived.WalkKit
import Derived.ProofKit
import Derived.OpenShut
import Derived.ShutString
import Derived.ChangeOld
import Derived.Below
import Derived.SizedLaws
import Derived.JoinedCond
import Derived.Test.YtbfaoelgbfhjdaaIdR
namespace Go.Proofs.Ytbfaoelgbfhjdaa.idsRules
open Go.ChangeShapes Go.WideShapes Go.ChangeAt Go.RowKit Go.Proofs.Ytbfaoelgbfhjdaa
open Go.ChangeMaps (open_string shut_string)
set_option linter.unusedVariables false

theorem own : ownKnob Try.prog.godebug = none := by kernel_rfl
theorem laidOut : laidOutB Try.prog = true := by kernel_rfl

/-- A row of integers that came in: nil; or a row of 'cap' cells, the numbers 'zs'. -/
def IsRow (k : IntKind) (w : World) (a : Option Addr) (len cap : Nat) (zs : List Int) : Prop :=
  (a = none ∧ len = 0 ∧ cap = 0 ∧ zs = []) ∨
  ∃ x, a = some x ∧ len ≤ cap ∧ cap ≤ maxLen ∧ zs.length = cap ∧ (∀ i, i < zs.length → w.cell? (x.add i) = some (.int k (zs.getD i 0))) ∧ ∀ n ∈ zs, (Lit.int k n).wf = true
theorem bulk_lits {H : Type} (k : IntKind) : ∀ zs : List Int, Rows.uptoBulkAll (lits (H := H) k zs) = zs.length
  | [] => rfl
  | z :: zs => by
    have := bulk_lits (H := H) k zs
    simp only [lits] at this
    simp only [lits, List.map_cons, Rows.uptoBulkAll, Rows.uptoBulk, this, List.length_cons]
    omega
/-- The row that came in, as a row of whole numbers. -/
theorem row_in {w : World} {a : Option Addr} {len cap : Nat} {z : List Int} (h : IsRow .i64 w a len cap z) : IntsAt w (.slice a len cap) (z.take len) ∧ (z.take len).length = len := by
  rcases h with ⟨rfl, rfl, rfl, rfl⟩ | ⟨x, rfl, h1, h2, h3, h4, _⟩
  · exact ⟨.inl ⟨rfl, none, 0, rfl⟩, rfl⟩
  · have hl : (z.take len).length = len := by simp; omega
    refine ⟨?_, hl⟩
    rcases Nat.eq_zero_or_pos len with h0 | h0
    · subst h0
      exact .inl ⟨by simp, some x, cap, rfl⟩
    · have hsome := h4 0 (by omega)
      have hsp : x.spot = none := by
        cases hs : x.spot with
        | none => rfl
        | some q =>
          simp [World.cell?, Addr.add, hs] at hsome
          split at hsome <;> simp at hsome
      obtain ⟨g, off, sp⟩ := x
      simp only at hsp
      subst hsp
      have hg : g < w.heap.size := by
        rcases Nat.lt_or_ge g w.heap.size with hlt | hge
        · exact hlt
        · simp [World.cell?, Addr.add, Array.getElem?_eq_none hge] at hsome
      refine .inr ⟨g, off, cap, by rw [hl], hg, fun W' hW' j hj => ?_⟩
      have hj' : j < z.length := by simp at hj; omega
      have := h4 j hj'
      have hjl : (z.take len)[j] = z.getD j 0 := by simp [List.getD, List.getElem?_eq_getElem hj']
      rw [hjl]
      have ha : (⟨g, off, none⟩ : Addr).add j = ⟨g, off + j, none⟩ := by unfold Addr.add; split <;> simp_all
      rw [ha] at this
      unfold World.cell? at this ⊢
      simp only [hW']
      exact this

/-! ### The walk -/
open Ids
/-- The rows at hand, in the world at hand. -/
def Live (w : World) (vs : List (Value × List Int)) : Prop := ∀ p ∈ vs, IntsAt w p.1 p.2
theorem Live.below {w w' : World} {vs : List (Value × List Int)} (h : Live w vs) (hb : Below w.heap.size w w') : Live w' vs := fun p hp => (h p hp).below hb
theorem Live.more {w w' : World} {vs : List (Value × List Int)} {base : Nat} {x : Value} {L : List Int} (h : Live w vs) (hb : Below w.heap.size w w') (ho : Own w' base x L) : Live w' ((x, L) :: vs) := fun p hp => by
  rcases List.mem_cons.mp hp with rfl | hp
  · exact ho.at
  · exact (h p hp).below hb
/-- What a call that makes a row leaves. -/
def RowP (vs : List (Value × List Int)) (L : List Int) (w : World) (e : Ending) (w' : World) : Prop := ∃ p c, e = .returned (.slice p L.length c) ∧ Live w' ((.slice p L.length c, L) :: vs) ∧ Below w.heap.size w w'
theorem rowP {vs : List (Value × List Int)} {L : List Int} {w : World} {f : FuncId} {args : Array Value} (hv : Live w vs) (h : Calls Try.prog f args w fun e w' => ∃ x, e = .returned x ∧ Own w' w.heap.size x L ∧ Below w.heap.size w w') : Calls Try.prog f args w (RowP vs L w) := by
  refine h.mono ?_
  rintro e w' ⟨x, rfl, h1, h2⟩
  obtain ⟨p, c, hx⟩ := h1.at.form
  subst hx
  exact ⟨p, c, rfl, hv.more h2 h1, h2⟩
theorem union_live {w : World} {vs : List (Value × List Int)} {u v : Value} {A B : List Int} (hv : Live w vs) (ha : (u, A) ∈ vs) (hb : (v, B) ∈ vs) (hl : A.length + B.length ≤ 17592186044415) : Calls Try.prog 18 #[u, v] w (RowP vs (uniL A B) w) :=
  rowP hv (union_any A B u v w (hv _ ha) (hv _ hb) hl)
theorem inter_live {w : World} {vs : List (Value × List Int)} {u v : Value} {A B : List Int} (hv : Live w vs) (ha : (u, A) ∈ vs) (hb : (v, B) ∈ vs) (hl : A.length + B.length ≤ 17592186044415) : Calls Try.prog 20 #[u, v] w (RowP vs (interL A B) w) :=
  rowP hv (inter_any A B u v w (hv _ ha) (hv _ hb) hl)
theorem diff_live {w : World} {vs : List (Value × List Int)} {u v : Value} {A B : List Int} (hv : Live w vs) (ha : (u, A) ∈ vs) (hb : (v, B) ∈ vs) (hl : A.length + B.length ≤ 17592186044415) : Calls Try.prog 22 #[u, v] w (RowP vs (diffL A B) w) :=
  rowP hv (diff_any A B u v w (hv _ ha) (hv _ hb) hl)
theorem same_live {w : World} {vs : List (Value × List Int)} {u v : Value} {A B : List Int} (hv : Live w vs) (ha : (u, A) ∈ vs) (hb : (v, B) ∈ vs) (hl : A.length + B.length ≤ 17592186044415) (he : A = B) : Calls Try.prog 14 #[u, v] w fun e w' => e = .returned (.bool true) ∧ Below w.heap.size w w' := by
  subst he
  have h := sameLaw_any A A u v w (hv _ ha) (hv _ hb) (by unfold maxLen; omega) (by unfold maxLen; omega)
  rw [eqB_same] at h
  exact h
theorem sum_wrap (a b n : Nat) (h : a + b = n) (ha : a ≤ 4194304) (hb : b ≤ 4194304) : wrap64 ((a : Int) + (b : Int)) = ((n : Nat) : Int) := by
  rw [wrapI _ (by omega)]; omega
/-- How long all of them are, at the most. -/
theorem lens (a b c : List Int) (t : a.length + b.length + c.length ≤ 1048576) :
    (uniL a b).length ≤ 4194304 ∧ (uniL b a).length ≤ 4194304 ∧ (interL a b).length ≤ 4194304 ∧ (interL b a).length ≤ 4194304 ∧ (uniL b c).length ≤ 4194304 ∧ (uniL a (uniL b c)).length ≤ 4194304 ∧ (uniL (uniL a b) c).length ≤ 4194304 ∧ (diffL a b).length ≤ 4194304 ∧ (interL (diffL a b) (interL a b)).length ≤ 4194304 ∧ (uniL (diffL a b) (interL a b)).length ≤ 4194304 ∧ (uniL a []).length ≤ 4194304 ∧ (uniL [] b).length ≤ 4194304 ∧ (interL a (uniL b c)).length ≤ 4194304 ∧ (interL a c).length ≤ 4194304 ∧ (uniL (interL a b) (interL a c)).length ≤ 4194304 := by
  have h1 := uniL_length a b
  have h2 := uniL_length b a
  have h3 := interL_length a b
  have h4 := interL_length b a
  have h5 := uniL_length b c
  have h6 := uniL_length a (uniL b c)
  have h7 := uniL_length (uniL a b) c
  have h8 := diffL_length a b
  have h9 := interL_length (diffL a b) (interL a b)
  have h10 := uniL_length (diffL a b) (interL a b)
  have h11 := uniL_length a []
  have h12 := uniL_length [] b
  have h13 := interL_length a (uniL b c)
  have h14 := interL_length a c
  have h15 := uniL_length (interL a b) (interL a c)
  simp only [List.length_nil] at h11 h12
  omega
set_option maxHeartbeats 4000000 in
set_option maxRecDepth 100000 in
theorem walk (v0 : Value) (z0 : List Int) (v1 : Value) (z1 : List Int) (v2 : Value) (z2 : List Int) (w : World) (i0 : IntsAt w v0 z0) (i1 : IntsAt w v1 z1) (i2 : IntsAt w v2 z2) (tot : z0.length + z1.length + z2.length ≤ 1048576) :
    Calls Try.prog 8 #[v0, v1, v2] w fun e w' => e = .returned (.bool true) ∧ Below w.heap.size w w' := by
  have HT := Lib.hid tot
  have HLEN := Lib.hid (lens z0 z1 z2 tot)
  have HV : Hid (Live w [(v0, z0), (v1, z1), (v2, z2), (.slice none 0 0, [])]) := Lib.hid (by
    intro p hp
    simp only [List.mem_cons, List.not_mem_nil, or_false] at hp
    rcases hp with rfl | rfl | rfl | rfl
    · exact i0
    · exact i1
    · exact i2
    · exact .inl ⟨rfl, none, 0, rfl⟩)
  have HB := Lib.hid (Below.refl w.heap.size w)
  have H8 := Lib.hid sure_yes
  have hzero : (((interL (diffL z0 z1) (interL z0 z1)).length : Int) != 0) = false := by rw [diff_inter]; rfl
  have hl1 := uni_len z0 z1
  obtain ⟨q1, q2, q3, _, _, _, _, _, _, _, q11, q12, _⟩ := lens z0 z1 z2 tot
  have hs1 := sum_wrap _ _ _ rfl q1 q3
  have hs2 := sum_wrap _ _ _ hl1.symm q11 q12
  obtain ⟨NN, hNN⟩ : ∃ NN : Int, NN = (((uniL z0 z1).length + (interL z0 z1).length : Nat) : Int) := ⟨_, rfl⟩
  rw [← hNN] at hs1 hs2
  clear i0 i1 i2 tot hl1 q1 q2 q3 q11 q12 hNN
  go_enter Try.func8, Try.ntmps8
  go_wp2_with (first
    | (go_at_call 18; refine (union_live HV.out (by repeat (first | exact List.Mem.head _ | apply List.Mem.tail)) (by repeat (first | exact List.Mem.head _ | apply List.Mem.tail)) (by have := HLEN.out; have := HT.out; (try simp only [List.length_nil]); omega)).mono ?_; rintro e w2 ⟨p, c, rfl, hv, hb⟩; have hb' := HB.out.trans (hb.mono HB.out.size); clear HB HV; have HB := Lib.hid hb'; have HV := Lib.hid hv; clear hb hb' hv)
    | (go_at_call 20; refine (inter_live HV.out (by repeat (first | exact List.Mem.head _ | apply List.Mem.tail)) (by repeat (first | exact List.Mem.head _ | apply List.Mem.tail)) (by have := HLEN.out; have := HT.out; omega)).mono ?_; rintro e w2 ⟨p, c, rfl, hv, hb⟩; have hb' := HB.out.trans (hb.mono HB.out.size); clear HB HV; have HB := Lib.hid hb'; have HV := Lib.hid hv; clear hb hb' hv)
    | (go_at_call 22; refine (diff_live HV.out (by repeat (first | exact List.Mem.head _ | apply List.Mem.tail)) (by repeat (first | exact List.Mem.head _ | apply List.Mem.tail)) (by have := HLEN.out; have := HT.out; omega)).mono ?_; rintro e w2 ⟨p, c, rfl, hv, hb⟩; have hb' := HB.out.trans (hb.mono HB.out.size); clear HB HV; have HB := Lib.hid hb'; have HV := Lib.hid hv; clear hb hb' hv)
    | (go_at_call 14; refine (same_live HV.out (by repeat (first | exact List.Mem.head _ | apply List.Mem.tail)) (by repeat (first | exact List.Mem.head _ | apply List.Mem.tail)) (by have := HLEN.out; have := HT.out; omega) (by first | exact uni_comm _ _ | exact inter_comm _ _ | exact uni_assoc _ _ _ | exact diff_uni _ _ | exact inter_uni _ _ _)).mono ?_; rintro e w2 ⟨rfl, hb⟩; have hv := HV.out.below hb; have hb' := HB.out.trans (hb.mono HB.out.size); clear HB HV; have HB := Lib.hid hb'; have HV := Lib.hid hv; clear hb hb' hv)
    | (go_at_call 17; refine (H8.out _).mono ?_; rintro e w5 ⟨rfl, hb⟩; have hb' := HB.out.trans (hb.mono HB.out.size); clear HB; have HB := Lib.hid hb'; clear hb hb'))
  go_ret
  exact ⟨rfl, HB.out⟩

theorem toLen (s : ByteArray) : s.data.toList.length = s.size := by rw [Array.length_toList]; rfl

/-! ### The row -/
set_option maxRecDepth 100000 in
theorem contract (H : Type) (enc : TypeId × Value → H) (W : World) (base : Nat) (args : Array Value) (ds gs : List (DataW H)) (before : List MemPlace)
    (hval0 : ∀ (j : Nat) t v, Try.f8.params[j]? = some t → args[j]? = some v → Value.okWide Try.prog W .any base t v)
    (hW : DataW.Whole enc Try.prog Try.f8.params.toList Rows.idsRulesSpec.vars false W args.toList ds gs before) (hsz : Rows.uptoSmall H (ds ++ gs) = true) :
    Calls Try.prog 8 args W fun e W' => ∃ v, e = .returned v ∧ Rows.idsRulesSpec.post enc Try.prog Try.f8 false true false false W args v W' := by
  have hval : ∀ (j : Nat) t v, Try.f8.params[j]? = some t → args[j]? = some v → Value.okWide Try.prog W .any base t v := hval0
  have hW' := hW
  obtain ⟨p, q, hA0, hV, rfl, hfz, hnd⟩ := hW
  have hA : DataW.TrodAll enc Try.prog W 0 (fun _ => true) true Try.f8.params.toList args.toList ds p := hA0
  rw [Try.params8] at hA hval
  obtain ⟨v0, vs0, d0, ds0, p0, q0, hargs, rfl, rfl, h0, r0⟩ := trodAll_cons hA
  obtain ⟨v1, vs1, d1, ds1, p1, q1, rfl, rfl, rfl, h1, r1⟩ := trodAll_cons r0
  obtain ⟨v2, vs2, d2, ds2, p2, q2, rfl, rfl, rfl, h2, r2⟩ := trodAll_cons r1
  obtain ⟨rfl, rfl, rfl⟩ := trodAll_nil r2
  obtain rfl : args = #[v0, v1, v2] := by cases args; simp_all
  obtain ⟨rfl, rfl⟩ := trodVars_none hV
  obtain ⟨a0, len0, cap0, rfl⟩ := okWide_slice Try.underlying22 (hval 0 22 v0 rfl rfl)
  have k0 := h0
  have lt0 : ∀ x ∈ p0, x.block < W.heap.size := by obtain ⟨m, hm⟩ := k0; exact DataW.trod_lt m _ _ _ hm
  obtain ⟨z0, w0, b0⟩ : ∃ zs, IsRow .i64 W a0 len0 cap0 zs ∧ len0 + 1 ≤ Rows.uptoBulk d0 := by
    obtain ⟨fuel, hf⟩ := h0
    rcases open_ints Try.underlying22 Try.underlying3 (by kernel_rfl) hf with ⟨hcs, hx⟩ | ⟨x, l, c, zs, hcs, _, hl, hm, hz, hx, hcell, hwz⟩
    · simp [Value.cells] at hcs
      obtain ⟨rfl, rfl, rfl⟩ := hcs
      have hx' := congrArg Prod.fst hx
      simp only at hx'
      subst hx'
      exact ⟨[], .inl ⟨rfl, rfl, rfl, rfl⟩, by simp [Rows.uptoBulk]⟩
    · simp [Value.cells] at hcs
      obtain ⟨rfl, rfl, rfl⟩ := hcs
      have hx' := congrArg Prod.fst hx
      simp only at hx'
      subst hx'
      simp only [if_true] at hz
      refine ⟨zs, .inr ⟨_, rfl, hl, hm, by simpa using hz, hcell, hwz⟩, ?_⟩
      simp only [Rows.uptoBulk, bulk_lits, List.length_take, List.length_drop]
      omega
  obtain ⟨a1, len1, cap1, rfl⟩ := okWide_slice Try.underlying22 (hval 1 22 v1 rfl rfl)
  have k1 := h1
  have lt1 : ∀ x ∈ p1, x.block < W.heap.size := by obtain ⟨m, hm⟩ := k1; exact DataW.trod_lt m _ _ _ hm
  obtain ⟨z1, w1, b1⟩ : ∃ zs, IsRow .i64 W a1 len1 cap1 zs ∧ len1 + 1 ≤ Rows.uptoBulk d1 := by
    obtain ⟨fuel, hf⟩ := h1
    rcases open_ints Try.underlying22 Try.underlying3 (by kernel_rfl) hf with ⟨hcs, hx⟩ | ⟨x, l, c, zs, hcs, _, hl, hm, hz, hx, hcell, hwz⟩
    · simp [Value.cells] at hcs
      obtain ⟨rfl, rfl, rfl⟩ := hcs
      have hx' := congrArg Prod.fst hx
      simp only at hx'
      subst hx'
      exact ⟨[], .inl ⟨rfl, rfl, rfl, rfl⟩, by simp [Rows.uptoBulk]⟩
    · simp [Value.cells] at hcs
      obtain ⟨rfl, rfl, rfl⟩ := hcs
      have hx' := congrArg Prod.fst hx
      simp only at hx'
      subst hx'
      simp only [if_true] at hz
      refine ⟨zs, .inr ⟨_, rfl, hl, hm, by simpa using hz, hcell, hwz⟩, ?_⟩
      simp only [Rows.uptoBulk, bulk_lits, List.length_take, List.length_drop]
      omega
  obtain ⟨a2, len2, cap2, rfl⟩ := okWide_slice Try.underlying22 (hval 2 22 v2 rfl rfl)
  have k2 := h2
  have lt2 : ∀ x ∈ p2, x.block < W.heap.size := by obtain ⟨m, hm⟩ := k2; exact DataW.trod_lt m _ _ _ hm
  obtain ⟨z2, w2, b2⟩ : ∃ zs, IsRow .i64 W a2 len2 cap2 zs ∧ len2 + 1 ≤ Rows.uptoBulk d2 := by
    obtain ⟨fuel, hf⟩ := h2
    rcases open_ints Try.underlying22 Try.underlying3 (by kernel_rfl) hf with ⟨hcs, hx⟩ | ⟨x, l, c, zs, hcs, _, hl, hm, hz, hx, hcell, hwz⟩
    · simp [Value.cells] at hcs
      obtain ⟨rfl, rfl, rfl⟩ := hcs
      have hx' := congrArg Prod.fst hx
      simp only at hx'
      subst hx'
      exact ⟨[], .inl ⟨rfl, rfl, rfl, rfl⟩, by simp [Rows.uptoBulk]⟩
    · simp [Value.cells] at hcs
      obtain ⟨rfl, rfl, rfl⟩ := hcs
      have hx' := congrArg Prod.fst hx
      simp only at hx'
      subst hx'
      simp only [if_true] at hz
      refine ⟨zs, .inr ⟨_, rfl, hl, hm, by simpa using hz, hcell, hwz⟩, ?_⟩
      simp only [Rows.uptoBulk, bulk_lits, List.length_take, List.length_drop]
      omega
  have tot : (z0.take len0).length + (z1.take len1).length + (z2.take len2).length ≤ 1048576 := by
    have h := of_decide_eq_true hsz
    simp only [List.append_nil, Rows.uptoBulkAll, Rows.uptoBulk, toLen] at h
    rw [(row_in w0).2]
    rw [(row_in w1).2]
    rw [(row_in w2).2]
    omega
  clear hA0 hval0
  refine (walk (.slice a0 len0 cap0) (z0.take len0) (.slice a1 len1 cap1) (z1.take len1) (.slice a2 len2 cap2) (z2.take len2) W (row_in w0).1 (row_in w1).1 (row_in w2).1 tot).mono fun e W' ⟨he, bel⟩ => ?_
  subst he
  exact ⟨_, rfl, _, _, _, [], _, [], hW', trodAll_mk1 (shut_bool Try.underlying4 _), (trodAll_cons_mk (Below.trod laidOut (by kernel_rfl) (of_decide_eq_true (by kernel_rfl)) k0 bel lt0) (trodAll_cons_mk (Below.trod laidOut (by kernel_rfl) (of_decide_eq_true (by kernel_rfl)) k1 bel lt1) (trodAll_cons_mk (Below.trod laidOut (by kernel_rfl) (of_decide_eq_true (by kernel_rfl)) k2 bel lt2) trodAll_mk0))), rfl, bel.frame _, fun h => by cases h⟩

set_option maxRecDepth 100000 in
theorem lifted (os : Os) (started : os.Started) (H : Type) (enc : TypeId × Value → H) (F : Stop.Interp) :
    ReturnsInHanded {} Try.checked os 8 .any ((Rows.OpenSpec.upto Rows.idsRulesSpec).pre6 enc Try.prog Try.f8 Rows.idsRulesUptoRow.domain false) (((Rows.OpenSpec.upto Rows.idsRulesSpec).at F).post enc Try.prog Try.f8 false true false false) := by
  refine returnsInHanded_of_cond (C := Try.checked) (s := Rows.OpenSpec.upto Rows.idsRulesSpec) (k := Rows.uptoSmall) rfl own started (by kernel_rfl) Try.func8
    (OpenSpec.witness (enc := enc) (C := Try.checked) (s := Rows.OpenSpec.upto Rows.idsRulesSpec) (k := Rows.uptoSmall) rfl false ⟨#[], #[.slice none 0 0, .slice none 0 0, .slice none 0 0], []⟩ 8 (by kernel_rfl) (by kernel_rfl) (by kernel_rfl)
      (x := ([.nil, .nil, .nil], [], [])) (by kernel_rfl) rfl (by kernel_rfl)) ?_
  intro W base args ds gs before hval hW _ hk _
  exact contract H enc W base args ds gs before hval hW hk

/-- The statement. -/
theorem proved : Rows.IdsRulesUptoSaid :=
  OpenClaim.holds_of_cond 8 Try.f8 rfl rfl rfl rfl rfl rfl rfl ⟨rfl, rfl, rfl, rfl, rfl⟩ rfl rfl rfl rfl rfl (by kernel_rfl) Try.func8 (by kernel_rfl)
    (of_decide_eq_true (by kernel_rfl)) (by unfold Func.isWrapper; first | (rw [if_pos (by decide +kernel)]; kernel_rfl) | (rw [if_neg (by decide +kernel)]; exact ⟨rfl, rfl⟩))
    (fun os started H enc _ F => lifted os started H enc F)
#print axioms proved
end Go.Proofs.Ytbfaoelgbfhjdaa.idsRules
