/- The call named. Conditions: those that each theorem names. -/
import Derived.Test.YtdooeedemgmpiaaDoorJsDeeper
import Derived.Test.YtdooeedemgmpiaaDoorMp
import Derived.Ground.NamesProg
import Derived.Shelf.Lay
import Derived.Shelf.Unicode.ValidAny
namespace Go.Proofs
open Go Go.RowKit Go.Shelf Go.Lib
shelf_lay Lays.n196 Nm 196 at Tryd as Tryd.laysValid
end Go.Proofs
namespace Go.Proofs.YtdooeedemgmpiaaDoor
set_option linter.unusedVariables false
open Go Go.RowKit Js
open Go.ChangeMaps (setBlock)
theorem valid_any (s : ByteArray) (w : World) (hs : s.size ≤ 16777215) (G : Gl w) :
    Calls Tryd.prog 36 #[.string s] w fun e w' => e = .returned (.bool (Lib.validD s.data.toList)) ∧ Below w.heap.size w w' :=
  Any.utf8_ValidString Tryd.laysValid s w (by omega) (G.utf w fun _ _ => rfl)
theorem put_any {w : World} {M n : Nat} {ns : List ByteArray} (h : Mp Tryd.prog 9 w M (SeenS ns) n) (x : ByteArray) (hx : x.size ≤ maxLen) (hn : n < maxLen) :
    ∃ o n', (∀ X : World, X.heap[M]? = w.heap[M]? → (Instr.mapUpdate 67 (.map (some M)) (.string x) (.agg #[])).run Tryd.prog X = .ok () (setBlock X M o)) ∧ (∀ X : World, X.heap[M]? = some o → Mp Tryd.prog 9 X M (SeenS (ns ++ [x])) n') ∧ n' ≤ n + 1 ∧ (n' = n + 1 ↔ (ns.any fun b => decide (b = x)) = false) ∧ n ≤ n' := by
  have hS : ∀ y u, ((y = .string x ∧ u = Value.agg #[]) ∨ (y ≠ .string x ∧ SeenS ns y u)) ↔ SeenS (ns ++ [x]) y u := by
    intro y u
    unfold SeenS
    constructor
    · rintro (⟨rfl, rfl⟩ | ⟨_, m, hm, rfl, rfl⟩)
      · exact ⟨x, by simp, rfl, rfl⟩
      · exact ⟨m, by simp [hm], rfl, rfl⟩
    · rintro ⟨m, hm, rfl, rfl⟩
      by_cases e : m = x
      · left; rw [e]; exact ⟨rfl, rfl⟩
      · right
        refine ⟨fun h => e (by injection h), m, ?_, rfl, rfl⟩
        rcases List.mem_append.1 hm with h | h
        · exact h
        · exact absurd (List.mem_singleton.1 h) e
  cases hin : (ns.any fun b => decide (b = x)) with
  | false =>
    obtain ⟨o, h1, h2⟩ := h.put_new seenK Tryd.underlying67 (x := .string x) (v := .agg #[]) (seenKey hx) (fun v ⟨m, hm, he, _⟩ => by
      injection he with he
      have := List.any_eq_false.1 hin m hm
      simp [he] at this) hn
    exact ⟨o, n + 1, h1, fun X hX => (h2 X hX).congr hS, by omega, by simp, by omega⟩
  | true =>
    obtain ⟨m, hm, he⟩ := List.any_eq_true.1 hin
    have he : m = x := by simpa using he
    obtain ⟨o, h1, h2⟩ := h.put_old seenK Tryd.underlying67 (x := .string x) (v := .agg #[]) (u0 := .agg #[]) ⟨m, hm, by rw [he], rfl⟩
    exact ⟨o, n, h1, fun X hX => (h2 X hX).congr hS, by omega, by simp, by omega⟩
theorem distinct_push : ∀ (ns : List ByteArray) (x : ByteArray), Js.distinct (ns ++ [x]) = (Js.distinct ns && !(ns.any fun b => decide (b = x)))
  | [], x => by simp [Js.distinct]
  | a :: l, x => by
    simp only [List.cons_append, Js.distinct, distinct_push l x, List.any_append, List.any_cons, List.any_nil, Bool.or_false]
    by_cases h : a = x
    · subst h; simp
    · have h' : ¬ x = a := fun e => h e.symm
      simp [h, h', Bool.and_assoc]
def NamedR (ns : List ByteArray) (M : Nat) (w : World) (q : Nat) (wr : World) : Prop :=
  ∃ n, Mp Tryd.prog 9 wr M (SeenS (ns.take q)) n ∧ n ≤ q ∧ (n = q ↔ Js.distinct (ns.take q) = true) ∧ (ns.take q).all runes = true ∧ Gr none' w wr
set_option maxHeartbeats 1000000 in
set_option maxRecDepth 100000 in
theorem named_any (S : Nat → Prop) (ns : List ByteArray) (np : Option Addr) (nc : Nat) (w : World) (h : NamesAt S w np ns) (hl : ns.length ≤ 16777215) (hz : ∀ n ∈ ns, n.size ≤ 16777215) (G : Gl w) :
    Calls Tryd.prog 38 #[.slice np ns.length nc] w fun e w' => e = .returned (.bool (ns.all runes && Js.distinct ns)) ∧ Gr none' w w' := by
  have hmm := @run_makeMap Tryd.prog
  have hl' : (ns.length : Int) ≤ 16777215 := by omega
  have H := Lib.hid h
  have HZ := Lib.hid hz
  have GG := Lib.hid G
  clear h hz G
  go_enter Tryd.func38, Tryd.ntmps38
  go_wp2_with fail
  go_loopw [9] (fun i wr => ∃ q : Nat, q ≤ ns.length ∧ i = .int .i64 q ∧ NamedR ns w.heap.size w q wr) (fun i _ => ns.length - (intOf i).toNat)
  case atStart => exact ⟨0, Nat.zero_le _, rfl, 0, (Mp.made w 9).congr (fun y u => by unfold SeenS; simp), by simp, by simp [Js.distinct], by simp, (Gr.refl _ w).alloc _⟩
  case round =>
    obtain ⟨q, hq, rfl, n, hm, hnq, hnd, hall, hg⟩ := hrel
    have HM := Lib.hid hm
    have HN := Lib.hid hnd
    have HA := Lib.hid hall
    have HG := Lib.hid hg
    by_cases hlt : q < ns.length
    · obtain ⟨g, off, rfl, hgl, hc⟩ : ∃ g off, np = some ⟨g, off, none⟩ ∧ g < w.heap.size ∧ ∀ W : World, W.heap[g]? = w.heap[g]? → ∀ j (h : j < ns.length), W.cell? ⟨g, off + j, none⟩ = some (.string ns[j]) := by
        rcases H.out with h | ⟨g, off, h1, _, h2, h3⟩
        · rw [h] at hlt; simp at hlt
        · exact ⟨g, off, h1, h2, h3⟩
      have c0 := hc wr (hg.block g hgl (fun x => x)) q hlt
      have hxs := HZ.out ns[q] (List.getElem_mem hlt)
      have HT : Hid (ns.take (q + 1) = ns.take q ++ [ns[q]]) := Lib.hid (List.take_succ_eq_append_getElem hlt)
      have HMEM := Lib.hid (List.getElem_mem hlt)
      generalize ns[q] = x at c0 hxs HT HMEM
      have HV := Lib.hid (valid_any x wr hxs (GG.out.weak hg))
      clear hm hnd hall hg hc
      cases hr : runes x with
      | false =>
        have hr' : Lib.validD x.data.toList = false := hr
        rw [hr'] at HV
        have HF : Hid ((ns.all runes && Js.distinct ns) = false) := Lib.hid (by
          have : ns.all runes = false := List.all_eq_false.2 ⟨x, HMEM.out, by simp [hr]⟩
          rw [this]; rfl)
        clear hr hr'
        go_wp2_with fail
        refine HV.out.mono ?_
        rintro e w5 ⟨rfl, hb⟩
        have HB := Lib.hid hb
        clear hb
        go_wp2_with fail
        go_ret
        rw [HF.out]
        exact ⟨rfl, HG.out.trans (Gr.of_below HB.out fun b h1 h2 => absurd h2 (Nat.not_lt.2 h1))⟩
      | true =>
        have hr' : Lib.validD x.data.toList = true := hr
        rw [hr'] at HV
        have HRX := Lib.hid hr
        clear hr hr'
        go_wp2_with fail
        refine HV.out.mono ?_
        rintro e w5 ⟨rfl, hb⟩
        have HG5 : Hid (Gr none' w w5) := Lib.hid (HG.out.trans (Gr.of_below hb fun b h1 h2 => absurd h2 (Nat.not_lt.2 h1)))
        have hMlt := HM.out.lt
        obtain ⟨o, n', h1, h2, h3, h4, h5⟩ := put_any HM.out x (by unfold maxLen; omega) (by unfold maxLen; omega)
        have hM5 : w5.heap[w.heap.size]? = wr.heap[w.heap.size]? := hb.block _ hMlt
        have hput := h1 w5 hM5
        have H2 := Lib.hid h2
        have HLT5 : Hid (w.heap.size < w5.heap.size) := Lib.hid (Nat.lt_of_lt_of_le hMlt hb.size)
        clear hb h1 h2 hMlt hM5
        go_wp2_with fail
        go_roundw
        case rel =>
          refine ⟨q + 1, by omega, rfl, n', ?_, by omega, ?_, ?_, ?_⟩
          · rw [HT.out]; exact H2.out _ (setBlock_at o HLT5.out)
          · rw [HT.out, distinct_push, Bool.and_eq_true, ← HN.out, Bool.not_eq_true', ← h4]
            omega
          · rw [HT.out, List.all_append, HA.out]; simp [HRX.out]
          · have ho := setBlock_only w5 w.heap.size o
            exact ⟨ho.os.trans HG5.out.os, ho.tape.trans HG5.out.tape, ho.output.trans HG5.out.output, by rw [ho.size]; exact HG5.out.size, fun b hb hx => (ho.block b (by omega)).trans (HG5.out.block b hb hx)⟩
        case measure => simp [intOf]; omega
    · obtain rfl : q = ns.length := by omega
      have HF : Hid ((ns.all runes && Js.distinct ns) = decide (n = ns.length)) := Lib.hid (by
        rw [List.take_length] at hall hnd
        rw [hall, Bool.true_and, Bool.eq_iff_iff, ← hnd, decide_eq_true_iff])
      obtain ⟨es, clock, hb, _, hes, _⟩ := hm
      have hn2 : (n : Int) ≤ 16777215 := by omega
      have hlen : ∀ ty, (Builtin.len_ #[67] ty #[.map (some w.heap.size)]).run Tryd.prog wr = .ok (.int .i64 n) wr := fun ty => by
        rw [run_len_map (t := 67) (ty := ty) (r := w.heap.size) (es := es) (clock := clock) (h := by kernel_rfl) (hb := hb), hes]; rfl
      clear hnd hall hg HM HN HA hb
      go_wp2_with fail
      go_ret
      rw [HF.out]
      refine ⟨?_, HG.out⟩
      have e : ((n : Int) == (ns.length : Int)) = decide (n = ns.length) := by rw [Bool.eq_iff_iff]; simp; omega
      rw [← e]; rfl
end Go.Proofs.YtdooeedemgmpiaaDoor
