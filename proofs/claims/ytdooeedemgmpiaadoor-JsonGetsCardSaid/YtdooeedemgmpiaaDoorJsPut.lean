/- The call appendValue at values without parts. Conditions: those that each theorem names. -/
import Derived.Test.YtdooeedemgmpiaaDoorJsApp
import Derived.Test.YtdooeedemgmpiaaDoorJsForm2
import Derived.Lib.ItoaNum
namespace Go.Proofs.YtdooeedemgmpiaaDoor
set_option linter.unusedVariables false
open Go Go.RowKit Js

theorem dec_is : ∀ (k n : Nat) (acc : Bs), n < 10 ^ (k + 1) → decF (k + 1) n acc = Lib.decDigits n ++ acc
  | 0, n, acc, h => by
    have hn : n < 10 := by simpa using h
    unfold decF
    rw [Lib.decDigits, if_pos hn, dif_pos hn]; rfl
  | k + 1, n, acc, h => by
    unfold decF
    rw [Lib.decDigits]
    by_cases hn : n < 10
    · rw [if_pos hn, dif_pos hn]; rfl
    · rw [if_neg hn, dif_neg hn, dec_is k (n / 10) _ (by rw [Nat.pow_succ] at h; omega)]
      simp
theorem decI_is (n : Int) (h0 : -9007199254740991 ≤ n) (h1 : n ≤ 9007199254740991) : decI n = Lib.itoa n := by
  have h : n.natAbs < 10 ^ (19 + 1) := by
    have : n.natAbs ≤ 9007199254740991 := by omega
    exact Nat.lt_of_le_of_lt this (by decide)
  have e : dec n.natAbs = Lib.decDigits n.natAbs := by
    unfold dec
    rw [dec_is 19 n.natAbs [] h, List.append_nil]
  unfold decI Lib.itoa
  rw [e]
  split
  · rfl
  · rw [show n.natAbs = n.toNat by omega]
/-- A row of one's own gets some bytes more. -/
theorem out_bytes {B : Nat} {w : World} {v : Value} {bs : Bs} (h : Out B w v bs) (nb : Bs) (hfit : bs.length + nb.length ≤ lim) :
    ∃ v' w', (∀ ty, (Builtin.append_ #[48, 48] ty #[v, .slice (some ⟨w.heap.size, 0, none⟩) nb.length nb.length]).run Tryd.prog (w.alloc (.cells (Lib.byteCells nb).toArray 5)) = .ok v' w') ∧ Out B w' v' (bs ++ nb) ∧ Kp B w w' := by
  obtain ⟨i0, hi, hz0, hz1, hz2⟩ := info_parts infoByte
  have ho := h.own.alloc (.cells (Lib.byteCells nb).toArray 5)
  have hb := h.base
  obtain ⟨v', w', hr, h2, h3, h4⟩ := run_append_own (P := Tryd.prog) (w := w.alloc (.cells (Lib.byteCells nb).toArray 5)) B 48 48 5 i0 (.int .u8 0) 1 1 Tryd.underlying48 hi hz0 hz1 hz2 rfl (by decide) v bs.length (Lib.byteCells bs) ho ⟨w.heap.size, 0, none⟩ nb.length nb.length (Lib.byteCells nb) (by rw [byteCells_len]; omega) (new_cells w _ _) (byteCells_one _) (lim_add hfit).1 (lim_add hfit).2 (by simp; omega)
  exact ⟨v', w', fun _ => hr, h.grown (nb := nb) h2 h3⟩
theorem out_string {B : Nat} {w : World} {v : Value} {bs : Bs} (h : Out B w v bs) (s : ByteArray) (hfit : bs.length + s.size ≤ lim) :
    ∃ v' w', (∀ ty, (Builtin.append_ #[48, 9] ty #[v, .string s]).run Tryd.prog w = .ok v' w') ∧ Out B w' v' (bs ++ s.data.toList) ∧ Kp B w w' := by
  obtain ⟨i0, hi, hz0, hz1, hz2⟩ := info_parts infoByte
  have ho : w.ownsRow 0 5 1 v bs.length (Lib.byteCells bs) := by
    refine ⟨h.own.1, ?_⟩
    rcases h.own.2 with hn | ⟨g, cap, cur, rfl, h1, rest⟩
    · exact .inl hn
    · exact .inr ⟨g, cap, cur, rfl, Nat.zero_le _, rest⟩
  obtain ⟨p, c, w', hr, h2, h3, h4⟩ := run_append_string (P := Tryd.prog) w 48 9 0 5 i0 Tryd.underlying48 Tryd.underlying9 hi hz0 hz1 hz2 v bs.length (Lib.byteCells bs) ho s (by unfold lim at hfit; omega)
  have hc : Lib.strCells s = Lib.byteCells s.data.toList := rfl
  have hbase := h.base
  refine ⟨_, w', fun _ => hr, ⟨?_, Nat.le_trans h.base h3.size⟩, ⟨(Below.refl B w).grown h3 h.base fun k hk => (h.own.lt k hk).1, (Lib.OthersKept.refl _ _ w).grown h3 h.row⟩⟩
  rw [hc] at h2
  have e : (bs ++ s.data.toList).length = bs.length + s.size := by rw [List.length_append, ← Lib.size_eq]
  rw [e, byteCells_app]
  refine ⟨h2.1, ?_⟩
  rcases h2.2 with hn | ⟨g, cap, cur, he, h1, rest⟩
  · exact .inl hn
  · refine .inr ⟨g, cap, cur, he, ?_, rest⟩
    rcases h4 g (by rw [he]; rfl) with h5 | h5
    · exact (h.own.lt g h5).1
    · omega
set_option maxHeartbeats 1000000 in
set_option maxRecDepth 100000 in
theorem bool_in (b : Bool) (B : Nat) (v : Value) (bs : Bs) (w : World) (hO : Out B w v bs) (hfit : bs.length + 40 ≤ lim) :
    Calls Tryd.prog 39 #[v, .bool b] w (AppP B w (bs ++ if b = true then [116, 114, 117, 101] else [102, 97, 108, 115, 101])) := by
  cases b with
  | true =>
    obtain ⟨v', w', hr, h1, h2⟩ := out_string hO ⟨#[116, 114, 117, 101]⟩ (by show bs.length + 4 ≤ lim; omega)
    have HR := Lib.hid hr
    have HE : Hid (AppP B w (bs ++ [116, 114, 117, 101]) (.returned v') w') := Lib.hid ⟨v', rfl, h1, h2⟩
    rw [if_pos rfl]
    clear hr h1 h2 hO hfit
    go_enter Tryd.func39, Tryd.ntmps39
    go_wp2_with (at_builtin; refine wpList_append_run rfl _ _ _ _ rfl v _ v' w' rfl rfl (fun ty => HR.out ty) ?_)
    go_ret
    exact HE.out
  | false =>
    obtain ⟨v', w', hr, h1, h2⟩ := out_string hO ⟨#[102, 97, 108, 115, 101]⟩ (by show bs.length + 5 ≤ lim; omega)
    have HR := Lib.hid hr
    have HE : Hid (AppP B w (bs ++ [102, 97, 108, 115, 101]) (.returned v') w') := Lib.hid ⟨v', rfl, h1, h2⟩
    rw [if_neg (by simp)]
    clear hr h1 h2 hO hfit
    go_enter Tryd.func39, Tryd.ntmps39
    go_wp2_with (at_builtin; refine wpList_append_run rfl _ _ _ _ rfl v _ v' w' rfl rfl (fun ty => HR.out ty) ?_)
    go_ret
    exact HE.out
set_option maxHeartbeats 1000000 in
set_option maxRecDepth 100000 in
theorem bool_any (b : Bool) (B : Nat) (v : Value) (bs : Bs) (w : World) (hO : Out B w v bs) (hfit : bs.length + 40 ≤ lim) :
    Calls Tryd.prog 24 #[v, .bool b] w (AppP B w (bs ++ if b = true then [116, 114, 117, 101] else [102, 97, 108, 115, 101])) := by
  have HC := Lib.hid (bool_in b B v bs w hO hfit)
  generalize (bs ++ if b = true then [116, 114, 117, 101] else [102, 97, 108, 115, 101]) = r at *
  clear hO hfit
  go_enter Tryd.func24, Tryd.ntmps24
  go_wp2_with fail
  refine HC.out.mono ?_
  rintro e w1 ⟨v', rfl, h1, h2⟩
  have HE : Hid (AppP B w r (.returned v') w1) := Lib.hid ⟨v', rfl, h1, h2⟩
  clear h1 h2
  go_wp2_with fail
  go_ret
  exact HE.out
theorem int_any (n : Int) (h0 : -9223372036854775808 ≤ n) (h1 : n ≤ 9223372036854775807) (B : Nat) (v : Value) (bs : Bs) (w : World) (hO : Out B w v bs) (hB : gN ≤ B) (G : Gl w) (hfit : bs.length + 40 ≤ lim) :
    Calls Tryd.prog 25 #[v, .int .i64 n, .int .i64 10] w (AppP B w (bs ++ Lib.itoa n)) := by
  refine (Tryd.strconv_AppendInt_10 B bs.length n h0 h1 v (Lib.byteCells bs) w hO.own hO.base (by unfold lim at hfit; omega) (fun w' hb => G.pow w' (fun b hb' => hb.block b (by omega)))).mono ?_
  rintro e w' ⟨v', rfl, h2, h3, h4⟩
  refine ⟨v', rfl, ⟨?_, Nat.le_trans hO.base h3.size⟩, ⟨h3, h4⟩⟩
  rw [List.length_append, byteCells_app]
  exact h2
end Go.Proofs.YtdooeedemgmpiaaDoor
