/- The law's 'do' on both disks: a plan. Conditions: those that each theorem names. -/
import Derived.Test.YtblhbkhehddccaaRfDo
import Derived.Test.YtblhbkhehddccaaRfLat
import Derived.Test.YtblhbkhehddccaaRfBoC
namespace Go.Proofs.Ytblhbkhehddccaa
set_option linter.unusedVariables false
open Go.RowKit Dk
section
variable {w0 : World} {A B : Nat} {D : DSt} {M : RSt} {k : Nat} {φ : Nat → Nat}
variable {w : World}
theorem Two.made {Y : Nat → Prop} (h : Two w0 A B Y D M w) : w.cell? ⟨B, 5, none⟩ = some (.int .i64 M.made) := by
  obtain ⟨X, _, ⟨fv, nv, lv, ov, pv, cs, h⟩, _⟩ := h
  exact h.cells.2.2.2
theorem LaI.done {z : Int} {l : List (Int × Int × Int)} {u : Value} {wr : World} (h : LaI w z l l.length u wr) : wr.ownsRow w.heap.size 63 3 u (laterL z l).length (fltCells (laterL z l)) ∧ Below w.heap.size w wr := by
  obtain ⟨h1, h2⟩ := h
  have e : (laterL z l).take l.length = laterL z l := List.take_of_length_le (by unfold laterL; simp)
  rw [e] at h1
  exact ⟨h1, h2⟩
theorem later_ok {z : Int} {l : List (Int × Int × Int)} (h : ∀ f ∈ l, fltOk f) (hz : 0 ≤ z ∧ z ≤ 1099511627776) : ∀ f ∈ laterL z l, -9223372036854775808 ≤ f.1 ∧ f.1 ≤ 9223372036854775807 := by
  intro f hf
  obtain ⟨x, hx, rfl⟩ := List.mem_map.1 hf
  have hk := (h x hx).1
  unfold okI at hk
  unfold laterF
  split
  · rename_i hc
    unfold farB at hc
    show -9223372036854775808 ≤ x.1 + z ∧ x.1 + z ≤ 9223372036854775807
    omega
  · exact hk
/-- The row of faults, as the law writes over it. -/
def RowS (pu : Option Addr) (n : Nat) (wr : World) : Prop := n = 0 ∨ ∃ g cur, pu = some ⟨g, 0, none⟩ ∧ w0.heap.size ≤ g ∧ wr.heap[g]? = some (.cells cur 63 (0, 0)) ∧ n * 3 ≤ cur.size
theorem rowS_of {base : Nat} {LL : List (Int × Int × Int)} {pu : Option Addr} {cu : Nat} {wr : World} (h : wr.ownsRow base 63 3 (.slice pu LL.length cu) LL.length (fltCells LL)) (hb : w0.heap.size ≤ base) : RowS (w0 := w0) pu LL.length wr := by
  rcases h.2 with ⟨_, h0⟩ | ⟨g, cap, cur, e, hg, hh, h1, h2, h3, _⟩
  · exact .inl h0
  · injection e with e1 e2 e3
    exact .inr ⟨g, cur, e1, by omega, hh, by rw [h3]; exact Nat.mul_le_mul_right 3 h1⟩
theorem rowS_next {n j : Nat} {wr : World} {g : Nat} {cur : Array Value} (hh : wr.heap[g]? = some (.cells cur 63 (0, 0))) (hn : n * 3 ≤ cur.size) (hg : w0.heap.size ≤ g) (a b c : Value) :
    RowS (w0 := w0) (some ⟨g, 0, none⟩) n (((wr.setCell ⟨g, j, none⟩ a).setCell ⟨g, j + 1, none⟩ b).setCell ⟨g, j + 2, none⟩ c) := by
  have b1 := heap_setCell_same _ g j _ _ a hh
  have b2 := heap_setCell_same _ g (j + 1) _ _ b b1
  have b3 := heap_setCell_same _ g (j + 2) _ _ c b2
  exact .inr ⟨g, _, rfl, hg, b3, by simpa using hn⟩
theorem rowS_cells {n j : Nat} {wr : World} {g : Nat} {cur : Array Value} (hh : wr.heap[g]? = some (.cells cur 63 (0, 0))) (hn : n * 3 ≤ cur.size) (hj : j < n) :
    (∃ u, wr.cell? ⟨g, j * 3, none⟩ = some u) ∧ (∃ u, wr.cell? ⟨g, j * 3 + 1, none⟩ = some u) ∧ (∃ u, wr.cell? ⟨g, j * 3 + 2, none⟩ = some u) ∧ ∀ i, wr.frozen? ⟨g, i, none⟩ = false := by
  have key : ∀ i, i < cur.size → ∃ u, wr.cell? ⟨g, i, none⟩ = some u := fun i hi => ⟨cur[i], by simp [World.cell?, hh, hi]⟩
  exact ⟨key _ (by omega), key _ (by omega), key _ (by omega), fun i => frozen_of_row _ _ _ _ _ hh⟩
set_option maxHeartbeats 4000000 in
set_option maxRecDepth 100000 in
theorem do_plan (h0 : Two w0 A B Y0 D M w) (b : DBd k D) (m : MBd k M) (tw : Dk.Twin φ D M) (hk : k ≤ 1048577) (s t : ByteArray) (z : Int) (p : Option Addr) (n c : Nat) (cn : Int) (q : Option Addr) (n2 c2 : Nat)
    (fl : List (Int × Int × Int)) (hf : FltR w0 (.slice p n c) fl) (hfo : ∀ f ∈ fl, fltOk f) (hfl : fl.length ≤ 1048576) :
    Calls Try.prog 5 #[.pointer (some ⟨A, 0, none⟩), .pointer (some ⟨B, 0, none⟩), .agg #[.int .i64 6, .string s, .string t, .int .i64 z, .slice p n c, .int .i64 cn, .slice q n2 c2]] w fun e w' => e = .returned (.bool true) ∧ Two w0 A B Y0 (planD D (laterL M.made fl)).2 (planR M (laterL M.made fl)).2 w' := by
  obtain ⟨W0, hW0⟩ : ∃ W0, W0 = w.alloc (Deed7 6 s t z (.slice p n c) cn (.slice q n2 c2)) := ⟨_, rfl⟩
  have hbox := heapLast w (Deed7 6 s t z (.slice p n c) cn (.slice q n2 c2))
  have hy := h0.boxed (Deed7 6 s t z (.slice p n c) cn (.slice q n2 c2))
  have hws : w.heap.size < W0.heap.size := by rw [hW0]; show _ < (w.heap.push _).size; simp
  rw [← hW0] at hbox hy
  have HC := Lib.hid (fun (W : World) (st : Stay (YB w.heap.size) W0 W) => cellsSeven (box_cells hbox st rfl))
  have HY := Lib.hid hy
  have hbig := bd_ok b m tw hk
  have hmade : 0 ≤ M.made ∧ M.made ≤ 1099511627776 := by
    have e3 := tw.made
    have h3 := b.low; have h4 := b.high
    omega
  have HLA := Lib.hid (fun (W : World) (hb : Below w0.heap.size w0 W) => later_any fl (.slice p n c) M.made W (hf.below hb) hfl hmade)
  have HOK := Lib.hid (later_ok hfo hmade)
  have HLL := Lib.hid (fun (W wr : World) (u : Value) (h : LaI W M.made fl fl.length u wr) => h.done)
  have HLN : Hid ((laterL M.made fl).length ≤ 1048576) := Lib.hid (by unfold laterL; rw [List.length_map]; exact hfl)
  have HMD := Lib.hid (fun (W : World) (Y : Nat → Prop) (t' : Two w0 A B Y D M W) => t'.made)
  generalize M.made = mz at *
  generalize laterL mz fl = LL at *
  obtain ⟨E, hE⟩ : ∃ E, E = (planD D LL).1 := ⟨_, rfl⟩
  have HP := Lib.hid (fun (W : World) (Y : Nat → Prop) (t' : Two w0 A B Y D M W) (p : Option Addr) (c : Nat) (hl : FaultsAt W p c LL) (hs : ∀ g, (Value.slice p LL.length c).ownBlock = some g → Y g) => t'.pPlan p c LL hl hs HOK.out)
  have HR := Lib.hid (fun (W : World) (Y : Nat → Prop) (D' : DSt) (t' : Two w0 A B Y D' M W) (p : Option Addr) (c : Nat) (hl : FaultsAt W p c LL) => t'.rPlan tw p c LL hl)
  rw [← hE] at HP HR
  obtain ⟨D1, hD1⟩ : ∃ D1, D1 = (planD D LL).2 := ⟨_, rfl⟩
  obtain ⟨M1, hM1⟩ : ∃ M1, M1 = (planR M LL).2 := ⟨_, rfl⟩
  rw [← hD1] at HP ⊢
  rw [← hM1] at HR ⊢
  have HWS := Lib.hid hws
  have mixed : Try.prog.follows .mixedOrders = true := by kernel_rfl
  clear hE hD1 hM1 hy hbox h0 b m tw hk hf hfo hfl hbig hmade hws
  go_enter Try.func5, Try.ntmps5
  subst hW0
  simp only [Deed7] at HC HY HWS
  obtain ⟨⟨c0, -, -, -⟩, c4, -, -⟩ := HC.out _ (Stay.refl _ _)
  have cm := HMD.out _ _ HY.out
  go_wp2_with fail
  clear c0
  generalize w.alloc (.cells #[.int .i64 6, .string s, .string t, .int .i64 z, .slice p n c, .int .i64 cn, .slice q n2 c2] 37) = W0 at *
  go_region_held3 (fun W : World => W.cell? ⟨w.heap.size, 4, none⟩ = some (.slice p n c) ∧ W.cell? ⟨B, 5, none⟩ = some (.int .i64 mz)) (first | assumption | go_keep) (first
    | (go_at_call 20; refine (HLA.out _ HY.out.drew.below).mono ?_; rintro e w1 ⟨u, rfl, hI⟩; have HI := Lib.hid (HLL.out _ _ _ hI); clear hI; have t1 := HY.out.drew.others HI.out.2; have cm1 := HMD.out _ _ t1; obtain ⟨-, c41, -, -⟩ := HC.out w1 ⟨HI.out.2.size, fun b hb => (HI.out.2.block b (by rw [hb]; exact HWS.out))⟩))
  obtain ⟨pu, cu, hu⟩ := own_form HI.out.1
  subst hu
  obtain ⟨Y2, hY2⟩ : ∃ Y2 : Nat → Prop, Y2 = fun b => b = w.heap.size ∨ (Value.slice pu LL.length cu).ownBlock = some b := ⟨_, rfl⟩
  have hsub : ∀ g, (Value.slice pu LL.length cu).ownBlock = some g → Y2 g := fun g hg => by rw [hY2]; exact .inr hg
  have t2 : Two w0 A B Y2 D M w1 := HY.out.drew.add HI.out.2 (fun b hb => by
    rw [hY2] at hb
    exact hb.imp id (fun h => HI.out.1.lt b h))
  have hw0 : w0.heap.size ≤ W0.drew.heap.size := HY.out.drew.below.size
  have f1 : FaultsAt w1 pu cu LL := Go.Joins.ownsRow_le HI.out.1 (Nat.zero_le _)
  have HP1 := Lib.hid (HP.out _ _ t2 _ _ f1 hsub)
  have HF1 := Lib.hid (fun (W : World) (st : Stay Y2 w1 W) => ownsRow_same HI.out.1 (fun g hg => st.2 g (hsub g hg)))
  have HS := Lib.hid (fun (W : World) (st : Stay Y2 w1 W) => rowS_of (w0 := w0) (ownsRow_same HI.out.1 (fun g hg => st.2 g (hsub g hg))) hw0)
  have HSB := Lib.hid hsub
  obtain ⟨N, hN⟩ : ∃ N, N = LL.length := ⟨_, rfl⟩
  have HN := Lib.hid hN
  have hnm : N ≤ maxLen := by have := HLN.out; unfold maxLen; omega
  have HNM := Lib.hid hnm
  clear c4 cm c41 cm1 t1 t2 f1 hsub hY2 hw0 hnm
  have HR1 := Lib.hid (fun (W : World) (D' : DSt) (t' : Two w0 A B Y2 D' M W) (st : Stay Y2 w1 W) => HR.out W Y2 D' t' pu cu (Go.Joins.ownsRow_le (HF1.out W st) (Nat.zero_le _)))
  rw [← hN] at HP1 HR1 HS HSB ⊢
  clear hN
  go_wp2_with fail
  refine HP1.out.mono ?_
  rintro e w2 ⟨rfl, t2, s2⟩
  go_wp2_with fail
  refine (HR1.out _ _ t2 s2).mono ?_
  rintro e w3 ⟨rfl, t3, s3⟩
  have HT3 := Lib.hid t3
  have HS3 := Lib.hid (HS.out _ (s2.trans s3))
  clear t2 s2 t3 s3
  go_wp2_with fail
  go_loopw [14] (fun i wr => ∃ j : Nat, j ≤ N ∧ i = .int .i64 j ∧ Two w0 A B Y2 D1 M1 wr ∧ RowS (w0 := w0) pu N wr) (fun i _ => N - (intOf i).toNat)
  case atStart => exact ⟨0, Nat.zero_le _, rfl, HT3.out, HS3.out⟩
  case round =>
    obtain ⟨j, hj, rfl, ht, hr⟩ := hrel
    have HT := Lib.hid ht
    obtain ⟨wq, rfl⟩ : ∃ wq : World, wq = wr := ⟨_, rfl⟩
    clear ht
    by_cases hlt : j < N
    · as_aux_lemma =>
      obtain ⟨g, cur, rfl, hg, hh, hsz⟩ : ∃ g cur, pu = some ⟨g, 0, none⟩ ∧ w0.heap.size ≤ g ∧ wq.heap[g]? = some (.cells cur 63 (0, 0)) ∧ N * 3 ≤ cur.size := hr.resolve_left (by omega)
      obtain ⟨⟨u0, d0⟩, ⟨u1, d1⟩, ⟨u2, d2⟩, fz⟩ := rowS_cells hh hsz hlt
      have k0 := fz (j * 3)
      have k1 := fz (j * 3 + 1)
      have k2 := fz (j * 3 + 2)
      have hY : Y2 g := HSB.out g rfl
      have HT' := Lib.hid (((HT.out.set g (j * 3) (.int .i64 1) hY hg).set g (j * 3 + 1) (.int .i64 3) hY hg).set g (j * 3 + 2) (.int .i64 0) hY hg)
      have HR' := Lib.hid (rowS_next (w0 := w0) (j := j * 3) hh hsz hg (.int .i64 1) (.int .i64 3) (.int .i64 0))
      have hwn := wrapNext HNM.out hlt
      clear fz hh hsz hg hY
      go_wp2_with fail
      go_roundw
      case rel => exact ⟨j + 1, by omega, congrArg _ hwn, HT'.out, HR'.out⟩
      case measure => rw [hwn]; exact nextLess hlt
    · as_aux_lemma =>
      obtain rfl : j = N := by omega
      go_wp2_with fail
      go_ret
      exact ⟨rfl, HT.out.unbox⟩
end
end Go.Proofs.Ytblhbkhehddccaa
