/- The document's Insert, Sort, Add; the law's unlike. Conditions: those that each theorem names. -/
import Derived.Test.YtbgminlajcmomabTkB
import Derived.Laws.OwnMore
import Derived.Shelf.SlSortCmp.QuietGrown
import Derived.BigRegion
namespace Go.Proofs.Ytbgminlajcmomab
set_option linter.unusedVariables false
open Go Go.RowKit Go.Shelf Go.Sort Tk
theorem HsAt.at {w : World} {v : Value} {L : List Ht} (h : HsAt w v L) {k : Nat} (hk : k < L.length) :
    ∃ g off c, v = .slice (some ⟨g, off, none⟩) L.length c ∧ g < w.heap.size ∧ ∀ W : World, W.heap[g]? = w.heap[g]? → W.cell? ⟨g, off + k * 2, none⟩ = some (.int .i64 (L[k]).1) ∧ W.cell? ⟨g, off + k * 2 + 1, none⟩ = some (.int .i64 (L[k]).2) := by
  rcases h with ⟨rfl, _⟩ | ⟨g, off, c, rfl, hg, hc⟩
  · simp at hk
  · exact ⟨g, off, c, rfl, hg, fun W hW => hc W hW k hk⟩
theorem push_hit {W : World} {base : Nat} {v : Value} {A : List Ht} (x : Ht) (ho : OwnH W base v A) (hb : (A.length + 1) * 16 ≤ 140737488355328) (hbase : base ≤ W.heap.size) :
    ∃ v' W', (∀ ty, (Builtin.append_ #[25, 25] ty #[v, .slice (some ⟨W.heap.size, 0, none⟩) 1 1]).run Try.prog (W.alloc (hobj x)) = .ok v' W') ∧ OwnH W' base v' (A ++ [x]) ∧ Below base W W' ∧ ∃ p c, v' = .slice p (A.length + 1) c := by
  obtain ⟨v', w', hr, ho', hg, _⟩ := append_hit (w := W.alloc (hobj x)) (g := W.heap.size) (x := x) (ho.alloc _) (heap_last W _) hb (by simp; omega)
  refine ⟨v', w', hr, ho', ?_, ?_⟩
  · refine (fresh_alloc W (hobj x) |>.mono hbase).grown hg (by simp; omega) fun k hk => (ho.lt k hk).1
  · have hl : (A ++ [x]).length = A.length + 1 := by simp
    rcases ho'.2 with ⟨_, h0⟩ | ⟨g, cap, cur, rfl, _⟩
    · omega
    · exact ⟨_, cap, by rw [hl]⟩
/-- How far an insertion has come. -/
def InsP (m : Int) (h : Ht) (L : List Ht) (k : Nat) (p : Bool) (o : List Ht) : Prop :=
  (p = false ∧ o = L.take k ∧ insR m h L = L.take k ++ insR m h (L.drop k)) ∨ (p = true ∧ insR m h L = o ++ L.drop k ∧ o.length = k + 1)
theorem InsP.start (m : Int) (h : Ht) (L : List Ht) : InsP m h L 0 false [] := .inl ⟨rfl, rfl, rfl⟩
theorem InsP.len {m : Int} {h : Ht} {L : List Ht} {k : Nat} {p : Bool} {o : List Ht} (H : InsP m h L k p o) (hk : k ≤ L.length) : o.length ≤ k + 1 := by
  rcases H with ⟨_, rfl, _⟩ | ⟨_, _, h⟩
  · rw [List.length_take]; omega
  · omega
theorem InsP.keep {m : Int} {h : Ht} {L : List Ht} {k : Nat} {o : List Ht} {x : Ht} (H : InsP m h L k true o) (hx : L[k]? = some x) : InsP m h L (k + 1) true (o ++ [x]) := by
  rcases H with ⟨h0, _⟩ | ⟨_, h1, h2⟩
  · cases h0
  · refine .inr ⟨rfl, ?_, by simp [h2]⟩
    obtain ⟨hk, e⟩ := List.getElem?_eq_some_iff.1 hx
    rw [h1, List.drop_eq_getElem_cons hk, e, List.append_assoc]; rfl
theorem InsP.put {m : Int} {h : Ht} {L : List Ht} {k : Nat} {o : List Ht} {x : Ht} (H : InsP m h L k false o) (hx : L[k]? = some x) (hl : ltH m h x = true) : InsP m h L (k + 1) true (o ++ [h] ++ [x]) := by
  rcases H with ⟨_, rfl, h1⟩ | ⟨h0, _⟩
  · obtain ⟨hk, e⟩ := List.getElem?_eq_some_iff.1 hx
    refine .inr ⟨rfl, ?_, by simp; omega⟩
    rw [h1, List.drop_eq_getElem_cons hk, e, insR, if_pos hl]; simp
  · cases h0
theorem InsP.pass {m : Int} {h : Ht} {L : List Ht} {k : Nat} {o : List Ht} {x : Ht} (H : InsP m h L k false o) (hx : L[k]? = some x) (hl : ltH m h x = false) : InsP m h L (k + 1) false (o ++ [x]) := by
  rcases H with ⟨_, rfl, h1⟩ | ⟨h0, _⟩
  · obtain ⟨hk, e⟩ := List.getElem?_eq_some_iff.1 hx
    have et : L.take (k + 1) = L.take k ++ [x] := by rw [List.take_add_one, hx]; rfl
    refine .inl ⟨rfl, et.symm, ?_⟩
    rw [h1, List.drop_eq_getElem_cons hk, e, insR, if_neg (by rw [hl]; simp), et]; simp
  · cases h0
theorem InsP.done {m : Int} {h : Ht} {L : List Ht} {p : Bool} {o : List Ht} (H : InsP m h L L.length p o) : insR m h L = if p = true then o else o ++ [h] := by
  rcases H with ⟨rfl, rfl, h1⟩ | ⟨rfl, h1, _⟩
  · rw [h1]; simp [insR]
  · rw [h1]; simp
set_option maxHeartbeats 4000000 in
set_option maxRecDepth 100000 in
theorem insert_any (m : Int) (h : Ht) (L : List Ht) (v : Value) (w : World) (hL : HsAt w v L) (hl : (L.length + 1) * 16 ≤ 140737488355328) :
    Calls Try.prog 27 #[.int .i64 m, v, hv h] w fun e w' => ∃ u, e = .returned u ∧ OwnH w' w.heap.size u (insR m h L) ∧ Below w.heap.size w w' := by
  have mixed : Try.prog.follows .mixedOrders = true := by kernel_rfl
  have HB0 := Lib.hid (fresh_alloc w (hobj h))
  obtain ⟨c0, c1⟩ := two_cells (heap_last w (hobj h))
  have HLA := Lib.hid (hL.below HB0.out)
  have HC0 := Lib.hid c0
  have HC1 := Lib.hid c1
  have hsz : (w.alloc (hobj h)).heap.size = w.heap.size + 1 := by simp
  have HSZ := Lib.hid hsz
  have HN := Lib.hid hl
  obtain ⟨pp, cc, rfl⟩ := hL.form
  clear hL hl c0 c1 hsz
  obtain ⟨hi, hs⟩ := h
  go_enter Try.func27, Try.ntmps27
  go_wp2_with fail
  generalize hW : w.alloc (hobj (hi, hs)) = W at *
  obtain ⟨dummy, hd⟩ : ∃ b : Bool, b = false := ⟨_, rfl⟩
  go_loopw [7, 8, 9] (fun u p i wr => ∃ (k : Nat) (q : Bool) (o : List Ht), k ≤ L.length ∧ i = .int .i64 k ∧ p = .bool q ∧ Hid (InsP m (hi, hs) L k q o) ∧ Hid (OwnH wr (w.heap.size + 1) u o) ∧ Hid (RowKit.Below (w.heap.size + 1) W wr)) (fun _ _ i _ => L.length - (intOf i).toNat)
  case atStart => exact ⟨0, false, [], Nat.zero_le _, rfl, rfl, InsP.start _ _ _, World.ownsRow_nil _ _ _ _, Below.refl _ _⟩
  case round =>
    obtain ⟨k, q, o, hk, rfl, rfl, HP, HO, HB⟩ := hrel
    have hol := HP.out.len hk
    have hm : L.length ≤ maxLen := by have := HN.out; unfold maxLen; omega
    have HM := Lib.hid hm
    have hWs : w.heap.size + 1 ≤ wr.heap.size := by have := HB.out.size; have := HSZ.out; omega
    have b0 := (HB.out.cell (p := ⟨w.heap.size, 0, none⟩) (Nat.lt_succ_self _)).trans HC0.out
    have b1 := (HB.out.cell (p := ⟨w.heap.size, 1, none⟩) (Nat.lt_succ_self _)).trans HC1.out
    by_cases hlt : k < L.length
    · obtain ⟨g, off, c, e, hg, hc⟩ := HLA.out.at hlt
      injection e with e1 _ e3
      subst e1
      subst e3
      rw [HSZ.out] at hg
      have hx : L[k]? = some L[k] := List.getElem?_eq_getElem hlt
      have HX := Lib.hid hx
      have hcell := fun (W' : World) (hW' : RowKit.Below (w.heap.size + 1) W W') => hc W' (hW'.block g hg)
      have HCL := Lib.hid hcell
      clear hcell hc hx
      generalize L[k] = x at *
      obtain ⟨xi, xs⟩ := x
      cases q with
      | true =>
        obtain ⟨a0, a1⟩ := HCL.out wr HB.out
        obtain ⟨v', W', hr, ho', hb', -⟩ := push_hit (W := wr.drew) (xi, xs) HO.out (by have := HN.out; omega) hWs
        have HB2 := Lib.hid (HB.out.drew.trans hb')
        have HO2 := Lib.hid ho'
        have HR := Lib.hid hr
        clear hr ho' hb' hm hol
        go_wp2_with fail
        go_region
        go_wp2_with (at_builtin; refine wpList_append_run rfl _ _ _ _ rfl _ _ v' W' rfl rfl (fun ty => HR.out ty) ?_)
        go_roundw
        case rel => exact ⟨k + 1, true, o ++ [(xi, xs)], by omega, congrArg _ (wrap_s HM.out hlt), rfl, HP.out.keep HX.out, HO2, HB2⟩
        case measure =>
          rw [wrap_s HM.out hlt]
          exact int_less hlt
      | false =>
        have hgn := fun (n : Nat) (os : Array Obj) => HB.out.trans ((Gn.below (w := wr) (w' := grow (wr.drewN n) os) ⟨n, os, rfl⟩).mono hWs)
        have f0 := fun n os => (HCL.out _ (hgn n os)).1
        have f1 := fun n os => (HCL.out _ (hgn n os)).2
        have d0 := fun n os => ((hgn n os).cell (p := ⟨w.heap.size, 0, none⟩) (Nat.lt_succ_self _)).trans HC0.out
        have d1 := fun n os => ((hgn n os).cell (p := ⟨w.heap.size, 1, none⟩) (Nat.lt_succ_self _)).trans HC1.out
        have HC := Lib.hid (fun W => rless_any m (hi, hs) (xi, xs) W)
        cases hb : ltH m (hi, hs) (xi, xs) with
        | true =>
          rw [hb] at HC
          have HBB := Lib.hid hb
          clear hb hgn b0 b1 hm hol
          go_wp2_with fail
          go_quiet_grown (first | (go_at_call 10; refine Calls.grown_of (HC.out _)))
          dsimp only
          have HG : Hid (Gn wr (grow (wr.drewN nq) osq)) := Lib.hid ⟨nq, osq, rfl⟩
          have c0 := d0 nq osq
          have c1 := d1 nq osq
          clear f0 f1 d0 d1
          generalize grow (wr.drewN nq) osq = w1 at *
          have hW1 : w.heap.size + 1 ≤ w1.heap.size := Nat.le_trans hWs HG.out.size
          have hBB : RowKit.Below (w.heap.size + 1) W w1 := HB.out.trans (HG.out.below.mono hWs)
          have ho1 : OwnH w1 (w.heap.size + 1) u7 o := by
            rcases HO.out with ⟨l0, l1 | ⟨g', cap', cur, e', hb', hg', r'⟩⟩
            · exact ⟨l0, .inl l1⟩
            · exact ⟨l0, .inr ⟨g', cap', cur, e', hb', by rw [HG.out.block (by
                rcases Nat.lt_or_ge g' wr.heap.size with z | z
                · exact z
                · rw [Array.getElem?_eq_none z] at hg'; cases hg')]; exact hg', r'⟩⟩
          obtain ⟨v', W', hr, ho', hb', p1, q1, rfl⟩ := push_hit (W := w1) (hi, hs) ho1 (by have := HN.out; have := HP.out.len hk; omega) hW1
          have hW2 : w.heap.size + 1 ≤ W'.heap.size := Nat.le_trans hW1 hb'.size
          have hB2 := hBB.trans hb'
          obtain ⟨a0, a1⟩ := HCL.out W' hB2
          obtain ⟨v2, W2, hr2, ho2, hb2, -⟩ := push_hit (W := W') (xi, xs) ho' (by
            have h1 := HN.out
            have h2 : o.length ≤ k := by
              rcases HP.out with ⟨_, rfl, _⟩ | ⟨h0, _⟩
              · rw [List.length_take]; omega
              · cases h0
            simp only [List.length_append, List.length_singleton]; omega) hW2
          have HB3 := Lib.hid (hB2.trans hb2)
          have HO3 := Lib.hid ho2
          have HR := Lib.hid hr
          have HR2 := Lib.hid hr2
          clear hr ho' hb' hr2 ho2 hb2 hB2 hBB ho1 hW1 hW2
          go_wp2_with (at_builtin; first | (refine wpList_append_run rfl _ _ _ _ rfl _ _ (.slice p1 (o.length + 1) q1) W' rfl rfl (fun ty => HR.out ty) ?_) | (refine wpList_append_run rfl _ _ _ _ rfl _ _ v2 W2 rfl rfl (fun ty => HR2.out ty) ?_))
          go_roundw
          case rel => exact ⟨k + 1, true, o ++ [(hi, hs)] ++ [(xi, xs)], by omega, congrArg _ (wrap_s HM.out hlt), rfl, HP.out.put HX.out HBB.out, HO3, HB3⟩
          case measure =>
            rw [wrap_s HM.out hlt]
            exact int_less hlt
        | false =>
          rw [hb] at HC
          have HBB := Lib.hid hb
          clear hb hgn b0 b1 hm hol
          go_wp2_with fail
          go_quiet_grown (first | (go_at_call 10; refine Calls.grown_of (HC.out _)))
          dsimp only
          have HG : Hid (Gn wr (grow (wr.drewN nq) osq)) := Lib.hid ⟨nq, osq, rfl⟩
          clear f0 f1 d0 d1
          generalize grow (wr.drewN nq) osq = w1 at *
          have hW1 : w.heap.size + 1 ≤ w1.heap.size := Nat.le_trans hWs HG.out.size
          have hBB : RowKit.Below (w.heap.size + 1) W w1 := HB.out.trans (HG.out.below.mono hWs)
          have ho1 : OwnH w1 (w.heap.size + 1) u7 o := by
            rcases HO.out with ⟨l0, l1 | ⟨g', cap', cur, e', hb', hg', r'⟩⟩
            · exact ⟨l0, .inl l1⟩
            · exact ⟨l0, .inr ⟨g', cap', cur, e', hb', by rw [HG.out.block (by
                rcases Nat.lt_or_ge g' wr.heap.size with z | z
                · exact z
                · rw [Array.getElem?_eq_none z] at hg'; cases hg')]; exact hg', r'⟩⟩
          obtain ⟨a0, a1⟩ := HCL.out w1 hBB
          obtain ⟨v2, W2, hr2, ho2, hb2, -⟩ := push_hit (W := w1) (xi, xs) ho1 (by have := HN.out; have := HP.out.len hk; omega) hW1
          have HB3 := Lib.hid (hBB.trans hb2)
          have HO3 := Lib.hid ho2
          have HR2 := Lib.hid hr2
          clear hr2 ho2 hb2 hBB ho1 hW1
          go_wp2_with (at_builtin; refine wpList_append_run rfl _ _ _ _ rfl _ _ v2 W2 rfl rfl (fun ty => HR2.out ty) ?_)
          go_roundw
          case rel => exact ⟨k + 1, false, o ++ [(xi, xs)], by omega, congrArg _ (wrap_s HM.out hlt), rfl, HP.out.pass HX.out HBB.out, HO3, HB3⟩
          case measure =>
            rw [wrap_s HM.out hlt]
            exact int_less hlt
    · obtain rfl : k = L.length := by omega
      have hdone := HP.out.done
      cases q with
      | true =>
        have HD : Hid (insR m (hi, hs) L = o) := Lib.hid (by rw [hdone, if_pos rfl])
        clear hdone hol
        go_wp2_with fail
        go_ret
        exact ⟨_, rfl, by rw [HD.out]; exact Go.Joins.ownsRow_le HO.out (Nat.le_succ _), HB0.out.trans (HB.out.mono (Nat.le_succ _))⟩
      | false =>
        have HD : Hid (insR m (hi, hs) L = o ++ [(hi, hs)]) := Lib.hid (by rw [hdone, if_neg (by simp)])
        obtain ⟨v', W', hr, ho', hb', -⟩ := push_hit (W := wr) (hi, hs) HO.out (by
          have h1 := HN.out
          have h2 : o.length ≤ L.length := by
            rcases HP.out with ⟨_, rfl, _⟩ | ⟨h0, _⟩
            · rw [List.length_take]; omega
            · cases h0
          omega) hWs
        have HB2 := Lib.hid (HB.out.trans hb')
        have HO2 := Lib.hid ho'
        have HR := Lib.hid hr
        clear hdone hr ho' hb' hol
        go_wp2_with (at_builtin; refine wpList_append_run rfl _ _ _ _ rfl _ _ v' W' rfl rfl (fun ty => HR.out ty) ?_)
        go_ret
        exact ⟨_, rfl, by rw [HD.out]; exact Go.Joins.ownsRow_le HO2.out (Nat.le_succ _), HB0.out.trans (HB2.out.mono (Nat.le_succ _))⟩
end Go.Proofs.Ytbgminlajcmomab
