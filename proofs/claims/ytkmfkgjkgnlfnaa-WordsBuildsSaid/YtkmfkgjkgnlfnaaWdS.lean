/- The document's own Find, Any over its rows. Conditions: those that each theorem names. -/
import Derived.Test.YtkmfkgjkgnlfnaaWdR
namespace Go.Proofs.Ytkmfkgjkgnlfnaa
set_option linter.unusedVariables false
namespace Wd
open Go Go.RowKit Go.Shelf Go.Sort Go.Maps Pq Pq.Pl Rk Ids
theorem setL_snoc (A : List Int) (n : Int) : setL (A ++ [n]) = put n (setL A) := by simp [setL, putAll]
theorem findL_next {R : List (Rw Val)} {k : Nat} (hk : k < R.length) (v : Val) : findL (R.take (k + 1)) v = if (R[k]).2 = some v then put (R[k]).1 (findL (R.take k) v) else findL (R.take k) v := by
  unfold findL
  rw [List.take_add_one, List.getElem?_eq_getElem hk]
  show setL (((R.take k ++ [R[k]]).filter _).map _) = _
  rw [List.filter_append, List.map_append]
  by_cases h : (R[k]).2 = some v
  · rw [if_pos h]; simp [h, setL_snoc]
  · rw [if_neg h]; simp [h]
theorem anyL_next {R : List (Rw Val)} {k : Nat} (hk : k < R.length) : anyL (R.take (k + 1)) = if (R[k]).2.isSome = true then put (R[k]).1 (anyL (R.take k)) else anyL (R.take k) := by
  unfold anyL
  rw [List.take_add_one, List.getElem?_eq_getElem hk]
  show setL (((R.take k ++ [R[k]]).filter _).map _) = _
  rw [List.filter_append, List.map_append]
  by_cases h : (R[k]).2.isSome = true
  · rw [if_pos h]; simp [h, setL_snoc]
  · rw [if_neg h]; simp [h]
theorem findL_len (R : List (Rw Val)) (v : Val) (k : Nat) : (findL (R.take k) v).length ≤ k := by
  unfold findL
  refine Nat.le_trans (setL_length _) ?_
  rw [List.length_map]
  exact Nat.le_trans (List.length_filter_le _ _) (by simp; omega)
theorem anyL_len (R : List (Rw Val)) (k : Nat) : (anyL (R.take k)).length ≤ k := by
  unfold anyL
  refine Nat.le_trans (setL_length _) ?_
  rw [List.length_map]
  exact Nat.le_trans (List.length_filter_le _ _) (by simp; omega)
/-- A row of the document's rows: its cells. -/
theorem row_at {w : World} {v : Value} {R : List (Rw Val)} (h : RowAt encR 5 w v R) (h0 : 0 < R.length) : ∃ g off c, v = .slice (some ⟨g, off, none⟩) R.length c ∧ g < w.heap.size ∧ ∀ W : World, W.heap[g]? = w.heap[g]? → ∀ k (hk : k < R.length),
    W.cell? ⟨g, off + k * 5, none⟩ = some (.int .i64 (R[k]).1) ∧ W.cell? ⟨g, off + k * 5 + 1, none⟩ = some (.int .i64 (valO (R[k]).2).kind) ∧ W.cell? ⟨g, off + k * 5 + 2, none⟩ = some (.int .i64 (valO (R[k]).2).n) ∧ W.cell? ⟨g, off + k * 5 + 3, none⟩ = some (.string (valO (R[k]).2).text) ∧
      W.cell? ⟨g, off + k * 5 + 4, none⟩ = some (.bool (R[k]).2.isSome) := by
  rcases h with ⟨rfl, _⟩ | ⟨g, off, c, rfl, hg, hc⟩
  · simp at h0
  · exact ⟨g, off, c, rfl, hg, fun W hW k hk => ⟨hc W hW k hk 0 _ rfl, hc W hW k hk 1 _ rfl, hc W hW k hk 2 _ rfl, hc W hW k hk 3 _ rfl, hc W hW k hk 4 _ rfl⟩⟩
set_option maxHeartbeats 4000000 in
set_option maxRecDepth 100000 in
theorem rany_any (R : List (Rw Val)) (v : Value) (w : World) (h : RowAt encR 5 w v R) (hl : R.length * 48 ≤ 140737488355328) :
    Calls Try.prog 14 #[v] w fun e w' => ∃ u, e = .returned u ∧ Go.Proofs.Ytkmfkgjkgnlfnaa.Own w' w.heap.size u (anyL R) ∧ Below w.heap.size w w' := by
  have HL := Lib.hid hl
  have HS : Hid (R.length ≤ maxLen) := Lib.hid (by unfold maxLen; omega)
  have HP := Lib.hid h
  obtain ⟨p, c, rfl⟩ := h.form
  clear hl h
  go_enter Try.func14, Try.ntmps14
  go_wp2_with fail
  go_loopw [3, 4] (fun o i wr => ∃ k : Nat, k ≤ R.length ∧ i = .int .i64 k ∧ Go.Proofs.Ytkmfkgjkgnlfnaa.Own wr w.heap.size o (anyL (R.take k)) ∧ Below w.heap.size w wr) (fun _ i _ => R.length - (RowKit.intOf i).toNat)
  case atStart => exact ⟨0, Nat.zero_le _, rfl, own_nil _ _, Below.refl _ _⟩
  case round =>
    obtain ⟨k, hk, rfl, ho, hb⟩ := hrel
    have HO := Lib.hid ho
    have HB := Lib.hid hb
    by_cases hlt : k < R.length
    · obtain ⟨g, off, c', ev, hg, hc⟩ := row_at HP.out (by omega)
      injection ev with ev1 ev2 ev3
      subst ev1
      obtain ⟨c0, c1, c2, c3, c4⟩ := hc wr (hb.block g hg) k hlt
      have HN := Lib.hid (anyL_next hlt)
      have HLEN := Lib.hid (anyL_len R k)
      clear ho hb hc ev2 ev3 hg c1 c2 c3
      have hklt : (k : Int) < (R.length : Int) := by omega
      generalize hx : R[k] = x at *
      obtain ⟨xi, xo⟩ := x
      simp only at c0 c4 HN
      clear hx
      cases xo with
      | none =>
        simp only [Option.isSome] at c4 HN
        go_wp2_with fail
        go_roundw
        case rel => exact ⟨k + 1, by omega, congrArg _ (wrap_s HS.out hlt), by rw [HN.out]; exact HO.out, HB.out⟩
        case measure =>
          rw [wrap_s HS.out hlt]
          exact int_lessV hlt
      | some x =>
        simp only [Option.isSome] at c4 HN
        have HPT := Lib.hid (put_any (anyL (R.take k)) _ xi w.heap.size wr HO.out (by have := HLEN.out; have := HL.out; omega) (ris_anyL _) HB.out.size)
        go_wp2_with fail
        refine HPT.out.mono ?_
        rintro e w2 ⟨u, rfl, h1, h2⟩
        have H1 := Lib.hid h1
        have H2 := Lib.hid (HB.out.trans h2)
        clear h1 h2
        go_wp2_with fail
        go_roundw
        case rel => exact ⟨k + 1, by omega, congrArg _ (wrap_s HS.out hlt), by rw [HN.out]; exact H1.out, H2.out⟩
        case measure =>
          rw [wrap_s HS.out hlt]
          exact int_lessV hlt
    · obtain rfl : k = R.length := by omega
      clear ho hb
      go_wp2_with fail
      go_ret
      have := HO.out
      rw [List.take_length] at this
      exact ⟨_, rfl, this, HB.out⟩
set_option maxHeartbeats 4000000 in
set_option maxRecDepth 100000 in
theorem rfind_any (R : List (Rw Val)) (u0 : Value) (v : Val) (w : World) (h : RowAt encR 5 w u0 R) (hl : R.length * 48 ≤ 140737488355328) :
    Calls Try.prog 12 #[u0, vv v] w fun e w' => ∃ u, e = .returned u ∧ Go.Proofs.Ytkmfkgjkgnlfnaa.Own w' w.heap.size u (findL R v) ∧ Below w.heap.size w w' := by
  have HL := Lib.hid hl
  have HS : Hid (R.length ≤ maxLen) := Lib.hid (by unfold maxLen; omega)
  have HP := Lib.hid h
  obtain ⟨p, c, rfl⟩ := h.form
  have HB0 := Lib.hid (Rk.fresh_alloc w (vobj v))
  have HV : Hid (∀ W : World, Below (w.heap.size + 1) (w.alloc (vobj v)) W → W.cell? ⟨w.heap.size, 0, none⟩ = some (.int .i64 v.kind) ∧ W.cell? ⟨w.heap.size, 1, none⟩ = some (.int .i64 v.n) ∧ W.cell? ⟨w.heap.size, 2, none⟩ = some (.string v.text)) := Lib.hid (fun W hW => cells3_of ((hW.block w.heap.size (by omega)).trans (Pq.heap_last w (vobj v))))
  have HSZ : Hid ((w.alloc (vobj v)).heap.size = w.heap.size + 1) := Lib.hid (by simp)
  clear hl h
  go_enter Try.func12, Try.ntmps12
  go_wp2_with fail
  generalize w.alloc (vobj v) = W0 at *
  go_loopw [5, 6] (fun o i wr => ∃ k : Nat, k ≤ R.length ∧ i = .int .i64 k ∧ Go.Proofs.Ytkmfkgjkgnlfnaa.Own wr (w.heap.size + 1) o (findL (R.take k) v) ∧ Below (w.heap.size + 1) W0 wr) (fun _ i _ => R.length - (RowKit.intOf i).toNat)
  case atStart => exact ⟨0, Nat.zero_le _, rfl, own_nil _ _, Below.refl _ _⟩
  case round =>
    obtain ⟨k, hk, rfl, ho, hb⟩ := hrel
    have HO := Lib.hid ho
    have HB := Lib.hid hb
    by_cases hlt : k < R.length
    · obtain ⟨g, off, c', ev, hg, hc⟩ := row_at HP.out (by omega)
      injection ev with ev1 ev2 ev3
      subst ev1
      have HC : Hid (∀ W : World, Below (w.heap.size + 1) W0 W → _) := Lib.hid (fun W hW => hc W ((hW.block g (by omega)).trans (HB0.out.block g hg)) k hlt)
      have HN := Lib.hid (findL_next hlt v)
      have HLEN := Lib.hid (findL_len R v k)
      clear ho hc ev2 ev3 hg
      have hklt : (k : Int) < (R.length : Int) := by omega
      generalize hx : R[k] = x at *
      obtain ⟨xi, xo⟩ := x
      simp only at HC HN
      clear hx
      cases xo with
      | none =>
        obtain ⟨c0, c1, c2, c3, c4⟩ := HC.out wr hb
        simp only [Option.isSome] at c4 HN
        clear hb
        go_wp2_with fail
        go_region
        go_wp2_with fail
        go_roundw
        case rel => exact ⟨k + 1, by omega, congrArg _ (wrap_s HS.out hlt), by rw [HN.out]; exact Go.Proofs.Ytkmfkgjkgnlfnaa.own_below HO.out (Below.refl _ _).drew, HB.out.drew⟩
        case measure =>
          rw [wrap_s HS.out hlt]
          exact int_lessV hlt
      | some x =>
        simp only [Option.isSome, valO] at HC HN
        have hbd := hb.drew
        obtain ⟨c0, c1, c2, c3, c4⟩ := HC.out _ hbd
        obtain ⟨d0, d1, d2⟩ := HV.out _ hbd
        have HCM := Lib.hid (rcompare_any x.kind x.n v.kind v.n x.text v.text wr.drew)
        have HSW : Hid (w.heap.size + 1 ≤ wr.heap.size) := Lib.hid (by have := hb.size; have := HSZ.out; omega)
        obtain ⟨xk, xn, xt⟩ := x
        obtain ⟨vk, vn, vt⟩ := v
        simp only at c1 c2 c3 d0 d1 d2 HCM
        have hS : wr.drew.cell? ⟨g, off + k * 5 + 1, none⟩ = some (.int .i64 xk) ∧ wr.drew.cell? ⟨g, off + k * 5 + 2, none⟩ = some (.int .i64 xn) ∧ wr.drew.cell? ⟨g, off + k * 5 + 3, none⟩ = some (.string xt) ∧ wr.drew.cell? ⟨g, off + k * 5 + 4, none⟩ = some (.bool true) ∧
          wr.drew.cell? ⟨w.heap.size, 0, none⟩ = some (.int .i64 vk) ∧ wr.drew.cell? ⟨w.heap.size, 1, none⟩ = some (.int .i64 vn) ∧ wr.drew.cell? ⟨w.heap.size, 2, none⟩ = some (.string vt) ∧ Below (w.heap.size + 1) W0 wr.drew := ⟨c1, c2, c3, c4, d0, d1, d2, hbd⟩
        have HK := Lib.hid (fun (w3 : World) (b3 : Below wr.drew.heap.size wr.drew w3) =>
          show w3.cell? ⟨g, off + k * 5 + 1, none⟩ = some (.int .i64 xk) ∧ w3.cell? ⟨g, off + k * 5 + 2, none⟩ = some (.int .i64 xn) ∧ w3.cell? ⟨g, off + k * 5 + 3, none⟩ = some (.string xt) ∧ w3.cell? ⟨g, off + k * 5 + 4, none⟩ = some (.bool true) ∧
            w3.cell? ⟨w.heap.size, 0, none⟩ = some (.int .i64 vk) ∧ w3.cell? ⟨w.heap.size, 1, none⟩ = some (.int .i64 vn) ∧ w3.cell? ⟨w.heap.size, 2, none⟩ = some (.string vt) ∧ Below (w.heap.size + 1) W0 w3 from by
          have b4 : Below (w.heap.size + 1) W0 w3 := hbd.trans (b3.mono HSW.out)
          obtain ⟨_, e1, e2, e3, e4⟩ := HC.out _ b4
          obtain ⟨f0, f1, f2⟩ := HV.out _ b4
          exact ⟨e1, e2, e3, e4, f0, f1, f2, b4⟩)
        clear c0 c1 c2 c3 c4 d0 d1 d2 hbd hb
        by_cases hxv : (⟨xk, xn, xt⟩ : Val) = ⟨vk, vn, vt⟩
        · rw [(cmp_zero _ _).2 hxv] at HCM
          rw [if_pos (by rw [hxv])] at HN
          clear hxv
          go_wp2_with fail
          go_region_held3 (fun x => x.cell? ⟨g, off + k * 5 + 1, none⟩ = some (.int .i64 xk) ∧ x.cell? ⟨g, off + k * 5 + 2, none⟩ = some (.int .i64 xn) ∧ x.cell? ⟨g, off + k * 5 + 3, none⟩ = some (.string xt) ∧ x.cell? ⟨g, off + k * 5 + 4, none⟩ = some (.bool true) ∧
              x.cell? ⟨w.heap.size, 0, none⟩ = some (.int .i64 vk) ∧ x.cell? ⟨w.heap.size, 1, none⟩ = some (.int .i64 vn) ∧ x.cell? ⟨w.heap.size, 2, none⟩ = some (.string vt) ∧ Below (w.heap.size + 1) W0 x)
            (first | assumption | exact HK.out _ hb3)
            (first | (go_at_call 20; refine HCM.out.mono ?_; rintro e w3 ⟨rfl, hb3⟩))
          have b4 := (HK.out w3 hb3).2.2.2.2.2.2.2
          have c0 := (HC.out w3 b4).1
          have HPT := Lib.hid (put_any (findL (R.take k) ⟨vk, vn, vt⟩) _ xi (w.heap.size + 1) w3 (Go.Proofs.Ytkmfkgjkgnlfnaa.own_below HO.out ((Below.refl _ wr).drew.trans hb3)) (by have := HLEN.out; have := HL.out; omega) (ris_findL _ _) (by have := hb3.size; have := HSW.out; have e : wr.drew.heap.size = wr.heap.size := rfl; omega))
          have HB4 := Lib.hid b4
          clear hb3 b4 hS
          go_wp2_with fail
          refine HPT.out.mono ?_
          rintro e w5 ⟨u, rfl, h1, h2⟩
          have H1 := Lib.hid h1
          have H2 := Lib.hid (HB4.out.trans h2)
          clear h1 h2
          go_wp2_with fail
          go_roundw
          case rel => exact ⟨k + 1, by omega, congrArg _ (wrap_s HS.out hlt), by rw [HN.out]; exact H1.out, H2.out⟩
          case measure =>
            rw [wrap_s HS.out hlt]
            exact int_lessV hlt
        · have hne : ((cmpV ⟨xk, xn, xt⟩ ⟨vk, vn, vt⟩) == 0) = false := by
            have := fun e => hxv ((cmp_zero _ _).1 e)
            simpa using this
          rw [if_neg (fun e => hxv (Option.some.inj e))] at HN
          generalize cmpV ⟨xk, xn, xt⟩ ⟨vk, vn, vt⟩ = cv at *
          clear hxv
          go_wp2_with fail
          go_region_held3 (fun x => x.cell? ⟨g, off + k * 5 + 1, none⟩ = some (.int .i64 xk) ∧ x.cell? ⟨g, off + k * 5 + 2, none⟩ = some (.int .i64 xn) ∧ x.cell? ⟨g, off + k * 5 + 3, none⟩ = some (.string xt) ∧ x.cell? ⟨g, off + k * 5 + 4, none⟩ = some (.bool true) ∧
              x.cell? ⟨w.heap.size, 0, none⟩ = some (.int .i64 vk) ∧ x.cell? ⟨w.heap.size, 1, none⟩ = some (.int .i64 vn) ∧ x.cell? ⟨w.heap.size, 2, none⟩ = some (.string vt) ∧ Below (w.heap.size + 1) W0 x)
            (first | assumption | exact HK.out _ hb3)
            (first | (go_at_call 20; refine HCM.out.mono ?_; rintro e w3 ⟨rfl, hb3⟩))
          have HB4 := Lib.hid (HK.out w3 hb3).2.2.2.2.2.2.2
          have HO4 := Lib.hid (Go.Proofs.Ytkmfkgjkgnlfnaa.own_below HO.out ((Below.refl _ wr).drew.trans hb3))
          clear hb3 hS
          go_wp2_with fail
          go_roundw
          case rel => exact ⟨k + 1, by omega, congrArg _ (wrap_s HS.out hlt), by rw [HN.out]; exact HO4.out, HB4.out⟩
          case measure =>
            rw [wrap_s HS.out hlt]
            exact int_lessV hlt
    · obtain rfl : k = R.length := by omega
      clear ho hb
      go_wp2_with fail
      go_ret
      have := HO.out
      rw [List.take_length] at this
      exact ⟨_, rfl, own_base this (Nat.le_succ _), HB0.out.trans (HB.out.mono (Nat.le_succ _))⟩
end Wd
end Go.Proofs.Ytkmfkgjkgnlfnaa
