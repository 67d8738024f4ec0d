/- The document's own Values over its rows. Conditions: those that each theorem names. -/
import Derived.Test.YtkmfkgjkgnlfnaaWdS
import Derived.Test.YtkmfkgjkgnlfnaaWdH
import Derived.Test.YtkmfkgjkgnlfnaaRkC
namespace Go.Proofs.Ytkmfkgjkgnlfnaa
set_option linter.unusedVariables false
namespace Wd
open Go Go.RowKit Go.Shelf Go.Sort Go.Maps Pq Pq.Pl Rk Ids
theorem valsL_next {R : List (Rw Val)} {k : Nat} (hk : k < R.length) : valsL ltV (R.take (k + 1)) = match (R[k]).2 with | none => valsL ltV (R.take k) | some x => putV ltV x (valsL ltV (R.take k)) := by
  rw [List.take_add_one, List.getElem?_eq_getElem hk]
  show valsL ltV (List.take k R ++ [R[k]]) = _
  rw [valsL_snoc]
  cases (R[k]).2 <;> rfl
theorem valsL_len (R : List (Rw Val)) (k : Nat) : (valsL ltV (R.take k)).length ≤ k := by
  have := valsL_length ordV (R.take k)
  simp at this
  omega
/-- A value laid between the two parts of a row: the three appends. -/
theorem vals_put {W : World} {base n co : Nat} {po : Option Addr} {V : List Val} (h : OwnV W base (.slice po n co) V) (x : Val) (a : Nat) (ha : a ≤ V.length) (hb : (V.length + 1) * 32 ≤ 140737488355328) (hbase : base ≤ W.heap.size) :
    ∃ (p1 p2 : Option Addr) (n2 c1 c2 : Nat) (v1 v2 v3 : Value) (W1 W2 W3 : World), (∀ (K : IntKind) (X : World), (Instr.slice 43 (.slice po n co) none (some (.int K (a : Int))) none).run Try.prog X = .ok (.slice p1 a c1) X) ∧
      (∀ (K : IntKind) (X : World), (Instr.slice 43 (.slice po n co) (some (.int K (a : Int))) none none).run Try.prog X = .ok (.slice p2 n2 c2) X) ∧
      (∀ ty, (Builtin.append_ #[43, 43] ty #[.slice none 0 0, .slice p1 a c1]).run Try.prog W = .ok v1 W1) ∧
      (∀ ty, (Builtin.append_ #[43, 43] ty #[v1, .slice (some ⟨W1.heap.size, 0, none⟩) 1 1]).run Try.prog (W1.alloc (vobj x)) = .ok v2 W2) ∧
      (∀ ty, (Builtin.append_ #[43, 43] ty #[v2, .slice p2 n2 c2]).run Try.prog W2 = .ok v3 W3) ∧
      OwnV W3 base v3 (V.take a ++ x :: V.drop a) ∧ Below W.heap.size W W1 ∧ Below W.heap.size W W3 := by
  obtain ⟨p1, p2, n2, c1, c2, e1, e2, r1, r2⟩ := own_cuts flatV h a ha
  have hl1 : (V.take a).length ≤ V.length := by simp; omega
  have hl2 : (V.take a).length + (V.drop a).length = V.length := by simp; omega
  obtain ⟨v1, W1, a1, o1, g1, _, _⟩ := append_row flatV (own_none W W.heap.size) r1 (by simp only [List.length_nil]; omega) (by simp only [List.length_nil]; unfold maxLen; omega) (Nat.le_refl _)
  rw [List.nil_append] at o1
  have b1 : Below W.heap.size W W1 := (Below.refl _ _).grown g1 (Nat.le_refl _) (fun j hj => by cases hj)
  have o1' := Rk.own_below o1 (Rk.fresh_alloc W1 (vobj x))
  obtain ⟨v2, W2, a2, o2, g2, _, _⟩ := append_el flatV o1' (x := x) (m := (0, 0)) (Rk.heap_last W1 (vobj x)) (by omega) (by unfold maxLen; omega) (by have := b1.size; simp; omega)
  have b1' : Below W.heap.size W (W1.alloc (vobj x)) := b1.alloc b1.size _
  have b2 : Below W.heap.size W W2 := b1'.grown g2 b1'.size (fun j hj => (o1'.lt j hj).1)
  have hl3 : (V.take a ++ [x]).length = (V.take a).length + 1 := by simp
  obtain ⟨v3, W3, a3, o3, g3, _, _⟩ := append_row flatV o2 (r2.below b2) (by rw [hl3]; omega) (by rw [hl3]; unfold maxLen; omega) b2.size
  have b3 : Below W.heap.size W W3 := b2.grown g3 b2.size (fun j hj => (o2.lt j hj).1)
  refine ⟨p1, p2, n2, c1, c2, v1, v2, v3, W1, W2, W3, e1, e2, a1, a2, a3, own_le ?_ hbase, b1, b3⟩
  rw [List.append_assoc] at o3
  exact o3
/-- What of the rows' first k elements has been laid. -/
def VlW (w : World) (R : List (Rw Val)) (k : Nat) (o : Value) (wr : World) : Prop := OwnV wr w.heap.size o (valsL ltV (R.take k)) ∧ Below w.heap.size w wr
theorem cells3_ownV {w : World} {base : Nat} {v : Value} {L : List Val} (h : OwnV w base v L) (hn : 0 < L.length) : ∃ g cap, v = .slice (some ⟨g, 0, none⟩) L.length cap ∧ g < w.heap.size ∧ ∀ W : World, W.heap[g]? = w.heap[g]? → ∀ j (hj : j < L.length),
    W.cell? ⟨g, j * 3, none⟩ = some (.int .i64 (L[j]).kind) ∧ W.cell? ⟨g, j * 3 + 1, none⟩ = some (.int .i64 (L[j]).n) ∧ W.cell? ⟨g, j * 3 + 2, none⟩ = some (.string (L[j]).text) := by
  obtain ⟨g, cap, e, hb, hg⟩ := Rk.own_form h hn
  rcases own_row flatV h with ⟨rfl, _⟩ | ⟨g', off, c', e', hgl, hc⟩
  · simp at hn
  · rw [e] at e'
    injection e' with e1 _ e3
    injection e1 with e1
    injection e1 with e1 e2
    subst e1; subst e2
    refine ⟨g, cap, e, hg, fun W hW j hj => ?_⟩
    have h0 := hc W hW j hj 0 _ rfl
    have h1 := hc W hW j hj 1 _ rfl
    have h2 := hc W hW j hj 2 _ rfl
    rw [Nat.zero_add] at h0 h1 h2
    exact ⟨h0, h1, h2⟩
set_option maxHeartbeats 8000000 in
set_option maxRecDepth 100000 in
theorem rvalues_any (R : List (Rw Val)) (v : Value) (w : World) (h : RowAt encR 5 w v R) (hl : R.length * 48 ≤ 140737488355328) :
    Calls Try.prog 17 #[v] w fun e w' => ∃ u, e = .returned u ∧ OwnV w' w.heap.size u (valsL ltV R) ∧ Below w.heap.size w w' := by
  have HL := Lib.hid hl
  have HS : Hid (R.length ≤ maxLen) := Lib.hid (by unfold maxLen; omega)
  have HP := Lib.hid h
  obtain ⟨p, c, rfl⟩ := h.form
  clear hl h
  go_enter Try.func17, Try.ntmps17
  go_wp2_with fail
  go_loopw [3, 4] (fun o i wr => ∃ k : Nat, k ≤ R.length ∧ i = .int .i64 k ∧ VlW w R k o wr) (fun _ i _ => R.length - (RowKit.intOf i).toNat)
  case atStart => exact ⟨0, Nat.zero_le _, rfl, own_none _ _, Below.refl _ _⟩
  case round =>
    obtain ⟨k, hk, rfl, hr⟩ := hrel
    by_cases hlt : k < R.length
    · obtain ⟨wo, rfl⟩ : ∃ wo : World, wo = wr := ⟨_, rfl⟩
      obtain ⟨ho, hb⟩ := hr
      obtain ⟨g, off, c', ev, hg, hc⟩ := row_at HP.out (by omega)
      injection ev with ev1 ev2 ev3
      subst ev1
      have HC : Hid (∀ W : World, Below w.heap.size w W → _) := Lib.hid (fun W hW => hc W (hW.block g hg) k hlt)
      have HN := Lib.hid (valsL_next hlt)
      have HLEN := Lib.hid (valsL_len R k)
      obtain ⟨po, co, rfl⟩ := (own_row flatV ho).form
      have HO := Lib.hid ho
      have HB := Lib.hid hb
      clear ho hc ev2 ev3 hg
      have hklt : (k : Int) < (R.length : Int) := by omega
      generalize hx : R[k] = x at *
      obtain ⟨xi, xo⟩ := x
      generalize hVV : valsL ltV (R.take k) = V at *
      simp only at HC HN
      clear hx hVV
      cases xo with
      | none =>
        obtain ⟨c0, c1, c2, c3, c4⟩ := HC.out wo hb
        simp only [Option.isSome] at c4 HN
        clear hb c0 c1 c2 c3
        go_wp2_with fail
        go_roundw
        case rel => exact ⟨k + 1, by omega, congrArg _ (wrap_s HS.out hlt), by rw [HN.out]; exact HO.out, HB.out⟩
        case measure =>
          rw [wrap_s HS.out hlt]
          exact int_lessV hlt
      | some x =>
        simp only [Option.isSome, valO] at HC HN
        obtain ⟨c0, c1, c2, c3, c4⟩ := HC.out wo hb
        have HVM : Hid (V.length ≤ maxLen) := Lib.hid (by have := HLEN.out; have := HS.out; omega)
        clear hb c0 c1 c2 c3
        go_wp2_with fail
        go_loopw [5] (fun a wr => ∃ a' : Nat, a' ≤ V.length ∧ a = .int .i64 a' ∧ Hid (∀ j (h : j < V.length), j < a' → ltV V[j] x = true) ∧ Below wo.heap.size wo wr) (fun a _ => V.length - (RowKit.intOf a).toNat)
        case atStart => exact ⟨0, Nat.zero_le _, rfl, Lib.hid (fun j _ h => absurd h (Nat.not_lt_zero _)), Below.refl _ _⟩
        case round =>
          obtain ⟨a, ha, rfl, HNO, hbw⟩ := hrel
          have HBW := Lib.hid hbw
          by_cases hla : a < V.length
          · obtain ⟨g1, cap, epo, hg1, hv⟩ := cells3_ownV HO.out (by omega)
            injection epo with ep1 ep2 ep3
            subst ep1
            have HSF0 := Lib.hid (fun (W : World) (hW : Below wo.heap.size wo W) => And.intro (hv W (hW.block g1 hg1) a hla) (HC.out W (HB.out.trans (hW.mono HB.out.size))))
            have hnx := HNO.out
            have hput := putV_at ordV x V a (Nat.le_of_lt hla) hnx
            have hal : (a : Int) < (V.length : Int) := by omega
            generalize hy : V[a] = y at *
            have HY := Lib.hid hy
            have HCM := Lib.hid (fun W => rcompare_any y.kind y.n x.kind x.n y.text x.text W)
            have HXY : Hid ((cmpV y x < 0 ↔ ltV y x = true) ∧ (cmpV y x = 0 ↔ y = x)) := Lib.hid ⟨by unfold ltV; simp, cmp_zero y x⟩
            have HPT := Lib.hid hput
            obtain ⟨yk, yn, yt⟩ := y
            obtain ⟨xk, xn, xt⟩ := x
            simp only at HSF0 HCM
            have HSF : Hid (∀ W : World, Below wo.heap.size wo W → W.cell? ⟨g1, a * 3, none⟩ = some (.int .i64 yk) ∧ W.cell? ⟨g1, a * 3 + 1, none⟩ = some (.int .i64 yn) ∧ W.cell? ⟨g1, a * 3 + 2, none⟩ = some (.string yt) ∧ W.cell? ⟨g, off + k * 5 + 1, none⟩ = some (.int .i64 xk) ∧ W.cell? ⟨g, off + k * 5 + 2, none⟩ = some (.int .i64 xn) ∧ W.cell? ⟨g, off + k * 5 + 3, none⟩ = some (.string xt) ∧ Below wo.heap.size wo W) := Lib.hid (fun W hW => by
              obtain ⟨⟨e0, e1, e2⟩, _, f1, f2, f3, _⟩ := HSF0.out W hW
              exact ⟨e0, e1, e2, f1, f2, f3, hW⟩)
            have hbd := hbw.drew
            clear hbw hy hput hnx hv hg1 ep2 ep3 c4
            generalize cmpV ⟨yk, yn, yt⟩ ⟨xk, xn, xt⟩ = cv at *
            by_cases hcv : cv < 0
            · go_wp2_with fail
              have hS1 : wr.drew.cell? ⟨g1, a * 3, none⟩ = some (.int .i64 yk) ∧ wr.drew.cell? ⟨g1, a * 3 + 1, none⟩ = some (.int .i64 yn) ∧ wr.drew.cell? ⟨g1, a * 3 + 2, none⟩ = some (.string yt) ∧ wr.drew.cell? ⟨g, off + k * 5 + 1, none⟩ = some (.int .i64 xk) ∧ wr.drew.cell? ⟨g, off + k * 5 + 2, none⟩ = some (.int .i64 xn) ∧ wr.drew.cell? ⟨g, off + k * 5 + 3, none⟩ = some (.string xt) ∧ Below wo.heap.size wo wr.drew := HSF.out _ hbd
              have HK1 := Lib.hid (fun (z3 : World) (b3 : Below wr.drew.heap.size wr.drew z3) => HSF.out z3 ((hbd).trans (b3.mono (hbd).size)))
              have HCM1 := Lib.hid (HCM.out wr.drew)
              go_region_held3 (fun x => x.cell? ⟨g1, a * 3, none⟩ = some (.int .i64 yk) ∧ x.cell? ⟨g1, a * 3 + 1, none⟩ = some (.int .i64 yn) ∧ x.cell? ⟨g1, a * 3 + 2, none⟩ = some (.string yt) ∧ x.cell? ⟨g, off + k * 5 + 1, none⟩ = some (.int .i64 xk) ∧ x.cell? ⟨g, off + k * 5 + 2, none⟩ = some (.int .i64 xn) ∧ x.cell? ⟨g, off + k * 5 + 3, none⟩ = some (.string xt) ∧ Below wo.heap.size wo x)
                (first | assumption | exact HK1.out _ hb3)
                (first | (go_at_call 20; refine HCM1.out.mono ?_; rintro e w3 ⟨rfl, hb3⟩))
              have HB3 := Lib.hid (hbd.trans (hb3.mono hbd.size))
              clear hb3 hS1 hbd
              go_wp2_with fail
              go_roundw
              case rel => exact ⟨a + 1, by omega, congrArg _ (wrap_s HVM.out hla), Lib.hid (fun j hj hja => by
                rcases Nat.lt_or_ge j a with c | c
                · exact HNO.out j hj c
                · obtain rfl : j = a := by omega
                  rw [HY.out]
                  exact HXY.out.1.1 hcv), HB3.out⟩
              case measure =>
                rw [wrap_s HVM.out hla]
                exact int_lessV hla
            · go_wp2_with fail
              have hS1 : wr.drew.cell? ⟨g1, a * 3, none⟩ = some (.int .i64 yk) ∧ wr.drew.cell? ⟨g1, a * 3 + 1, none⟩ = some (.int .i64 yn) ∧ wr.drew.cell? ⟨g1, a * 3 + 2, none⟩ = some (.string yt) ∧ wr.drew.cell? ⟨g, off + k * 5 + 1, none⟩ = some (.int .i64 xk) ∧ wr.drew.cell? ⟨g, off + k * 5 + 2, none⟩ = some (.int .i64 xn) ∧ wr.drew.cell? ⟨g, off + k * 5 + 3, none⟩ = some (.string xt) ∧ Below wo.heap.size wo wr.drew := HSF.out _ hbd
              have HK1 := Lib.hid (fun (z3 : World) (b3 : Below wr.drew.heap.size wr.drew z3) => HSF.out z3 ((hbd).trans (b3.mono (hbd).size)))
              have HCM1 := Lib.hid (HCM.out wr.drew)
              go_region_held3 (fun x => x.cell? ⟨g1, a * 3, none⟩ = some (.int .i64 yk) ∧ x.cell? ⟨g1, a * 3 + 1, none⟩ = some (.int .i64 yn) ∧ x.cell? ⟨g1, a * 3 + 2, none⟩ = some (.string yt) ∧ x.cell? ⟨g, off + k * 5 + 1, none⟩ = some (.int .i64 xk) ∧ x.cell? ⟨g, off + k * 5 + 2, none⟩ = some (.int .i64 xn) ∧ x.cell? ⟨g, off + k * 5 + 3, none⟩ = some (.string xt) ∧ Below wo.heap.size wo x)
                (first | assumption | exact HK1.out _ hb3)
                (first | (go_at_call 20; refine HCM1.out.mono ?_; rintro e w3 ⟨rfl, hb3⟩))
              have hbe := (hbd.trans (hb3.mono hbd.size)).drew
              clear hb3 hS1 hbd
              by_cases hc0 : cv = 0
              · have HEQ : Hid (putV ltV ⟨xk, xn, xt⟩ V = V) := Lib.hid ((HPT.out (fun _ => by rw [HY.out]; cases h : ltV _ _ with | false => rfl | true => exact absurd (HXY.out.1.2 h) (by omega))).1 hla (by rw [HY.out]; exact HXY.out.2.1 hc0))
                clear HXY
                subst hc0
                go_wp2_with fail
                have hS2 : w3.drew.cell? ⟨g1, a * 3, none⟩ = some (.int .i64 yk) ∧ w3.drew.cell? ⟨g1, a * 3 + 1, none⟩ = some (.int .i64 yn) ∧ w3.drew.cell? ⟨g1, a * 3 + 2, none⟩ = some (.string yt) ∧ w3.drew.cell? ⟨g, off + k * 5 + 1, none⟩ = some (.int .i64 xk) ∧ w3.drew.cell? ⟨g, off + k * 5 + 2, none⟩ = some (.int .i64 xn) ∧ w3.drew.cell? ⟨g, off + k * 5 + 3, none⟩ = some (.string xt) ∧ Below wo.heap.size wo w3.drew := HSF.out _ hbe
                have HK2 := Lib.hid (fun (z3 : World) (b3 : Below w3.drew.heap.size w3.drew z3) => HSF.out z3 ((hbe).trans (b3.mono (hbe).size)))
                have HCM2 := Lib.hid (HCM.out w3.drew)
                go_region_held3 (fun x => x.cell? ⟨g1, a * 3, none⟩ = some (.int .i64 yk) ∧ x.cell? ⟨g1, a * 3 + 1, none⟩ = some (.int .i64 yn) ∧ x.cell? ⟨g1, a * 3 + 2, none⟩ = some (.string yt) ∧ x.cell? ⟨g, off + k * 5 + 1, none⟩ = some (.int .i64 xk) ∧ x.cell? ⟨g, off + k * 5 + 2, none⟩ = some (.int .i64 xn) ∧ x.cell? ⟨g, off + k * 5 + 3, none⟩ = some (.string xt) ∧ Below wo.heap.size wo x)
                  (first | assumption | exact HK2.out _ hb3)
                  (first | (go_at_call 20; refine HCM2.out.mono ?_; rintro e w4 ⟨rfl, hb3⟩))
                have HB4 := Lib.hid (hbe.trans (hb3.mono hbe.size))
                clear hb3 hS2 hbe
                go_wp2_with fail
                go_roundw
                case rel => exact ⟨k + 1, by omega, congrArg _ (wrap_s HS.out hlt), by rw [HN.out, HEQ.out]; exact Rk.own_below HO.out HB4.out, HB.out.trans (HB4.out.mono HB.out.size)⟩
                case measure =>
                  rw [wrap_s HS.out hlt]
                  exact int_lessV hlt
              · have hc1 : (cv == 0) = false := by simpa using hc0
                go_wp2_with fail
                have hS2 : w3.drew.cell? ⟨g1, a * 3, none⟩ = some (.int .i64 yk) ∧ w3.drew.cell? ⟨g1, a * 3 + 1, none⟩ = some (.int .i64 yn) ∧ w3.drew.cell? ⟨g1, a * 3 + 2, none⟩ = some (.string yt) ∧ w3.drew.cell? ⟨g, off + k * 5 + 1, none⟩ = some (.int .i64 xk) ∧ w3.drew.cell? ⟨g, off + k * 5 + 2, none⟩ = some (.int .i64 xn) ∧ w3.drew.cell? ⟨g, off + k * 5 + 3, none⟩ = some (.string xt) ∧ Below wo.heap.size wo w3.drew := HSF.out _ hbe
                have HK2 := Lib.hid (fun (z3 : World) (b3 : Below w3.drew.heap.size w3.drew z3) => HSF.out z3 ((hbe).trans (b3.mono (hbe).size)))
                have HCM2 := Lib.hid (HCM.out w3.drew)
                go_region_held3 (fun x => x.cell? ⟨g1, a * 3, none⟩ = some (.int .i64 yk) ∧ x.cell? ⟨g1, a * 3 + 1, none⟩ = some (.int .i64 yn) ∧ x.cell? ⟨g1, a * 3 + 2, none⟩ = some (.string yt) ∧ x.cell? ⟨g, off + k * 5 + 1, none⟩ = some (.int .i64 xk) ∧ x.cell? ⟨g, off + k * 5 + 2, none⟩ = some (.int .i64 xn) ∧ x.cell? ⟨g, off + k * 5 + 3, none⟩ = some (.string xt) ∧ Below wo.heap.size wo x)
                  (first | assumption | exact HK2.out _ hb3)
                  (first | (go_at_call 20; refine HCM2.out.mono ?_; rintro e w4 ⟨rfl, hb3⟩))
                have HB4 := Lib.hid (hbe.trans (hb3.mono hbe.size))
                have HPUT : Hid (putV ltV ⟨xk, xn, xt⟩ V = V.take a ++ (⟨xk, xn, xt⟩ : Val) :: V.drop a) := Lib.hid ((HPT.out (fun _ => by rw [HY.out]; cases h : ltV _ _ with | false => rfl | true => exact absurd (HXY.out.1.2 h) (by omega))).2 (fun _ e => hc0 (HXY.out.2.2 (by rw [← HY.out]; exact e))))
                clear hb3 hS2 hbe
                have own5 := Rk.own_below HO.out HB4.out
                obtain ⟨p1, p2, n2, q1, q2, v1, v2, v3, W1, W2, W3, e1, e2, a1, a2, a3, o3, b1, b3⟩ := vals_put own5 ⟨xk, xn, xt⟩ a (by omega) (by have := HLEN.out; have := HL.out; omega) (by have := HB.out.size; have := HB4.out.size; omega)
                have hwz : Below w.heap.size w w4 := HB.out.trans (HB4.out.mono HB.out.size)
                obtain ⟨_, c1, c2, c3, _⟩ := HC.out W1 (hwz.trans (b1.mono hwz.size))
                have HX : Hid (VlW w R (k + 1) v3 W3) := Lib.hid ⟨by rw [HN.out, HPUT.out]; exact o3, hwz.trans (b3.mono hwz.size)⟩
                try simp only at c1 c2 c3
                clear own5 o3 b1 b3 hwz
                go_wp2_with (first
                  | (at_builtin; refine wpList_append_run (by rfl) _ _ _ _ (by rfl) _ _ v1 W1 (by rfl) (by rfl) a1 ?_)
                  | (at_builtin; refine wpList_append_run (by rfl) _ _ _ _ (by rfl) _ _ v2 W2 (by rfl) (by rfl) a2 ?_)
                  | (at_builtin; refine wpList_append_run (by rfl) _ _ _ _ (by rfl) _ _ v3 W3 (by rfl) (by rfl) a3 ?_))
                go_roundw
                case rel => exact ⟨k + 1, by omega, congrArg _ (wrap_s HS.out hlt), HX.out⟩
                case measure =>
                  rw [wrap_s HS.out hlt]
                  exact int_lessV hlt
          · obtain rfl : a = V.length := by omega
            have HPUT : Hid (putV ltV x V = V.take V.length ++ x :: V.drop V.length) := Lib.hid (by
              rw [(putV_at ordV x V V.length (Nat.le_refl _) (fun j hj hja => HNO.out j hj hja) (fun h => absurd h (Nat.lt_irrefl _))).2 (fun h => absurd h (Nat.lt_irrefl _))])
            clear hbw c4
            go_wp2_with fail
            go_region
            go_wp2_with fail
            go_region
            have HB4 : Hid (Below wo.heap.size wo wr.drew.drew) := Lib.hid HBW.out.drew.drew
            generalize wr.drew.drew = w4 at *
            have own5 := Rk.own_below HO.out HB4.out
            obtain ⟨p1, p2, n2, q1, q2, v1, v2, v3, W1, W2, W3, e1, e2, a1, a2, a3, o3, b1, b3⟩ := vals_put own5 x V.length (by omega) (by have := HLEN.out; have := HL.out; omega) (by have := HB.out.size; have := HB4.out.size; omega)
            have hwz : Below w.heap.size w w4 := HB.out.trans (HB4.out.mono HB.out.size)
            obtain ⟨_, c1, c2, c3, _⟩ := HC.out W1 (hwz.trans (b1.mono hwz.size))
            have HX : Hid (VlW w R (k + 1) v3 W3) := Lib.hid ⟨by rw [HN.out, HPUT.out]; exact o3, hwz.trans (b3.mono hwz.size)⟩
            obtain ⟨xk, xn, xt⟩ := x
            try simp only at c1 c2 c3
            clear own5 o3 b1 b3 hwz
            go_wp2_with (first
              | (at_builtin; refine wpList_append_run (by rfl) _ _ _ _ (by rfl) _ _ v1 W1 (by rfl) (by rfl) a1 ?_)
              | (at_builtin; refine wpList_append_run (by rfl) _ _ _ _ (by rfl) _ _ v2 W2 (by rfl) (by rfl) a2 ?_)
              | (at_builtin; refine wpList_append_run (by rfl) _ _ _ _ (by rfl) _ _ v3 W3 (by rfl) (by rfl) a3 ?_))
            go_roundw
            case rel => exact ⟨k + 1, by omega, congrArg _ (wrap_s HS.out hlt), HX.out⟩
            case measure =>
              rw [wrap_s HS.out hlt]
              exact int_lessV hlt
    · obtain ⟨ho, hb⟩ := hr
      obtain rfl : k = R.length := by omega
      rw [List.take_length] at ho
      obtain ⟨po, co, rfl⟩ := (own_row flatV ho).form
      have HO := Lib.hid ho
      have HB := Lib.hid hb
      clear ho hb
      go_wp2_with fail
      go_ret
      exact ⟨_, rfl, HO.out, HB.out⟩
end Wd
end Go.Proofs.Ytkmfkgjkgnlfnaa
