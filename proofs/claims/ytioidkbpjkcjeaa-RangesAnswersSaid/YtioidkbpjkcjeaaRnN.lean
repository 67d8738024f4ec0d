/- The document's Build. Conditions: those that each theorem names. -/
import Derived.Test.YtioidkbpjkcjeaaRnM
import Derived.BigQuiet
namespace Go.Proofs.Ytioidkbpjkcjeaa
set_option linter.unusedVariables false
open Go Go.RowKit Go.Shelf Go.Sort Ids
namespace Rn
/-- One element gone over while x is put in. -/
def stP (x : En) (s : List En × Bool) (y : En) : List En × Bool :=
  if s.2 = true then (s.1 ++ [y], true) else if y = x then (s.1 ++ [y], true) else if Lt x y then (s.1 ++ [x] ++ [y], true) else (s.1 ++ [y], false)
def finP (x : En) (s : List En × Bool) : List En := if s.2 = true then s.1 else s.1 ++ [x]
theorem stP_true (x : En) : ∀ (L N : List En), L.foldl (stP x) (N, true) = (N ++ L, true)
  | [], N => by simp
  | y :: L, N => by
    rw [List.foldl_cons, show stP x (N, true) y = (N ++ [y], true) from rfl, stP_true x L]
    simp
theorem stP_fin (x : En) : ∀ (L N : List En), finP x (L.foldl (stP x) (N, false)) = N ++ insR x L
  | [], N => by simp [finP, insR]
  | y :: L, N => by
    rw [List.foldl_cons]
    unfold insR
    by_cases h1 : y = x
    · rw [show stP x (N, false) y = (N ++ [y], true) by simp [stP, h1], stP_true, if_pos h1]
      simp [finP]
    · by_cases h2 : Lt x y
      · rw [show stP x (N, false) y = (N ++ [x] ++ [y], true) by simp [stP, h1, h2], stP_true, if_neg h1, if_pos h2]
        simp [finP]
      · rw [show stP x (N, false) y = (N ++ [y], false) by simp [stP, h1, h2], stP_fin x L, if_neg h1, if_neg h2]
        simp
/-- What is laid of the first k elements. -/
def putK (x : En) (O : List En) (k : Nat) : List En × Bool := (O.take k).foldl (stP x) ([], false)
theorem putK_next {x y : En} {O : List En} {k : Nat} (h : O[k]? = some y) : putK x O (k + 1) = stP x (putK x O k) y := by
  unfold putK
  rw [List.take_add_one, h, List.foldl_append]
  rfl
theorem putK_all (x : En) (O : List En) : finP x (putK x O O.length) = insR x O := by
  unfold putK
  rw [List.take_length]
  exact stP_fin x O []
theorem putK_len (x : En) (O : List En) : ∀ k, (putK x O k).1.length ≤ k + (if (putK x O k).2 = true then 1 else 0) := by
  have key : ∀ (L N : List En) (b : Bool), (L.foldl (stP x) (N, b)).1.length + (if b = true then 1 else 0) ≤ N.length + L.length + (if (L.foldl (stP x) (N, b)).2 = true then 1 else 0) := by
    intro L
    induction L with
    | nil => intro N b; cases b <;> simp
    | cons y L ih =>
      intro N b
      rw [List.foldl_cons]
      cases b with
      | true =>
        have := ih (N ++ [y]) true
        rw [show stP x (N, true) y = (N ++ [y], true) from rfl]
        simp at this ⊢; omega
      | false =>
        by_cases h1 : y = x
        · have := ih (N ++ [y]) true
          rw [show stP x (N, false) y = (N ++ [y], true) by simp [stP, h1]]
          simp at this ⊢; omega
        · by_cases h2 : Lt x y
          · have := ih (N ++ [x] ++ [y]) true
            rw [show stP x (N, false) y = (N ++ [x] ++ [y], true) by simp [stP, h1, h2]]
            simp at this ⊢; omega
          · have := ih (N ++ [y]) false
            rw [show stP x (N, false) y = (N ++ [y], false) by simp [stP, h1, h2]]
            simp at this ⊢; omega
  intro k
  have := key (O.take k) [] false
  unfold putK
  simp at this ⊢
  have : min k O.length ≤ k := Nat.min_le_left _ _
  omega
/-- One entry appended, in a new block ahead. -/
theorem append_new {w : World} {base : Nat} {v : Value} {A : List En} (x : En) (hown : OwnH w base v A) (hb : (A.length + 1) * 16 ≤ 140737488355328) (hbase : base ≤ w.heap.size) :
    ∃ v' w', (∀ ty, (Builtin.append_ #[22, 22] ty #[v, .slice (some ⟨w.heap.size, 0, none⟩) 1 1]).run Try.prog (w.alloc (hobj x)) = .ok v' w') ∧ OwnH w' base v' (A ++ [x]) ∧ Below base w w' := by
  obtain ⟨v', w', hr, ho, hg, _⟩ := append_en (own_below hown (fresh_alloc w (hobj x))) (heap_last w (hobj x)) hb (by simp; omega)
  exact ⟨v', w', hr, ho, ((Below.refl base w).alloc hbase _).trans (grown_below (own_below hown (fresh_alloc w (hobj x))) hg (by simp; omega))⟩
set_option maxHeartbeats 4000000 in
set_option maxRecDepth 100000 in
theorem rbuild_any (l : List En) (v : Value) (w : World) (h : HsAt w v l) (hl : l.length * 16 + 16 ≤ 140737488355328) :
    Calls Try.prog 8 #[v] w fun e w' => ∃ u, e = .returned u ∧ OwnH w' w.heap.size u (can l) ∧ Below w.heap.size w w' := by
  have HL := Lib.hid h
  obtain ⟨p, c, rfl⟩ := h.form
  obtain ⟨n, hn⟩ : ∃ n, n = l.length := ⟨_, rfl⟩
  have HN := Lib.hid hn
  have hnb : n ≤ 8796093022207 := by omega
  have HNB := Lib.hid hnb
  have HMX : Hid (n ≤ maxLen) := Lib.hid (by unfold maxLen; omega)
  rw [← hn] at HL ⊢
  clear h hl hn hnb
  go_enter Try.func8, Try.ntmps8
  go_wp2_with fail
  go_loopw [3, 4, 5, 6, 7] (fun o i nx pl kk wr => ∃ j : Nat, j ≤ n ∧ i = .int .i64 j ∧ OwnH wr w.heap.size o (can (l.take j)) ∧ Below w.heap.size w wr) (fun _ i _ _ _ _ => n - (intOf i).toNat)
  case atStart => exact ⟨0, Nat.zero_le _, rfl, World.ownsRow_nil _ _ _ _, Below.refl _ _⟩
  case round =>
    obtain ⟨j, hj, rfl, ho, hb⟩ := hrel
    have HB := Lib.hid hb
    have HO := Lib.hid ho
    clear ho hb
    obtain ⟨wo, rfl⟩ : ∃ wo : World, wo = wr := ⟨_, rfl⟩
    by_cases hlt : j < n
    · have hjl : j < l.length := by rw [← HN.out]; exact hlt
      have hx : l[j]? = some l[j] := List.getElem?_eq_getElem hjl
      obtain ⟨x, hxe⟩ : ∃ x, x = l[j] := ⟨_, rfl⟩
      rw [← hxe] at hx
      have HCN : Hid (can (l.take (j + 1)) = insR x (can (l.take j))) := Lib.hid (can_take hx)
      obtain ⟨O, hO⟩ : ∃ O, O = can (l.take j) := ⟨_, rfl⟩
      have hOl : O.length ≤ j := by rw [hO]; have := (can_fact (l.take j)).2.2; simp at this; omega
      rw [← hO] at HO HCN
      have HL2 := HL.out.below HB.out
      rcases HL2 with ⟨e0, _⟩ | ⟨g, off, c', e0, hgl, hc⟩
      · rw [e0] at hjl; cases hjl
      · injection e0 with e1 e2 e3
        subst e1; subst e3; clear e2
        have HX : Hid (∀ W, Below wo.heap.size wo W → W.cell? ⟨g, off + j * 2, none⟩ = some (.int .i64 x.1) ∧ W.cell? ⟨g, off + j * 2 + 1, none⟩ = some (.int .i64 x.2)) := Lib.hid (fun W hW => by
          rw [hxe]; exact hc W (hW.block g hgl) j hjl)
        obtain ⟨po, co, rfl⟩ := (own_entries HO.out).form
        obtain ⟨m, hm⟩ : ∃ m, m = O.length := ⟨_, rfl⟩
        have HM := Lib.hid hm
        have hmj : m ≤ j := by omega
        have HMJ := Lib.hid hmj
        have HOE := Lib.hid (own_entries HO.out)
        rw [← hm] at HO HOE ⊢
        have hjn : (j : Int) < (n : Int) := by omega
        have HJN := Lib.hid hlt
        have HMXM : Hid (m ≤ maxLen) := Lib.hid (Nat.le_trans (Nat.le_trans hmj hj) HMX.out)
        clear hx hxe hO hOl hc hm hjl hmj
        go_wp2_with fail
        go_loopw [5, 6, 7] (fun s pl i wr => ∃ k : Nat, k ≤ m ∧ i = .int .i64 k ∧ pl = .bool (putK x O k).2 ∧ OwnH wr wo.heap.size s (putK x O k).1 ∧ Below wo.heap.size wo wr) (fun _ _ i _ => m - (intOf i).toNat)
        case atStart => exact ⟨0, Nat.zero_le _, rfl, rfl, World.ownsRow_nil _ _ _ _, Below.refl _ _⟩
        case round =>
          obtain ⟨k, hk, rfl, rfl, ho, hb⟩ := hrel
          have HB2 := Lib.hid hb
          have HO2 := Lib.hid ho
          clear ho hb
          obtain ⟨wi, rfl⟩ : ∃ wi : World, wi = wr := ⟨_, rfl⟩
          have hpl := putK_len x O k
          by_cases hlt2 : k < m
          · have hkO : k < O.length := by rw [← HM.out]; exact hlt2
            have hy : O[k]? = some O[k] := List.getElem?_eq_getElem hkO
            obtain ⟨y, hye⟩ : ∃ y, y = O[k] := ⟨_, rfl⟩
            rw [← hye] at hy
            have HNX := Lib.hid (putK_next (x := x) hy)
            rcases HOE.out with ⟨e0, _⟩ | ⟨g2, off2, c2, e0, hgl, hc⟩
            · rw [e0] at hkO; cases hkO
            · injection e0 with e1 e2 e3
              subst e1; subst e3; clear e2
              have HY : Hid (∀ W, Below wo.heap.size wo W → W.cell? ⟨g2, off2 + k * 2, none⟩ = some (.int .i64 y.1) ∧ W.cell? ⟨g2, off2 + k * 2 + 1, none⟩ = some (.int .i64 y.2)) := Lib.hid (fun W hW => by
                rw [hye]; exact hc W (hW.block g2 hgl) k hkO)
              obtain ⟨N, hNe⟩ : ∃ N, N = (putK x O k).1 := ⟨_, rfl⟩
              obtain ⟨pb, hpb⟩ : ∃ pb, pb = (putK x O k).2 := ⟨_, rfl⟩
              have HST : Hid (putK x O k = (N, pb)) := Lib.hid (by rw [hNe, hpb])
              rw [← hNe] at HO2 hpl
              rw [← hpb] at hpl ⊢
              have HBD : Hid ((N.length + 1) * 16 ≤ 140737488355328 ∧ (pb = false → (N.length + 1 + 1) * 16 ≤ 140737488355328)) := Lib.hid (by
                have h1 := HNB.out; have h2 := HJN.out; have h3 := HMJ.out
                refine ⟨by split at hpl <;> omega, fun hf => ?_⟩
                rw [hf] at hpl
                simp at hpl
                omega)
              have hkm : (k : Int) < (m : Int) := by omega
              have hkm1 : k + 1 ≤ m := hlt2
              have HE := fun W => eqlH_run y x W
              obtain ⟨a0, a1⟩ := HX.out wi HB2.out
              obtain ⟨b0, b1⟩ := HY.out wi HB2.out
              have mixed : Try.prog.follows .mixedOrders = true := by kernel_rfl
              clear hc hgl hye hy hkO hNe hpb hpl
              cases pb with
              | true =>
                go_wp2
                go_quiet (fail)
                have HB3 := Lib.hid (HB2.out.trans (((Gn.refl wi).drewN nq).below.mono HB2.out.size))
                have HO3 := Lib.hid (own_gn HO2.out ((Gn.refl wi).drewN nq))
                clear a0 a1 b0 b1 HE HB2 HO2
                generalize wi.drewN nq = w1 at *
                go_wp2
                go_quiet (fail)
                have HB4 := Lib.hid (HB3.out.trans (((Gn.refl w1).drewN nq).below.mono HB3.out.size))
                have HO4 := Lib.hid (own_gn HO3.out ((Gn.refl w1).drewN nq))
                clear HB3 HO3
                generalize w1.drewN nq = w2 at *
                obtain ⟨b0, b1⟩ := HY.out w2 HB4.out
                obtain ⟨v3, w3, hr3, ho3, hb3⟩ := append_new y HO4.out HBD.out.1 HB4.out.size
                have HN2 : Hid (putK x O (k + 1) = (N ++ [y], true)) := Lib.hid (by rw [HNX.out, HST.out]; rfl)
                have HO5 := Lib.hid ho3
                have HB5 := Lib.hid (HB4.out.trans hb3)
                clear ho3 hb3 HB4 HO4 HST HNX HBD
                go_wp2_with (first | (at_builtin; refine wpList_append_run rfl _ _ _ _ rfl _ _ _ _ rfl rfl hr3 ?_))
                go_roundw
                case rel => exact ⟨k + 1, hkm1, by first | rfl | exact congrArg _ (wrap_s HMXM.out hlt2) | go_num, by rw [HN2.out], by rw [HN2.out]; exact HO5.out, HB5.out⟩
                case measure =>
                  rw [wrap_s HMXM.out hlt2]
                  exact int_less hlt2
              | false =>
                by_cases h1 : y = x
                · rw [decide_eq_true h1] at HE
                  have HN2 : Hid (putK x O (k + 1) = (N ++ [y], true)) := Lib.hid (by rw [HNX.out, HST.out]; simp [stP, h1])
                  clear h1 HNX
                  go_wp2
                  go_quiet (fail)
                  have HB3 := Lib.hid (HB2.out.trans (((Gn.refl wi).drewN nq).below.mono HB2.out.size))
                  have HO3 := Lib.hid (own_gn HO2.out ((Gn.refl wi).drewN nq))
                  clear a0 a1 b0 b1 HE HB2 HO2
                  generalize wi.drewN nq = w1 at *
                  go_wp2
                  go_quiet (fail)
                  have HB4 := Lib.hid (HB3.out.trans (((Gn.refl w1).drewN nq).below.mono HB3.out.size))
                  have HO4 := Lib.hid (own_gn HO3.out ((Gn.refl w1).drewN nq))
                  clear HB3 HO3
                  generalize w1.drewN nq = w2 at *
                  obtain ⟨b0, b1⟩ := HY.out w2 HB4.out
                  obtain ⟨v3, w3, hr3, ho3, hb3⟩ := append_new y HO4.out HBD.out.1 HB4.out.size
                  have HO5 := Lib.hid ho3
                  have HB5 := Lib.hid (HB4.out.trans hb3)
                  clear ho3 hb3 HB4 HO4 HST HBD
                  go_wp2_with (first | (at_builtin; refine wpList_append_run rfl _ _ _ _ rfl _ _ _ _ rfl rfl hr3 ?_))
                  go_roundw
                  case rel => exact ⟨k + 1, hkm1, by first | rfl | exact congrArg _ (wrap_s HMXM.out hlt2) | go_num, by rw [HN2.out], by rw [HN2.out]; exact HO5.out, HB5.out⟩
                  case measure =>
                    rw [wrap_s HMXM.out hlt2]
                    exact int_less hlt2
                · rw [decide_eq_false h1] at HE
                  have H1 := Lib.hid h1
                  clear h1
                  go_wp2
                  go_quiet (fail)
                  have HB3 := Lib.hid (HB2.out.trans (((Gn.refl wi).drewN nq).below.mono HB2.out.size))
                  have HO3 := Lib.hid (own_gn HO2.out ((Gn.refl wi).drewN nq))
                  clear a0 a1 b0 b1 HE HB2 HO2
                  generalize wi.drewN nq = w1 at *
                  have hq := fun nn os => HB3.out.trans ((Gn.below (w := w1) (w' := grow (w1.drewN nn) os) ⟨nn, os, rfl⟩).mono HB3.out.size)
                  have a0 := fun nn os => (HX.out _ (hq nn os)).1
                  have a1 := fun nn os => (HX.out _ (hq nn os)).2
                  have b0 := fun nn os => (HY.out _ (hq nn os)).1
                  have b1 := fun nn os => (HY.out _ (hq nn os)).2
                  have HC := Lib.hid (fun (W : World) => less_any x y W)
                  clear hq
                  by_cases h2 : Lt x y
                  · rw [decide_eq_true h2] at HC
                    have HN2 : Hid (putK x O (k + 1) = (N ++ [x] ++ [y], true)) := Lib.hid (by rw [HNX.out, HST.out]; simp [stP, H1.out, h2])
                    clear h2 HNX
                    go_wp2_with fail
                    go_quiet_grown (first | (go_at_call 22; refine Calls.grown_of (HC.out _)))
                    dsimp only
                    have HB4 := Lib.hid (HB3.out.trans ((Gn.below (w := w1) (w' := grow (w1.drewN nq) osq) ⟨nq, osq, rfl⟩).mono HB3.out.size))
                    have HO4 := Lib.hid (own_gn HO3.out (w' := grow (w1.drewN nq) osq) ⟨nq, osq, rfl⟩)
                    clear a0 a1 b0 b1 HC HB3 HO3
                    generalize grow (w1.drewN nq) osq = w2 at *
                    obtain ⟨a0, a1⟩ := HX.out w2 HB4.out
                    obtain ⟨v3, w3, hr3, ho3, hb3⟩ := append_new x HO4.out HBD.out.1 HB4.out.size
                    have HB5 := Lib.hid (HB4.out.trans hb3)
                    obtain ⟨b0, b1⟩ := HY.out w3 HB5.out
                    obtain ⟨v4, w4, hr4, ho4, hb4⟩ := append_new y ho3 (by have := HBD.out.2 (by simp); simpa using this) HB5.out.size
                    have HO6 := Lib.hid ho4
                    have HB6 := Lib.hid (HB5.out.trans hb4)
                    clear ho3 hb3 ho4 hb4 HB4 HO4 HB5 HST HBD
                    go_wp2_with (first | (at_builtin; refine wpList_append_run rfl _ _ _ _ rfl _ _ _ _ rfl rfl hr3 ?_; clear hr3) | (at_builtin; refine wpList_append_run rfl _ _ _ _ rfl _ _ _ _ rfl rfl hr4 ?_; clear hr4))
                    go_roundw
                    case rel => exact ⟨k + 1, hkm1, by first | rfl | exact congrArg _ (wrap_s HMXM.out hlt2) | go_num, by rw [HN2.out], by rw [HN2.out]; exact HO6.out, HB6.out⟩
                    case measure =>
                      rw [wrap_s HMXM.out hlt2]
                      exact int_less hlt2
                  · rw [decide_eq_false h2] at HC
                    have HN2 : Hid (putK x O (k + 1) = (N ++ [y], false)) := Lib.hid (by rw [HNX.out, HST.out]; simp [stP, H1.out, h2])
                    clear h2 HNX
                    go_wp2_with fail
                    go_quiet_grown (first | (go_at_call 22; refine Calls.grown_of (HC.out _)))
                    dsimp only
                    have HB4 := Lib.hid (HB3.out.trans ((Gn.below (w := w1) (w' := grow (w1.drewN nq) osq) ⟨nq, osq, rfl⟩).mono HB3.out.size))
                    have HO4 := Lib.hid (own_gn HO3.out (w' := grow (w1.drewN nq) osq) ⟨nq, osq, rfl⟩)
                    clear a0 a1 b0 b1 HC HB3 HO3
                    generalize grow (w1.drewN nq) osq = w2 at *
                    obtain ⟨b0, b1⟩ := HY.out w2 HB4.out
                    obtain ⟨v3, w3, hr3, ho3, hb3⟩ := append_new y HO4.out HBD.out.1 HB4.out.size
                    have HO5 := Lib.hid ho3
                    have HB5 := Lib.hid (HB4.out.trans hb3)
                    clear ho3 hb3 HB4 HO4 HST HBD
                    go_wp2_with (first | (at_builtin; refine wpList_append_run rfl _ _ _ _ rfl _ _ _ _ rfl rfl hr3 ?_))
                    go_roundw
                    case rel => exact ⟨k + 1, hkm1, by first | rfl | exact congrArg _ (wrap_s HMXM.out hlt2) | go_num, by rw [HN2.out], by rw [HN2.out]; exact HO5.out, HB5.out⟩
                    case measure =>
                      rw [wrap_s HMXM.out hlt2]
                      exact int_less hlt2
          · obtain rfl : k = m := by omega
            have HP := Lib.hid (putK_all x O)
            obtain ⟨N, hNe⟩ : ∃ N, N = (putK x O k).1 := ⟨_, rfl⟩
            obtain ⟨pb, hpb⟩ : ∃ pb, pb = (putK x O k).2 := ⟨_, rfl⟩
            have HST : Hid (finP x (N, pb) = insR x O) := Lib.hid (by rw [hNe, hpb, ← HP.out, ← HM.out])
            rw [← hNe] at HO2 hpl
            rw [← hpb] at hpl ⊢
            have HBD : Hid (pb = false → (N.length + 1) * 16 ≤ 140737488355328) := Lib.hid (fun hf => by
              have h1 := HNB.out; have h2 := HJN.out; have h3 := HMJ.out
              rw [hf] at hpl
              simp at hpl
              omega)
            have HBW := Lib.hid (HB.out.trans (HB2.out.mono HB.out.size))
            obtain ⟨a0, a1⟩ := HX.out wi HB2.out
            have hj1 : j + 1 ≤ n := HJN.out
            clear hNe hpb hpl
            cases pb with
            | true =>
              have HR : Hid (N = can (l.take (j + 1))) := Lib.hid (by rw [HCN.out, ← HST.out]; rfl)
              go_wp2_with fail
              go_roundw
              case rel => exact ⟨j + 1, hj1, by first | rfl | exact congrArg _ (wrap_s HMX.out HJN.out) | go_num, by rw [← HR.out]; exact Go.Joins.ownsRow_le HO2.out HB.out.size, HBW.out⟩
              case measure =>
                rw [wrap_s HMX.out HJN.out]
                exact int_less HJN.out
            | false =>
              have HR : Hid (N ++ [x] = can (l.take (j + 1))) := Lib.hid (by rw [HCN.out, ← HST.out]; rfl)
              obtain ⟨v3, w3, hr3, ho3, hb3⟩ := append_new x HO2.out (HBD.out (by simp)) HB2.out.size
              rw [HR.out] at ho3
              have HO3 := Lib.hid (Go.Joins.ownsRow_le ho3 HB.out.size)
              have HB3 := Lib.hid (HB.out.trans ((HB2.out.trans hb3).mono HB.out.size))
              clear ho3 hb3
              go_wp2_with (first | (at_builtin; refine wpList_append_run rfl _ _ _ _ rfl _ _ _ _ rfl rfl hr3 ?_))
              go_roundw
              case rel => exact ⟨j + 1, hj1, by first | rfl | exact congrArg _ (wrap_s HMX.out HJN.out) | go_num, HO3.out, HB3.out⟩
              case measure =>
                rw [wrap_s HMX.out HJN.out]
                exact int_less HJN.out
    · obtain rfl : j = n := by omega
      have hall : l.take j = l := by rw [HN.out, List.take_length]
      rw [hall] at HO
      clear hall
      go_wp2_with fail
      go_ret
      exact ⟨_, rfl, HO.out, HB.out⟩
end Rn
end Go.Proofs.Ytioidkbpjkcjeaa
