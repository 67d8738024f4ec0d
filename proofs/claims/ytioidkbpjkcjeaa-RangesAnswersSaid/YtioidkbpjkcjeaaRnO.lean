/- The document's Between and Count. Conditions: those that each theorem names. -/
import Derived.Test.YtioidkbpjkcjeaaRnN
namespace Go.Proofs.Ytioidkbpjkcjeaa
set_option linter.unusedVariables false
open Go Go.RowKit Go.Shelf Go.Sort Ids
namespace Rn
/-- The document's putting in of an id. -/
def insI (x : Int) : List Int → List Int
  | [] => [x]
  | y :: L => if y = x then y :: L else if x < y then x :: y :: L else y :: insI x L
theorem insI_is (x : Int) : ∀ L, insI x L = put x L
  | [] => rfl
  | y :: L => by
    unfold insI put
    by_cases h1 : y = x
    · rw [if_pos h1, if_neg (by omega), if_pos h1.symm]
    · by_cases h2 : x < y
      · rw [if_neg h1, if_pos h2, if_pos h2]
      · rw [if_neg h1, if_neg h2, if_neg h2, if_neg (fun e => h1 e.symm), insI_is x L]
/-- The document's Between. -/
def bwL (low high : Int) (l : List En) : List Int := l.foldl (fun o e => if inB low high e = true then insI e.2 o else o) []
theorem bwL_take {low high : Int} {l : List En} {k : Nat} {x : En} (h : l[k]? = some x) : bwL low high (l.take (k + 1)) = if inB low high x = true then insI x.2 (bwL low high (l.take k)) else bwL low high (l.take k) := by
  unfold bwL
  rw [List.take_add_one, h, List.foldl_append]
  rfl
theorem bwL_fact (low high : Int) (l : List En) : Ids.Ris (bwL low high l) ∧ (∀ n, n ∈ bwL low high l ↔ n ∈ (seg low high l).map (fun x => x.2)) ∧ (bwL low high l).length ≤ l.length := by
  have key : ∀ (l : List En) (o : List Int), Ids.Ris o → Ids.Ris (l.foldl (fun o e => if inB low high e = true then insI e.2 o else o) o) ∧ (∀ n, n ∈ l.foldl (fun o e => if inB low high e = true then insI e.2 o else o) o ↔ n ∈ o ∨ n ∈ (seg low high l).map (fun x => x.2)) ∧ (l.foldl (fun o e => if inB low high e = true then insI e.2 o else o) o).length ≤ o.length + l.length := by
    intro l
    induction l with
    | nil => intro o h; exact ⟨h, fun n => by simp [seg], by simp⟩
    | cons x r ih =>
      intro o h
      rw [List.foldl_cons]
      by_cases hx : inB low high x = true
      · rw [if_pos hx, insI_is]
        obtain ⟨a, b, c⟩ := ih (put x.2 o) (ris_put x.2 o h)
        have hp := (put_length x.2 o).2
        refine ⟨a, fun n => ?_, by simp only [List.length_cons]; omega⟩
        rw [b, mem_put]
        unfold seg
        rw [List.filter_cons_of_pos hx, List.map_cons, List.mem_cons]
        constructor
        · rintro ((h | h) | h) <;> simp [h]
        · rintro (h | h | h) <;> simp [h]
      · rw [if_neg hx]
        obtain ⟨a, b, c⟩ := ih o h
        refine ⟨a, fun n => ?_, by simp only [List.length_cons]; omega⟩
        rw [b]
        unfold seg
        rw [List.filter_cons_of_neg hx]
  obtain ⟨a, b, c⟩ := key l [] List.Pairwise.nil
  exact ⟨a, fun n => by rw [bwL, b]; simp, by unfold bwL; simpa using c⟩
theorem bwL_is (low high : Int) (l : List En) : bwL low high l = idsE (seg low high l) := by
  obtain ⟨a, b, _⟩ := bwL_fact low high l
  refine Ids.ris_ext a (ris_uniL _ _) fun n => ?_
  rw [b]
  unfold idsE
  rw [mem_uniL]
  simp
/-- One element gone over while x is put in. -/
def stI (x : Int) (s : List Int × Bool) (y : Int) : List Int × Bool :=
  if s.2 = true then (s.1 ++ [y], true) else if y = x then (s.1 ++ [y], true) else if x < y then (s.1 ++ [x] ++ [y], true) else (s.1 ++ [y], false)
def finI (x : Int) (s : List Int × Bool) : List Int := if s.2 = true then s.1 else s.1 ++ [x]
theorem stI_true (x : Int) : ∀ (L N : List Int), L.foldl (stI x) (N, true) = (N ++ L, true)
  | [], N => by simp
  | y :: L, N => by
    rw [List.foldl_cons, show stI x (N, true) y = (N ++ [y], true) from rfl, stI_true x L]
    simp
theorem stI_fin (x : Int) : ∀ (L N : List Int), finI x (L.foldl (stI x) (N, false)) = N ++ insI x L
  | [], N => by simp [finI, insI]
  | y :: L, N => by
    rw [List.foldl_cons]
    unfold insI
    by_cases h1 : y = x
    · rw [show stI x (N, false) y = (N ++ [y], true) by simp [stI, h1], stI_true, if_pos h1]
      simp [finI]
    · by_cases h2 : x < y
      · rw [show stI x (N, false) y = (N ++ [x] ++ [y], true) by simp [stI, h1, h2], stI_true, if_neg h1, if_pos h2]
        simp [finI]
      · rw [show stI x (N, false) y = (N ++ [y], false) by simp [stI, h1, h2], stI_fin x L, if_neg h1, if_neg h2]
        simp
/-- What is laid of the first k elements. -/
def putI (x : Int) (O : List Int) (k : Nat) : List Int × Bool := (O.take k).foldl (stI x) ([], false)
theorem putI_next {x y : Int} {O : List Int} {k : Nat} (h : O[k]? = some y) : putI x O (k + 1) = stI x (putI x O k) y := by
  unfold putI
  rw [List.take_add_one, h, List.foldl_append]
  rfl
theorem putI_all (x : Int) (O : List Int) : finI x (putI x O O.length) = insI x O := by
  unfold putI
  rw [List.take_length]
  exact stI_fin x O []
theorem putI_len (x : Int) (O : List Int) : ∀ k, (putI x O k).1.length ≤ k + (if (putI x O k).2 = true then 1 else 0) := by
  have key : ∀ (L N : List Int) (b : Bool), (L.foldl (stI x) (N, b)).1.length + (if b = true then 1 else 0) ≤ N.length + L.length + (if (L.foldl (stI x) (N, b)).2 = true then 1 else 0) := by
    intro L
    induction L with
    | nil => intro N b; cases b <;> simp
    | cons y L ih =>
      intro N b
      rw [List.foldl_cons]
      cases b with
      | true =>
        have := ih (N ++ [y]) true
        rw [show stI x (N, true) y = (N ++ [y], true) from rfl]
        simp at this ⊢; omega
      | false =>
        by_cases h1 : y = x
        · have := ih (N ++ [y]) true
          rw [show stI x (N, false) y = (N ++ [y], true) by simp [stI, h1]]
          simp at this ⊢; omega
        · by_cases h2 : x < y
          · have := ih (N ++ [x] ++ [y]) true
            rw [show stI x (N, false) y = (N ++ [x] ++ [y], true) by simp [stI, h1, h2]]
            simp at this ⊢; omega
          · have := ih (N ++ [y]) false
            rw [show stI x (N, false) y = (N ++ [y], false) by simp [stI, h1, h2]]
            simp at this ⊢; omega
  intro k
  have := key (O.take k) [] false
  unfold putI
  simp at this ⊢
  have : min k O.length ≤ k := Nat.min_le_left _ _
  omega
set_option maxHeartbeats 4000000 in
set_option maxRecDepth 100000 in
theorem rbw_any (l : List En) (low high : Int) (v : Value) (w : World) (h : HsAt w v l) (hl : l.length * 16 + 16 ≤ 140737488355328) :
    Calls Try.prog 16 #[v, .int .i64 low, .int .i64 high] w fun e w' => ∃ u, e = .returned u ∧ Own w' w.heap.size u (bwL low high l) ∧ Below w.heap.size w w' := by
  have HL := Lib.hid h
  obtain ⟨p, c, rfl⟩ := h.form
  obtain ⟨n, hn⟩ : ∃ n, n = l.length := ⟨_, rfl⟩
  have HN := Lib.hid hn
  have hnb : n ≤ 8796093022207 := by omega
  have HNB := Lib.hid hnb
  have HMX : Hid (n ≤ maxLen) := Lib.hid (by unfold maxLen; omega)
  rw [← hn] at HL ⊢
  clear h hl hn hnb
  go_enter Try.func16, Try.ntmps16
  go_wp2_with fail
  go_loopw [7, 8, 9, 10, 11] (fun o i nx pl kk wr => ∃ j : Nat, j ≤ n ∧ i = .int .i64 j ∧ Own wr w.heap.size o (bwL low high (l.take j)) ∧ Below w.heap.size w wr) (fun _ i _ _ _ _ => n - (intOf i).toNat)
  case atStart => exact ⟨0, Nat.zero_le _, rfl, World.ownsRow_nil _ _ _ _, Below.refl _ _⟩
  case round =>
    obtain ⟨j, hj, rfl, ho, hb⟩ := hrel
    have HB := Lib.hid hb
    have HO := Lib.hid ho
    clear ho hb
    obtain ⟨wo, rfl⟩ : ∃ wo : World, wo = wr := ⟨_, rfl⟩
    by_cases hlt : j < n
    · have hjl : j < l.length := by rw [← HN.out]; exact hlt
      have hx : l[j]? = some l[j] := List.getElem?_eq_getElem hjl
      obtain ⟨x, hxe⟩ : ∃ x, x = l[j] := ⟨_, rfl⟩
      rw [← hxe] at hx
      have hcn := bwL_take (low := low) (high := high) hx
      obtain ⟨O, hO⟩ : ∃ O, O = bwL low high (l.take j) := ⟨_, rfl⟩
      have hOl : O.length ≤ j := by rw [hO]; have := (bwL_fact low high (l.take j)).2.2; simp at this; omega
      rw [← hO] at HO hcn
      have HL2 := HL.out.below HB.out
      rcases HL2 with ⟨e0, _⟩ | ⟨g, off, c', e0, hgl, hc⟩
      · rw [e0] at hjl; cases hjl
      · injection e0 with e1 e2 e3
        subst e1; subst e3; clear e2
        have HX : Hid (∀ W, Below wo.heap.size wo W → W.cell? ⟨g, off + j * 2, none⟩ = some (.int .i64 x.1) ∧ W.cell? ⟨g, off + j * 2 + 1, none⟩ = some (.int .i64 x.2)) := Lib.hid (fun W hW => by
          rw [hxe]; exact hc W (hW.block g hgl) j hjl)
        obtain ⟨po, co, rfl⟩ := (Own.at HO.out).form
        obtain ⟨m, hm⟩ : ∃ m, m = O.length := ⟨_, rfl⟩
        have HM := Lib.hid hm
        have hmj : m ≤ j := by omega
        have HMJ := Lib.hid hmj
        have HOE := Lib.hid (Own.at HO.out)
        rw [← hm] at HO HOE ⊢
        have hjn : (j : Int) < (n : Int) := by omega
        have HJN := Lib.hid hlt
        have HMXM : Hid (m ≤ maxLen) := Lib.hid (Nat.le_trans (Nat.le_trans hmj hj) HMX.out)
        obtain ⟨a0, a1⟩ := HX.out wo (Below.refl _ _)
        obtain ⟨xn, xi⟩ := x
        simp only at a0 a1 HX hcn
        clear hx hxe hO hOl hc hm hjl hmj
        by_cases hin : low ≤ xn ∧ xn ≤ high
        · have HCN : Hid (bwL low high (l.take (j + 1)) = insI xi O) := Lib.hid (by rw [hcn, if_pos (by simp [inB, hin])])
          have h1 : ¬ xn < low := by omega
          have h2 : ¬ xn > high := by omega
          clear hcn hin
          go_wp2_with fail
          clear a0 a1 h1 h2
          go_loopw [9, 10, 11] (fun s pl i wr => ∃ k : Nat, k ≤ m ∧ i = .int .i64 k ∧ pl = .bool (putI xi O k).2 ∧ Own wr wo.heap.size s (putI xi O k).1 ∧ Below wo.heap.size wo wr) (fun _ _ i _ => m - (intOf i).toNat)
          case atStart => exact ⟨0, Nat.zero_le _, rfl, rfl, World.ownsRow_nil _ _ _ _, Below.refl _ _⟩
          case round =>
            obtain ⟨k, hk, rfl, rfl, ho, hb⟩ := hrel
            have HB2 := Lib.hid hb
            have HO2 := Lib.hid ho
            clear ho hb
            obtain ⟨wi, rfl⟩ : ∃ wi : World, wi = wr := ⟨_, rfl⟩
            have hpl := putI_len xi O k
            by_cases hlt2 : k < m
            · have hkO : k < O.length := by rw [← HM.out]; exact hlt2
              have hy : O[k]? = some O[k] := List.getElem?_eq_getElem hkO
              obtain ⟨y, hye⟩ : ∃ y, y = O[k] := ⟨_, rfl⟩
              rw [← hye] at hy
              have HNX := Lib.hid (putI_next (x := xi) hy)
              rcases HOE.out with ⟨e0, _⟩ | ⟨g2, off2, c2, e0, hgl2, hc⟩
              · rw [e0] at hkO; cases hkO
              · injection e0 with e1 e2 e3
                subst e1; subst e3; clear e2
                have HY : Hid (∀ W, Below wo.heap.size wo W → W.cell? ⟨g2, off2 + k, none⟩ = some (.int .i64 y)) := Lib.hid (fun W hW => by
                  rw [hye]; exact hc W (hW.block g2 hgl2) k hkO)
                obtain ⟨N, hNe⟩ : ∃ N, N = (putI xi O k).1 := ⟨_, rfl⟩
                obtain ⟨pb, hpb⟩ : ∃ pb, pb = (putI xi O k).2 := ⟨_, rfl⟩
                have HST : Hid (putI xi O k = (N, pb)) := Lib.hid (by rw [hNe, hpb])
                rw [← hNe] at HO2 hpl
                rw [← hpb] at hpl ⊢
                have HBD : Hid ((N.length + 1) * 8 ≤ 140737488355328 ∧ (pb = false → (N.length + 1 + 1) * 8 ≤ 140737488355328)) := Lib.hid (by
                  have h1 := HNB.out; have h2 := HJN.out; have h3 := HMJ.out
                  refine ⟨by split at hpl <;> omega, fun hf => ?_⟩
                  rw [hf] at hpl
                  simp at hpl
                  omega)
                have hkm : (k : Int) < (m : Int) := by omega
                have hkm1 : k + 1 ≤ m := hlt2
                obtain ⟨a0, a1⟩ := HX.out wi HB2.out
                have b0 := HY.out wi HB2.out
                have mixed : Try.prog.follows .mixedOrders = true := by kernel_rfl
                clear hc hgl2 hye hy hkO hNe hpb hpl
                cases pb with
                | true =>
                  have HN2 : Hid (putI xi O (k + 1) = (N ++ [y], true)) := Lib.hid (by rw [HNX.out, HST.out]; rfl)
                  clear HNX HST
                  go_wp2
                  go_quiet (fail)
                  have HB3 := Lib.hid (HB2.out.trans (((Gn.refl wi).drewN nq).below.mono HB2.out.size))
                  have HO3 := Lib.hid (Go.Proofs.Ytioidkbpjkcjeaa.own_below HO2.out ((Gn.refl wi).drewN nq).below)
                  clear a0 a1 b0 HB2 HO2
                  generalize wi.drewN nq = w1 at *
                  go_wp2
                  go_quiet (fail)
                  have HB4 := Lib.hid (HB3.out.trans (((Gn.refl w1).drewN nq).below.mono HB3.out.size))
                  have HO4 := Lib.hid (Go.Proofs.Ytioidkbpjkcjeaa.own_below HO3.out ((Gn.refl w1).drewN nq).below)
                  clear HB3 HO3
                  generalize w1.drewN nq = w2 at *
                  have b0 := HY.out w2 HB4.out
                  obtain ⟨v3, w3, hr3, ho3, hb3⟩ := append_one y HO4.out HBD.out.1 HB4.out.size
                  have HO5 := Lib.hid ho3
                  have HB5 := Lib.hid (HB4.out.trans hb3)
                  clear ho3 hb3 HB4 HO4 HBD
                  go_wp2_with (first | (at_builtin; refine wpList_append_run rfl _ _ _ _ rfl _ _ _ _ rfl rfl hr3 ?_))
                  go_roundw
                  case rel => exact ⟨k + 1, hkm1, by first | rfl | exact congrArg _ (wrap_s HMXM.out hlt2) | go_num, by rw [HN2.out], by rw [HN2.out]; exact HO5.out, HB5.out⟩
                  case measure =>
                    rw [wrap_s HMXM.out hlt2]
                    exact int_less hlt2
                | false =>
                  by_cases h1 : y = xi
                  · have he : (y == xi) = true := by simp [h1]
                    have HN2 : Hid (putI xi O (k + 1) = (N ++ [y], true)) := Lib.hid (by rw [HNX.out, HST.out]; simp [stI, h1])
                    clear h1 HNX HST
                    go_wp2
                    go_quiet (fail)
                    have HB3 := Lib.hid (HB2.out.trans (((Gn.refl wi).drewN nq).below.mono HB2.out.size))
                    have HO3 := Lib.hid (Go.Proofs.Ytioidkbpjkcjeaa.own_below HO2.out ((Gn.refl wi).drewN nq).below)
                    clear a0 a1 b0 HB2 HO2
                    generalize wi.drewN nq = w1 at *
                    go_wp2
                    go_quiet (fail)
                    have HB4 := Lib.hid (HB3.out.trans (((Gn.refl w1).drewN nq).below.mono HB3.out.size))
                    have HO4 := Lib.hid (Go.Proofs.Ytioidkbpjkcjeaa.own_below HO3.out ((Gn.refl w1).drewN nq).below)
                    clear HB3 HO3
                    generalize w1.drewN nq = w2 at *
                    have b0 := HY.out w2 HB4.out
                    obtain ⟨v3, w3, hr3, ho3, hb3⟩ := append_one y HO4.out HBD.out.1 HB4.out.size
                    have HO5 := Lib.hid ho3
                    have HB5 := Lib.hid (HB4.out.trans hb3)
                    clear ho3 hb3 HB4 HO4 HBD
                    go_wp2_with (first | (at_builtin; refine wpList_append_run rfl _ _ _ _ rfl _ _ _ _ rfl rfl hr3 ?_))
                    go_roundw
                    case rel => exact ⟨k + 1, hkm1, by first | rfl | exact congrArg _ (wrap_s HMXM.out hlt2) | go_num, by rw [HN2.out], by rw [HN2.out]; exact HO5.out, HB5.out⟩
                    case measure =>
                      rw [wrap_s HMXM.out hlt2]
                      exact int_less hlt2
                  · have he : (y == xi) = false := by simp [h1]
                    have H1 := Lib.hid h1
                    clear h1
                    go_wp2
                    go_quiet (fail)
                    have HB3 := Lib.hid (HB2.out.trans (((Gn.refl wi).drewN nq).below.mono HB2.out.size))
                    have HO3 := Lib.hid (Go.Proofs.Ytioidkbpjkcjeaa.own_below HO2.out ((Gn.refl wi).drewN nq).below)
                    clear a0 a1 b0 HB2 HO2
                    generalize wi.drewN nq = w1 at *
                    obtain ⟨a0, a1⟩ := HX.out w1 HB3.out
                    have b0 := HY.out w1 HB3.out
                    by_cases h2 : xi < y
                    · have hd : decide (xi < y) = true := decide_eq_true h2
                      have HN2 : Hid (putI xi O (k + 1) = (N ++ [xi] ++ [y], true)) := Lib.hid (by rw [HNX.out, HST.out]; simp [stI, H1.out, h2])
                      clear h2 HNX HST
                      go_wp2_with fail
                      go_quiet (fail)
                      have HB4 := Lib.hid (HB3.out.trans (((Gn.refl w1).drewN nq).below.mono HB3.out.size))
                      have HO4 := Lib.hid (Go.Proofs.Ytioidkbpjkcjeaa.own_below HO3.out ((Gn.refl w1).drewN nq).below)
                      clear a0 a1 b0 HB3 HO3 hd
                      generalize w1.drewN nq = w2 at *
                      obtain ⟨a0, a1⟩ := HX.out w2 HB4.out
                      obtain ⟨v3, w3, hr3, ho3, hb3⟩ := append_one xi HO4.out HBD.out.1 HB4.out.size
                      have HB5 := Lib.hid (HB4.out.trans hb3)
                      have b0 := HY.out w3 HB5.out
                      obtain ⟨v4, w4, hr4, ho4, hb4⟩ := append_one y ho3 (by have := HBD.out.2 (by simp); simpa using this) HB5.out.size
                      have HO6 := Lib.hid ho4
                      have HB6 := Lib.hid (HB5.out.trans hb4)
                      clear ho3 hb3 ho4 hb4 HB4 HO4 HB5 HBD
                      go_wp2_with (first | (at_builtin; refine wpList_append_run rfl _ _ _ _ rfl _ _ _ _ rfl rfl hr3 ?_; clear hr3) | (at_builtin; refine wpList_append_run rfl _ _ _ _ rfl _ _ _ _ rfl rfl hr4 ?_; clear hr4))
                      go_roundw
                      case rel => exact ⟨k + 1, hkm1, by first | rfl | exact congrArg _ (wrap_s HMXM.out hlt2) | go_num, by rw [HN2.out], by rw [HN2.out]; exact HO6.out, HB6.out⟩
                      case measure =>
                        rw [wrap_s HMXM.out hlt2]
                        exact int_less hlt2
                    · have hd : decide (xi < y) = false := decide_eq_false h2
                      have HN2 : Hid (putI xi O (k + 1) = (N ++ [y], false)) := Lib.hid (by rw [HNX.out, HST.out]; simp [stI, H1.out, h2])
                      clear HNX HST
                      go_wp2_with fail
                      go_quiet (fail)
                      have HB4 := Lib.hid (HB3.out.trans (((Gn.refl w1).drewN nq).below.mono HB3.out.size))
                      have HO4 := Lib.hid (Go.Proofs.Ytioidkbpjkcjeaa.own_below HO3.out ((Gn.refl w1).drewN nq).below)
                      clear a0 a1 b0 HB3 HO3 hd h2
                      generalize w1.drewN nq = w2 at *
                      have b0 := HY.out w2 HB4.out
                      obtain ⟨v3, w3, hr3, ho3, hb3⟩ := append_one y HO4.out HBD.out.1 HB4.out.size
                      have HO5 := Lib.hid ho3
                      have HB5 := Lib.hid (HB4.out.trans hb3)
                      clear ho3 hb3 HB4 HO4 HBD
                      go_wp2_with (first | (at_builtin; refine wpList_append_run rfl _ _ _ _ rfl _ _ _ _ rfl rfl hr3 ?_))
                      go_roundw
                      case rel => exact ⟨k + 1, hkm1, by first | rfl | exact congrArg _ (wrap_s HMXM.out hlt2) | go_num, by rw [HN2.out], by rw [HN2.out]; exact HO5.out, HB5.out⟩
                      case measure =>
                        rw [wrap_s HMXM.out hlt2]
                        exact int_less hlt2
            · obtain rfl : k = m := by omega
              have HP := Lib.hid (putI_all xi O)
              obtain ⟨N, hNe⟩ : ∃ N, N = (putI xi O k).1 := ⟨_, rfl⟩
              obtain ⟨pb, hpb⟩ : ∃ pb, pb = (putI xi O k).2 := ⟨_, rfl⟩
              have HST : Hid (finI xi (N, pb) = insI xi O) := Lib.hid (by rw [hNe, hpb, ← HP.out, ← HM.out])
              rw [← hNe] at HO2 hpl
              rw [← hpb] at hpl ⊢
              have HBD : Hid (pb = false → (N.length + 1) * 8 ≤ 140737488355328) := Lib.hid (fun hf => by
                have h1 := HNB.out; have h2 := HJN.out; have h3 := HMJ.out
                rw [hf] at hpl
                simp at hpl
                omega)
              have HBW := Lib.hid (HB.out.trans (HB2.out.mono HB.out.size))
              obtain ⟨a0, a1⟩ := HX.out wi HB2.out
              have hj1 : j + 1 ≤ n := HJN.out
              clear hNe hpb hpl
              cases pb with
              | true =>
                have HR : Hid (N = bwL low high (l.take (j + 1))) := Lib.hid (by rw [HCN.out, ← HST.out]; rfl)
                go_wp2_with fail
                go_roundw
                case rel => exact ⟨j + 1, hj1, by first | rfl | exact congrArg _ (wrap_s HMX.out HJN.out) | go_num, by rw [← HR.out]; exact Go.Joins.ownsRow_le HO2.out HB.out.size, HBW.out⟩
                case measure =>
                  rw [wrap_s HMX.out HJN.out]
                  exact int_less HJN.out
              | false =>
                have HR : Hid (N ++ [xi] = bwL low high (l.take (j + 1))) := Lib.hid (by rw [HCN.out, ← HST.out]; rfl)
                obtain ⟨v3, w3, hr3, ho3, hb3⟩ := append_one xi HO2.out (HBD.out (by simp)) HB2.out.size
                rw [HR.out] at ho3
                have HO3 := Lib.hid (Go.Joins.ownsRow_le ho3 HB.out.size)
                have HB3 := Lib.hid (HB.out.trans ((HB2.out.trans hb3).mono HB.out.size))
                clear ho3 hb3
                go_wp2_with (first | (at_builtin; refine wpList_append_run rfl _ _ _ _ rfl _ _ _ _ rfl rfl hr3 ?_))
                go_roundw
                case rel => exact ⟨j + 1, hj1, by first | rfl | exact congrArg _ (wrap_s HMX.out HJN.out) | go_num, HO3.out, HB3.out⟩
                case measure =>
                  rw [wrap_s HMX.out HJN.out]
                  exact int_less HJN.out
        · have HCN : Hid (bwL low high (l.take (j + 1)) = O) := Lib.hid (by rw [hcn, if_neg (by simp [inB]; omega)])
          have hj1 : j + 1 ≤ n := HJN.out
          clear hcn
          by_cases h1 : xn < low
          · clear hin
            go_wp2_with fail
            go_roundw
            case rel => exact ⟨j + 1, hj1, by first | rfl | exact congrArg _ (wrap_s HMX.out HJN.out) | go_num, by rw [HCN.out]; have := HO.out; rw [HM.out] at this; exact (by rw [HM.out]; exact this), HB.out⟩
            case measure =>
              rw [wrap_s HMX.out HJN.out]
              exact int_less HJN.out
          · have h2 : xn > high := by omega
            clear hin
            go_wp2_with fail
            go_roundw
            case rel => exact ⟨j + 1, hj1, by first | rfl | exact congrArg _ (wrap_s HMX.out HJN.out) | go_num, by rw [HCN.out]; have := HO.out; rw [HM.out] at this; exact (by rw [HM.out]; exact this), HB.out⟩
            case measure =>
              rw [wrap_s HMX.out HJN.out]
              exact int_less HJN.out
    · obtain rfl : j = n := by omega
      have hall : l.take j = l := by rw [HN.out, List.take_length]
      rw [hall] at HO
      clear hall
      go_wp2_with fail
      go_ret
      exact ⟨_, rfl, HO.out, HB.out⟩
theorem seg_take {low high : Int} {l : List En} {k : Nat} {x : En} (h : l[k]? = some x) : (seg low high (l.take (k + 1))).length = (seg low high (l.take k)).length + if inB low high x = true then 1 else 0 := by
  unfold seg
  rw [List.take_add_one, h, List.filter_append, List.length_append]
  congr 1
  show (List.filter (inB low high) [x]).length = _
  by_cases hx : inB low high x = true
  · rw [List.filter_cons_of_pos hx, if_pos hx]; rfl
  · rw [List.filter_cons_of_neg hx, if_neg hx]; rfl
set_option maxHeartbeats 2000000 in
set_option maxRecDepth 100000 in
theorem rcount_any (l : List En) (low high : Int) (v : Value) (w : World) (h : HsAt w v l) (hl : l.length * 16 ≤ 140737488355328) :
    Calls Try.prog 18 #[v, .int .i64 low, .int .i64 high] w fun e w' => e = .returned (.int .i64 (seg low high l).length) ∧ w' = w := by
  have HL := Lib.hid h
  obtain ⟨p, c, rfl⟩ := h.form
  obtain ⟨n, hn⟩ : ∃ n, n = l.length := ⟨_, rfl⟩
  have HN := Lib.hid hn
  have hnb : n ≤ 8796093022208 := by omega
  have HNB := Lib.hid hnb
  have HMX : Hid (n ≤ maxLen) := Lib.hid (by unfold maxLen; omega)
  obtain ⟨r, hr⟩ : ∃ r, r = (seg low high l).length := ⟨_, rfl⟩
  have HR := Lib.hid hr
  rw [← hn] at HL ⊢
  rw [← hr]
  clear h hl hn hnb hr
  go_enter Try.func18, Try.ntmps18
  go_wp2_with fail
  go_loop [7, 8] (fun s i => ∃ j q : Nat, j ≤ n ∧ i = .int .i64 j ∧ s = .int .i64 q ∧ Hid (q = (seg low high (l.take j)).length ∧ q ≤ j)) (fun _ i => n - (intOf i).toNat)
  case atStart => exact ⟨0, 0, Nat.zero_le _, rfl, rfl, Lib.hid ⟨rfl, Nat.le_refl _⟩⟩
  case round =>
    obtain ⟨j, q, hj, rfl, rfl, HQ⟩ := hrel
    by_cases hlt : j < n
    · have hjl : j < l.length := by rw [← HN.out]; exact hlt
      have hx : l[j]? = some l[j] := List.getElem?_eq_getElem hjl
      obtain ⟨x, hxe⟩ : ∃ x, x = l[j] := ⟨_, rfl⟩
      rw [← hxe] at hx
      have hst := seg_take (low := low) (high := high) hx
      rcases HL.out with ⟨e0, _⟩ | ⟨g, off, c', e0, hgl, hc⟩
      · rw [e0] at hjl; cases hjl
      · injection e0 with e1 e2 e3
        subst e1; subst e3; clear e2
        obtain ⟨a0, a1⟩ := hc w rfl j hjl
        rw [← hxe] at a0 a1
        obtain ⟨xn, xi⟩ := x
        simp only at a0 a1
        have hjn : (j : Int) < (n : Int) := by omega
        have hj1 : j + 1 ≤ n := hlt
        have HLT := Lib.hid hlt
        by_cases hin : low ≤ xn ∧ xn ≤ high
        · have HQ2 : Hid (q + 1 = (seg low high (l.take (j + 1))).length ∧ q + 1 ≤ j + 1) := Lib.hid ⟨by rw [hst, if_pos (by simp [inB, hin]), ← HQ.out.1], by have := HQ.out.2; omega⟩
          have h1 : xn ≥ low := hin.1
          have h2 : xn ≤ high := hin.2
          have hqw : wrap64 ((q : Int) + 1) = ((q + 1 : Nat) : Int) := wrap_s (n := n) HMX.out (by have := HQ.out.2; omega)
          clear hc hx hxe hst hjl hin HQ
          go_wp2_with fail
          go_round
          case rel => exact ⟨j + 1, q + 1, hj1, by first | rfl | exact congrArg _ (wrap_s HMX.out HLT.out) | go_num, by first | rfl | exact congrArg _ hqw | go_num, HQ2⟩
          case measure =>
            rw [wrap_s HMX.out HLT.out]
            exact int_less HLT.out
        · have HQ2 : Hid (q = (seg low high (l.take (j + 1))).length ∧ q ≤ j + 1) := Lib.hid ⟨by rw [hst, if_neg (by simp [inB]; omega), ← HQ.out.1]; rfl, by have := HQ.out.2; omega⟩
          by_cases h1 : xn ≥ low
          · have h2 : ¬ xn ≤ high := fun h => hin ⟨h1, h⟩
            clear hc hx hxe hst hjl hin HQ
            go_wp2_with fail
            go_round
            case rel => exact ⟨j + 1, q, hj1, by first | rfl | exact congrArg _ (wrap_s HMX.out HLT.out) | go_num, rfl, HQ2⟩
            case measure =>
              rw [wrap_s HMX.out HLT.out]
              exact int_less HLT.out
          · clear hc hx hxe hst hjl hin HQ
            go_wp2_with fail
            go_round
            case rel => exact ⟨j + 1, q, hj1, by first | rfl | exact congrArg _ (wrap_s HMX.out HLT.out) | go_num, rfl, HQ2⟩
            case measure =>
              rw [wrap_s HMX.out HLT.out]
              exact int_less HLT.out
    · obtain rfl : j = n := by omega
      have HE : Hid (q = r) := Lib.hid (by rw [HR.out, HQ.out.1, HN.out, List.take_length])
      go_wp2_with fail
      go_ret
      exact ⟨by rw [HE.out]; rfl, rfl⟩
end Rn
end Go.Proofs.Ytioidkbpjkcjeaa
