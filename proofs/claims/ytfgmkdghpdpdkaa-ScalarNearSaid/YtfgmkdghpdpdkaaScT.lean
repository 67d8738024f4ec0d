/- The walk of ScalarNear. Conditions: those that each theorem names. -/
import Derived.Test.YtfgmkdghpdpdkaaScS
import Derived.Test.YtfgmkdghpdpdkaaScL
namespace Go.Proofs.Ytfgmkdghpdpdkaa
set_option linter.unusedVariables false
open Go Go.RowKit Go.Shelf Go.Sort Vc Rk
namespace Sc
/-- What a row's code tells of it, place by place. -/
theorem near_row {M : List (List Int)} (h : rowsB M = true) {u : List Int} (hu : u ∈ M) {n : Nat} (hn : n = (trainLo M).length) :
    u.length = n ∧ okR n u = true ∧ encQ (trainLo M) (trainHi M) u = (encL (spansL (trainLo M) (trainHi M)) u, 0) ∧ decQ (trainLo M) (trainHi M) (encL (spansL (trainLo M) (trainHi M)) u) = (leftL (spansL (trainLo M) (trainHi M)) u, 0) ∧
    (leftL (spansL (trainLo M) (trainHi M)) u).length = n ∧ (errL (spansL (trainLo M) (trainHi M))).length = n ∧
    ∀ k, k < n → ∃ d x o : Int, (leftL (spansL (trainLo M) (trainHi M)) u)[k]? = some d ∧ u[k]? = some x ∧ (errL (spansL (trainLo M) (trainHi M)))[k]? = some o ∧ d - x ≤ o ∧ x - d ≤ o ∧ (-32768 ≤ d ∧ d ≤ 32767) ∧ (-32768 ≤ x ∧ x ≤ 32767) := by
  obtain ⟨hm, hl1, hl2, hb⟩ := train_may h
  obtain ⟨r, R, rfl, hvr, hall⟩ := rows_of h
  obtain ⟨hvu, hul⟩ := hall u hu
  have hrn : r.length = n := by rw [hn, hl1]; rfl
  have hun : u.length = n := by rw [hul, hrn]
  obtain ⟨hv1, hv2, hlen, _⟩ := may_of hm
  have hs := spans_len hlen
  have hok := ok_of hm
  have ho : okR n u = true := by unfold okR; rw [hvu, hun]; simp
  have hsu : (spansL (trainLo (r :: R)) (trainHi (r :: R))).length = u.length := by rw [hs, hun, hn]
  refine ⟨hun, ho, ?_, ?_, by rw [left_len hsu, hs, ← hn], by simp only [errL, List.length_map]; rw [hs, ← hn], fun k hk => ?_⟩
  · unfold encQ; rw [hm, ← hn, ho]; rfl
  · unfold decQ; rw [hm, if_pos rfl, if_pos (by rw [enc_len hsu, hs])]; rfl
  · have hku : k < u.length := by omega
    have hkS : k < (spansL (trainLo (r :: R)) (trainHi (r :: R))).length := by omega
    have hx : u[k]? = some u[k] := List.getElem?_eq_getElem hku
    have hS : (spansL (trainLo (r :: R)) (trainHi (r :: R)))[k]? = some (spansL (trainLo (r :: R)) (trainHi (r :: R)))[k] := List.getElem?_eq_getElem hkS
    have hmem := hok _ (List.getElem_mem hkS)
    have hbk := hb u hu k hku
    rw [getElem!_pos u k hku, getElem!_pos (trainLo (r :: R)) k (by omega), getElem!_pos (trainHi (r :: R)) k (by omega)] at hbk
    have hsp : (spansL (trainLo (r :: R)) (trainHi (r :: R)))[k] = ((trainLo (r :: R))[k]'(by omega), (trainHi (r :: R))[k]'(by omega)) := spans_at hlen k (by omega)
    have hxb := vec_in hvu u[k] (List.getElem_mem hku)
    generalize (spansL (trainLo (r :: R)) (trainHi (r :: R)))[k] = s at *
    have h1 : s.1 ≤ u[k] := by rw [hsp]; exact hbk.1
    have h2 : u[k] ≤ s.2 := by rw [hsp]; exact hbk.2
    have hn' := near hmem h1 h2
    have hcb := code_bd hmem u[k]
    have hvb := value_bd hmem hcb.1 hcb.2
    have hcu := codeU_is hmem u[k]
    have hd : (leftL (spansL (trainLo (r :: R)) (trainHi (r :: R))) u)[k]? = some (valueI s (codeI s u[k])) := by
      unfold leftL
      rw [dec_at hS (enc_at hS hx)]
      unfold valueU
      rw [hcu]
    refine ⟨_, _, _, hd, hx, by simp [errL, hS], hn'.1, hn'.2, ?_, hxb⟩
    obtain ⟨a1, a2, a3⟩ := hmem
    omega
theorem nums_cell {w : World} {p : Option Addr} {n c : Nat} {L : List Int} (h : IntsAt w (.slice p n c) L) {k : Nat} {x : Int} (hx : L[k]? = some x) : ∃ b off, p = some ⟨b, off, none⟩ ∧ ∀ wr, Below w.heap.size w wr → wr.cell? ⟨b, off + k, none⟩ = some (.int .i64 x) := by
  obtain ⟨p', c', e, hr⟩ := ints_row h
  obtain ⟨b, off, f, _, y⟩ := hr k x hx
  have e1 : p = p' := by injection e
  exact ⟨b, off, e1.trans f, y⟩
theorem enc_small {S : List Sp} {u : List Int} : (encL S u).length = min S.length u.length := by simp [encL]
abbrev NS (q bb off k : Nat) (u v z : Value) (wo X : World) : Prop := X.cell? ⟨q, 0, none⟩ = some u ∧ X.cell? ⟨q, 1, none⟩ = some v ∧ X.cell? ⟨bb, off + k, none⟩ = some z ∧ Below wo.heap.size wo X
set_option maxHeartbeats 16000000 in
set_option maxRecDepth 100000 in
theorem near_walk (v : Value) (M : List (List Int)) (w : World) (wf : RowsIn w v M) :
    Calls Try.prog 5 #[v] w fun e w' => e = .returned (.bool true) ∧ Below w.heap.size w w' := by
  obtain ⟨hR, hm, hl⟩ := wf
  have C1 := Lib.hid (train_any M v w hR hl hm)
  have C2 : Hid (∀ W, Below w.heap.size w W → Calls Try.prog 18 #[v] W fun e w' => e = .returned (.bool (rowsB M)) ∧ Below W.heap.size W w') := Lib.hid (fun W hW => rows_any M v W (hR.below hW) hl hm)
  have AW := Lib.hid awake_yes
  have HROW := Lib.hid hR
  have HL := Lib.hid hl
  have HM := Lib.hid hm
  obtain ⟨p, c, rfl, _, _⟩ := hR
  have HROW2 : Hid (RowsAt w (.slice p M.length c) M) := HROW
  clear HROW hl
  cases hB : rowsB M with
  | false =>
    rw [hB] at C1 C2
    clear hm
    go_enter Try.func5, Try.ntmps5
    go_wp2_with fail
    with_reducible refine C1.out.mono ?_
    rintro e w1 ⟨a, b, rfl, ha, hb, hb1⟩
    obtain ⟨pa, na, ca, ea⟩ : ∃ p n c, a = .slice p n c := by
      obtain ⟨p, c, e⟩ := (ownN_own ha).at.form
      exact ⟨p, _, c, e⟩
    obtain ⟨pb, nb, cb, eb⟩ : ∃ p n c, b = .slice p n c := by
      obtain ⟨p, c, e⟩ := (ownN_own hb).at.form
      exact ⟨p, _, c, e⟩
    subst ea; subst eb
    have H1 := Lib.hid hb1
    clear ha hb hb1 C1
    go_upto_region 2 with fail
    have hb2 := H1.out.alloc H1.out.size (.cells #[.slice pa na ca, .slice pb nb cb] 25)
    have C3 := Lib.hid (C2.out _ hb2)
    have H2 := Lib.hid hb2
    clear hb2 C2
    go_wp2_with fail
    with_reducible refine C3.out.mono ?_
    rintro e w3 ⟨rfl, hb3⟩
    have H3 := Lib.hid (H2.out.trans (hb3.mono H2.out.size))
    clear hb3 C3
    go_wp2_with fail
    with_reducible refine (AW.out _).mono ?_
    rintro e w4 ⟨rfl, hb4⟩
    have H4 := Lib.hid (H3.out.trans (hb4.mono H3.out.size))
    clear hb4
    go_wp2_with fail
    go_ret
    exact ⟨rfl, H4.out⟩
  | true =>
    rw [hB] at C1
    clear C2
    obtain ⟨lo, hlo⟩ : ∃ lo, lo = trainLo M := ⟨_, rfl⟩
    obtain ⟨hi, hhi⟩ : ∃ hi, hi = trainHi M := ⟨_, rfl⟩
    obtain ⟨n, hn⟩ : ∃ n, n = lo.length := ⟨_, rfl⟩
    have hmay := (train_may hB).1
    have HNE : Hid (∀ u, u ∈ M → u.length = n ∧ okR n u = true ∧ encQ lo hi u = (encL (spansL lo hi) u, 0) ∧ decQ lo hi (encL (spansL lo hi) u) = (leftL (spansL lo hi) u, 0) ∧ (leftL (spansL lo hi) u).length = n ∧ (errL (spansL lo hi)).length = n ∧
      ∀ k, k < n → ∃ d x o : Int, (leftL (spansL lo hi) u)[k]? = some d ∧ u[k]? = some x ∧ (errL (spansL lo hi))[k]? = some o ∧ d - x ≤ o ∧ x - d ≤ o ∧ (-32768 ≤ d ∧ d ≤ 32767) ∧ (-32768 ≤ x ∧ x ≤ 32767)) := Lib.hid (fun u hu => by
        rw [hlo, hhi]
        exact near_row hB hu (by rw [hn, hlo]))
    rw [← hlo, ← hhi] at C1 hmay
    obtain ⟨hv1, _, hlen, _⟩ := may_of hmay
    have hlm := vec_len hv1
    have HMAY := Lib.hid (And.intro hmay (And.intro hlm (show hi.length ≤ maxLen by omega)))
    have HNLO := Lib.hid hn
    have HN64 : Hid (n ≤ 64) := Lib.hid (by rw [hn]; exact (parts_of hv1).2.1)
    obtain ⟨u0, hu0⟩ : ∃ u0, u0 ∈ M := by
      obtain ⟨r, R, e, _⟩ := rows_of hB
      exact ⟨r, by rw [e]; simp⟩
    have HU0 : Hid ((errL (spansL lo hi)).length = n) := Lib.hid (HNE.out u0 hu0).2.2.2.2.2.1
    clear hu0
    obtain ⟨m, hmm⟩ : ∃ m, m = M.length := ⟨_, rfl⟩
    have HMM := Lib.hid hmm
    have HM8 : Hid (m ≤ maxLen) := Lib.hid (by rw [hmm]; exact hm)
    rw [← hmm] at HROW2 C1 ⊢
    clear hm hmay hlen hlm hv1 hB hlo hhi hn hmm HM
    go_enter Try.func5, Try.ntmps5
    go_wp2_with fail
    with_reducible refine C1.out.mono ?_
    rintro e w1 ⟨a, b, rfl, ha, hb, hb1⟩
    simp only [if_true] at ha hb ⊢
    have hia := (ownN_own ha).at
    have hib := (ownN_own hb).at
    obtain ⟨pa, ca, ea⟩ := hia.form
    obtain ⟨pb, cb, eb⟩ := hib.form
    obtain ⟨na, hna⟩ : ∃ na, na = lo.length := ⟨_, rfl⟩
    obtain ⟨nb, hnb⟩ : ∃ nb, nb = hi.length := ⟨_, rfl⟩
    rw [← hna] at ea
    rw [← hnb] at eb
    subst ea; subst eb
    have H1 := Lib.hid hb1
    clear ha hb hb1 C1 hna hnb
    go_upto_region 2 with fail
    obtain ⟨W2, hW2⟩ : ∃ W2, W2 = w1.alloc (.cells #[.slice pa na ca, .slice pb nb cb] 25) := ⟨_, rfl⟩
    have hb2 : Below w1.heap.size w1 W2 := by rw [hW2]; exact fresh_alloc _ _
    have hq : W2.heap[w1.heap.size]? = some (.cells #[.slice pa na ca, .slice pb nb cb] 25) := by rw [hW2]; exact heap_last _ _
    have HA2 := Lib.hid (hia.below hb2)
    have HI2 := Lib.hid (hib.below hb2)
    have H2 := Lib.hid (H1.out.trans (hb2.mono H1.out.size))
    have HQ : Hid (∀ W, Below W2.heap.size W2 W → W.cell? ⟨w1.heap.size, 0, none⟩ = some (.slice pa na ca) ∧ W.cell? ⟨w1.heap.size, 1, none⟩ = some (.slice pb nb cb)) := Lib.hid (fun W hW => by
      have g1 := (hW.block _ (lt_of_block hq)).trans hq
      exact ⟨by rw [Lib.cell_of_heap g1]; rfl, by rw [Lib.cell_of_heap g1]; rfl⟩)
    have C3 := error_any lo hi (.slice pa na ca) (.slice pb nb cb) W2 HA2.out HI2.out HMAY.out.2.1 HMAY.out.2.2
    rw [if_pos HMAY.out.1] at C3
    have C3 := Lib.hid C3
    rw [← hW2]
    clear hW2 hia hib hb2 hq
    generalize w1.heap.size = q at *
    obtain ⟨x0, x1⟩ := HQ.out W2 (Below.refl _ _)
    go_wp2_with fail
    with_reducible refine C3.out.mono ?_
    rintro e w3 ⟨r3, rfl, ho3, hb3⟩
    have hi3 := (ownN_own ho3).at
    have H3 := Lib.hid hb3
    obtain ⟨p3, c3, e3⟩ := hi3.form
    rw [HU0.out] at e3
    subst e3
    have HI3 := Lib.hid hi3
    have HS2 := Lib.hid H2.out.size
    have HW3 := Lib.hid (H2.out.trans (hb3.mono H2.out.size))
    have HQ3 : Hid (∀ W, Below w3.heap.size w3 W → W.cell? ⟨q, 0, none⟩ = some (.slice pa na ca) ∧ W.cell? ⟨q, 1, none⟩ = some (.slice pb nb cb)) := Lib.hid (fun W hW => HQ.out W (H3.out.trans (hW.mono H3.out.size)))
    have HA3 := Lib.hid (HA2.out.below hb3)
    have HIB3 := Lib.hid (HI2.out.below hb3)
    clear hi3 hb3 ho3 C3 x0 x1 HA2 HI2 HQ
    have hm9 : (m : Int) ≤ 9223372036854775807 := by have := HM8.out; unfold maxLen at this; omega
    go_wp2_with fail
    go_loopw [6] (fun i wr => ∃ k : Nat, k ≤ m ∧ i = .int .i64 k ∧ Below w3.heap.size w3 wr) (fun i _ => m - (intOf i).toNat)
    case atStart => exact ⟨0, Nat.zero_le _, rfl, Below.refl _ _⟩
    case round =>
      obtain ⟨k, hk, rfl, hbw⟩ := hrel
      obtain ⟨wo, rfl⟩ : ∃ wo : World, wo = wr := ⟨_, rfl⟩
      have HBW := Lib.hid hbw
      have HWO := Lib.hid (HW3.out.trans (hbw.mono HW3.out.size))
      obtain ⟨x0, x1⟩ := HQ3.out wo hbw
      by_cases hlt : k < m
      · obtain ⟨u, hu⟩ : ∃ u, M[k]? = some u := ⟨_, List.getElem?_eq_getElem (by rw [← HMM.out]; exact hlt)⟩
        obtain ⟨bb, off, pk, ck, rfl, _, hcl, hiu⟩ := rows_cell HROW2.out hu
        obtain ⟨hul, hokr, hen, hde, hll, _, hnear⟩ := HNE.out u (List.mem_of_getElem? hu)
        rw [hul] at hcl hiu
        have HCL := Lib.hid hcl
        have HIU := Lib.hid hiu
        have HNEAR := Lib.hid hnear
        have HDE := Lib.hid hde
        have HLL := Lib.hid hll
        have HUL := Lib.hid hul
        have HLT := Lib.hid hlt
        have hul9 : u.length ≤ maxLen := HL.out u (List.mem_of_getElem? hu)
        have CE : Hid (∀ W, Below wo.heap.size wo W → Calls Try.prog 11 #[.agg #[.slice pa na ca, .slice pb nb cb], .slice pk n ck] W fun e w' => e = .returned (.tuple #[.string (tx (encL (spansL lo hi) u)), .int .i64 0]) ∧ Below W.heap.size W w') := Lib.hid (fun W hW => by
          have h := Encode_any lo hi u _ _ (.slice pk n ck) W ((HA3.out.below hbw).below hW) ((HIB3.out.below hbw).below hW) (hiu.below (HWO.out.trans (hW.mono HWO.out.size))) HMAY.out.2.1 HMAY.out.2.2 hul9
          rw [hen] at h
          exact h)
        have hli := hcl wo HWO.out
        have mixed : Try.prog.follows .mixedOrders = true := by kernel_rfl
        have K0 : wo.drew.cell? ⟨q, 0, none⟩ = some (.slice pa na ca) ∧ wo.drew.cell? ⟨q, 1, none⟩ = some (.slice pb nb cb) ∧ wo.drew.cell? ⟨bb, off + k, none⟩ = some (.slice pk n ck) ∧ Below wo.heap.size wo wo.drew := ⟨x0, x1, hli, (Below.refl _ _).drew⟩
        have ALL : ∀ {x y : World}, (x.cell? ⟨q, 0, none⟩ = some (.slice pa na ca) ∧ x.cell? ⟨q, 1, none⟩ = some (.slice pb nb cb) ∧ x.cell? ⟨bb, off + k, none⟩ = some (.slice pk n ck) ∧ Below wo.heap.size wo x) → Below x.heap.size x y → y.cell? ⟨q, 0, none⟩ = some (.slice pa na ca) ∧ y.cell? ⟨q, 1, none⟩ = some (.slice pb nb cb) ∧ y.cell? ⟨bb, off + k, none⟩ = some (.slice pk n ck) ∧ Below wo.heap.size wo y := fun h g => by
          have hb := h.2.2.2.trans (g.mono h.2.2.2.size)
          have hk := HQ3.out _ (HBW.out.trans (hb.mono HBW.out.size))
          exact ⟨hk.1, hk.2, HCL.out _ (HWO.out.trans (hb.mono HWO.out.size)), hb⟩
        clear hcl hiu hnear hde hll hul hokr hen hu hul9 hbw
        go_wp2_with fail
        go_region_held3 (fun X => X.cell? ⟨q, 0, none⟩ = some (.slice pa na ca) ∧ X.cell? ⟨q, 1, none⟩ = some (.slice pb nb cb) ∧ X.cell? ⟨bb, off + k, none⟩ = some (.slice pk n ck) ∧ Below wo.heap.size wo X)
          (first | assumption | exact ALL (by assumption) hb | exact ALL ⟨by assumption, by assumption, by assumption, by assumption⟩ hb | go_keep)
          (first
            | (go_at_call 11; refine (CE.out _ (by first | assumption | exact (show NS q bb off k (.slice pa na ca) (.slice pb nb cb) (.slice pk n ck) wo _ by assumption).2.2.2)).mono ?_; rintro e w5 ⟨rfl, hb⟩))
        have hns : NS q bb off k (.slice pa na ca) (.slice pb nb cb) (.slice pk n ck) wo w5 := by first | assumption | exact ⟨by assumption, by assumption, by assumption, by assumption⟩
        obtain ⟨x0, x1, hli, hb5⟩ := hns
        have hw35 := HBW.out.trans (hb5.mono HBW.out.size)
        have H35 := Lib.hid hw35
        have HW5 := Lib.hid (HW3.out.trans (hw35.mono HW3.out.size))
        have C5 := Decode_any lo hi (encL (spansL lo hi) u) _ _ w5 (HA3.out.below hw35) (HIB3.out.below hw35) HMAY.out.2.1 HMAY.out.2.2 (by
          rw [enc_small, HUL.out]
          have := HN64.out
          unfold maxLen; omega)
        rw [HDE.out] at C5
        have C5 := Lib.hid C5
        clear K0 ALL hb5 hw35 CE
        generalize tx (encL (spansL lo hi) u) = te at *
        go_wp2_with fail
        with_reducible refine C5.out.mono ?_
        rintro e w6 ⟨r6, rfl, ho6, hb6⟩
        have hi6 := (ownN_own ho6).at
        obtain ⟨p6, c6, e6⟩ := hi6.form
        rw [HLL.out] at e6
        subst e6
        have HI6 := Lib.hid hi6
        have h36 := H35.out.trans (hb6.mono H35.out.size)
        have H36 := Lib.hid h36
        have HW6 := Lib.hid (HW5.out.trans (hb6.mono HW5.out.size))
        have hli6 := HCL.out w6 HW6.out
        have hnn : ((n : Int) == (n : Int)) = true := beq_self_eq_true _
        clear ho6 hb6 hi6 h36 C5 x0 x1 hli
        go_wp2_with fail
        have hn9 : (n : Int) ≤ 64 := by have := HN64.out; omega
        go_loopw [11] (fun i wr => ∃ j : Nat, j ≤ n ∧ i = .int .i64 j ∧ Below w6.heap.size w6 wr) (fun i _ => n - (intOf i).toNat)
        case atStart => exact ⟨0, Nat.zero_le _, rfl, Below.refl _ _⟩
        case round =>
          obtain ⟨j, hj, rfl, hbj⟩ := hrel
          obtain ⟨wj, rfl⟩ : ∃ wj : World, wj = wr := ⟨_, rfl⟩
          have HBJ := Lib.hid hbj
          have HWJ := Lib.hid (HW6.out.trans (hbj.mono HW6.out.size))
          have H3J := Lib.hid (H36.out.trans (hbj.mono H36.out.size))
          by_cases hlj : j < n
          · obtain ⟨d, x, o, hd, hx, ho, hdx, hxd, hdb, hxb⟩ := HNEAR.out j hlj
            obtain ⟨g1, o1, f1, y1⟩ := nums_cell HI6.out hd
            obtain ⟨g2, o2, f2, y2⟩ := nums_cell HIU.out hx
            obtain ⟨g3, o3, f3, y3⟩ := nums_cell HI3.out ho
            subst f1; subst f2; subst f3
            have z1 := y1 wj hbj
            have z2 := y2 wj HWJ.out
            have z3 := y3 wj H3J.out
            have z4 := HCL.out wj HWJ.out
            have HJLT := Lib.hid hlj
            have hji : (j : Int) < (n : Int) := by omega
            have hki : (k : Int) < (m : Int) := by have := HLT.out; omega
            have w1' : wrap64 (d - x) = d - x := wrap_in _ (by omega)
            have w2' : wrap64 (x - d) = x - d := wrap_in _ (by omega)
            have w3' : IntKind.i64.wrap (d - x) = d - x := kw_in _ (by omega)
            have w4' : IntKind.i64.wrap (x - d) = x - d := kw_in _ (by omega)
            have i1 : decide (o < d - x) = false := decide_eq_false (by omega)
            have i2 : decide (o < x - d) = false := decide_eq_false (by omega)
            clear hd hx ho hdx hxd hdb hxb y1 y2 y3 hbj
            go_wp2_with fail
            go_quiet (fail)
            go_wp2_with fail
            go_roundw
            case rel => exact ⟨j + 1, HJLT.out, by first | rfl | go_num, below_drewN HBJ.out _⟩
            case measure => have := HJLT.out; simp only [intOf]; omega
          · have hbk : Below w3.heap.size w3 wj := H3J.out
            have HBK := Lib.hid hbk
            clear hbj hbk
            go_wp2_with fail
            go_roundw
            case rel => exact ⟨k + 1, HLT.out, by first | rfl | go_num, HBK.out⟩
            case measure => have := HLT.out; simp only [intOf]; omega
      · clear hbw x0 x1
        go_wp2_with fail
        with_reducible refine (AW.out _).mono ?_
        rintro e w9 ⟨rfl, hb9⟩
        have HF := Lib.hid (HWO.out.trans (hb9.mono HWO.out.size))
        clear hb9
        go_wp2_with fail
        go_ret
        exact ⟨rfl, HF.out⟩
end Sc
end Go.Proofs.Ytfgmkdghpdpdkaa
