/- The document's own Same. Conditions: those that each theorem names. -/
import Derived.Test.YtfppemgagifmpaaDoorPlSo
import Derived.Deep.RegionHeld3
import Derived.Deep.QuietTactic
namespace Go.Proofs.YtfppemgagifmpaaDoor
set_option linter.unusedVariables false
open Go Go.RowKit Go.Shelf Pl
theorem ints_cell {w : World} {p : Option Addr} {n c : Nat} {L : List Int} (h : IntsAt w (.slice p n c) L) {j : Nat} (hj : j < L.length) :
    ∃ g off, p = some ⟨g, off, none⟩ ∧ ∀ W, Below w.heap.size w W → W.cell? ⟨g, off + j, none⟩ = some (.int .i64 L[j]) := by
  rcases h with ⟨rfl, _⟩ | ⟨g, off, c2, hs, hg, hc⟩
  · cases hj
  · injection hs with e1 e2 e3
    exact ⟨g, off, e1, fun W hW => hc W (hW.block g hg) j hj⟩
theorem flds_cell {w : World} {p : Option Addr} {n c : Nat} {L : List Fld} (h : FldsAt w (.slice p n c) L) {j : Nat} (hj : j < L.length) :
    ∃ g off, p = some ⟨g, off, none⟩ ∧ ∀ W, Below w.heap.size w W → W.cell? ⟨g, off + j * 4, none⟩ = some (.string (L[j]).name) ∧ W.cell? ⟨g, off + j * 4 + 1, none⟩ = some (.int .i64 (L[j]).val.kind) ∧
      W.cell? ⟨g, off + j * 4 + 2, none⟩ = some (.int .i64 (L[j]).val.n) ∧ W.cell? ⟨g, off + j * 4 + 3, none⟩ = some (.string (L[j]).val.text) := by
  rcases h with ⟨rfl, _⟩ | ⟨g, off, c2, hs, hg, hc⟩
  · cases hj
  · injection hs with e1 e2 e3
    exact ⟨g, off, e1, fun W hW => hc W (hW.block g hg) j hj⟩
theorem drewB {w x : World} (h : Below w.heap.size w x) (n : Nat) : Below w.heap.size w (x.drewN n) := h.trans ⟨rfl, rfl, rfl, Nat.le_refl _, fun _ _ => rfl⟩
theorem vec_eq {x y : Vec} (h1 : x.name = y.name) (h2 : x.v = y.v) : x = y := by
  cases x; cases y; simp only at h1 h2; rw [h1, h2]
theorem notsame_at {a b : Pt} {R : Bool} {k : Nat} {x y : Vec} (h : R = ((a.id == b.id) && (isB (a.vecs = b.vecs) && isB (a.flds = b.flds)))) (hx : a.vecs[k]? = some x) (hy : b.vecs[k]? = some y) (hne : x ≠ y) : R = false := by
  rw [h, isB_no (fun e : a.vecs = b.vecs => by rw [e, hy] at hx; exact hne (Option.some.inj hx).symm)]
  simp
set_option maxHeartbeats 4000000 in
set_option maxRecDepth 100000 in
theorem rsame_any (a b : Pt) (u v x y : Value) (w : World) (hu : VecsAt w u a.vecs) (hv : VecsAt w v b.vecs) (hx : FldsAt w x a.flds) (hy : FldsAt w y b.flds) (oa : VecsOk a.vecs) (ob : VecsOk b.vecs) (fa : FldsOk a.flds) (fb : FldsOk b.flds) :
    Calls Tryd.prog 10 #[.agg #[.int .i64 a.id, u, x], .agg #[.int .i64 b.id, v, y]] w fun e w' => e = .returned (.bool (isB (a = b))) ∧ Below w.heap.size w w' := by
  obtain ⟨R, hR⟩ : ∃ R, R = isB (a = b) := ⟨_, rfl⟩
  rw [← hR]
  rw [isB_pt] at hR
  have HR := Lib.hid hR
  have HU := Lib.hid hu
  have HV := Lib.hid hv
  have HX := Lib.hid hx
  have HY := Lib.hid hy
  have OA := Lib.hid oa
  have OB := Lib.hid ob
  have FA := Lib.hid fa
  have FB := Lib.hid fb
  obtain ⟨p1, c1, rfl⟩ := hu.form
  obtain ⟨p2, c2, rfl⟩ := hv.form
  obtain ⟨p3, c3, rfl⟩ := hx.form
  obtain ⟨p4, c4, rfl⟩ := hy.form
  clear hu hv hx hy oa ob fa fb hR
  have hi : ∃ i, i = a.id := ⟨_, rfl⟩
  have hj : ∃ i, i = b.id := ⟨_, rfl⟩
  have hn1 : ∃ n, n = a.vecs.length := ⟨_, rfl⟩
  have hn2 : ∃ n, n = b.vecs.length := ⟨_, rfl⟩
  have hn3 : ∃ n, n = a.flds.length := ⟨_, rfl⟩
  have hn4 : ∃ n, n = b.flds.length := ⟨_, rfl⟩
  obtain ⟨i, hi⟩ := hi
  obtain ⟨j, hj⟩ := hj
  obtain ⟨n1, hn1⟩ := hn1
  obtain ⟨n2, hn2⟩ := hn2
  obtain ⟨n3, hn3⟩ := hn3
  obtain ⟨n4, hn4⟩ := hn4
  rw [← hn1] at HU
  rw [← hn2] at HV
  rw [← hn3] at HX
  rw [← hn4] at HY
  rw [← hi, ← hj, ← hn1, ← hn2, ← hn3, ← hn4]
  have HI := Lib.hid hi
  have HJ := Lib.hid hj
  have N1 := Lib.hid hn1
  have N2 := Lib.hid hn2
  have N3 := Lib.hid hn3
  have N4 := Lib.hid hn4
  clear hi hj hn1 hn2 hn3 hn4
  obtain ⟨⟨a0, a1, a2⟩, ⟨b0, b1, b2⟩, hbe⟩ := three_boxes w (.int .i64 i) (.slice p1 n1 c1) (.slice p3 n3 c3) (.int .i64 j) (.slice p2 n2 c2) (.slice p4 n4 c4) 29
  have HB := Lib.hid hbe
  have hsz : w.heap.size + 2 ≤ ((w.alloc (.cells #[.int .i64 i, .slice p1 n1 c1, .slice p3 n3 c3] 29)).alloc (.cells #[.int .i64 j, .slice p2 n2 c2, .slice p4 n4 c4] 29)).heap.size := by simp
  have HSZ := Lib.hid hsz
  clear hbe hsz
  go_enter Tryd.func10, Tryd.ntmps10
  by_cases hij : i = j
  · by_cases hl1 : n1 = n2
    · by_cases hl2 : n3 = n4
      · subst hij hl1 hl2
        go_wp2_with fail
        generalize (w.alloc (.cells #[.int .i64 i, .slice p1 n1 c1, .slice p3 n3 c3] 29)).alloc (.cells #[.int .i64 i, .slice p2 n1 c2, .slice p4 n3 c4] 29) = W0 at *
        have LT : ∀ g, g ≤ w.heap.size + 1 → g < W0.heap.size := fun g h => by have := HSZ.out; omega
        have A1 := Lib.hid (fun X (h : Below W0.heap.size W0 X) => box_later (w := w) a1 h (LT _ (by omega)))
        have A2 := Lib.hid (fun X (h : Below W0.heap.size W0 X) => box_later (w := w) a2 h (LT _ (by omega)))
        have B1 := Lib.hid (fun X (h : Below W0.heap.size W0 X) => box_later (w := w) b1 h (LT _ (by omega)))
        have B2 := Lib.hid (fun X (h : Below W0.heap.size W0 X) => box_later (w := w) b2 h (LT _ (by omega)))
        clear a0 a1 a2 b0 b1 b2 LT
        have HNS : Hid (n1 ≤ maxLen) := Lib.hid (by rw [N1.out]; exact room_len OA.out.1)
        go_loopw [5] (fun i wr => ∃ k : Nat, k ≤ n1 ∧ i = .int .i64 k ∧ Hid (a.vecs.take k = b.vecs.take k) ∧ Below W0.heap.size W0 wr) (fun i _ => n1 - (intOf i).toNat)
        case atStart => exact ⟨0, Nat.zero_le _, rfl, Lib.hid rfl, Below.refl _ _⟩
        case round =>
          obtain ⟨k, hk, rfl, HT, hq⟩ := hrel
          have HQ := Lib.hid hq
          clear hq
          obtain ⟨wq, rfl⟩ : ∃ wq : World, wq = wr := ⟨_, rfl⟩
          have x1 := A1.out wq HQ.out
          have y1 := B1.out wq HQ.out
          by_cases hlt0 : k < n1
          · have hlt : k < a.vecs.length := by rw [← N1.out]; exact hlt0
            have hlt2 : k < b.vecs.length := by rw [← N2.out]; exact hlt0
            have HW := Lib.hid (HB.out.trans (HQ.out.mono HB.out.size))
            rcases HU.out.below HW.out with ⟨e0, _⟩ | ⟨g1, o1, q1, S1, hs1, hg1, hc1, hi1⟩
            · rw [e0] at hlt; simp at hlt
            rcases HV.out.below HW.out with ⟨e0, _⟩ | ⟨g2, o2, q2, S2, hs2, hg2, hc2, hi2⟩
            · rw [e0] at hlt2; simp at hlt2
            obtain ⟨rfl, rfl⟩ : p1 = some ⟨g1, o1, none⟩ ∧ c1 = q1 := by injection hs1 with e1 e2 e3; exact ⟨e1, e3⟩
            obtain ⟨rfl, rfl⟩ : p2 = some ⟨g2, o2, none⟩ ∧ c2 = q2 := by injection hs2 with e1 e2 e3; exact ⟨e1, e3⟩
            obtain ⟨m0, m1⟩ := hc1 wq rfl k hlt
            obtain ⟨l0, l1⟩ := hc2 wq rfl k hlt2
            have hin1 := hi1 k hlt
            have hin2 := hi2 k hlt2
            have EX := Lib.hid (List.getElem?_eq_getElem hlt)
            have EY := Lib.hid (List.getElem?_eq_getElem hlt2)
            have hz1 := Lib.hid (OA.out.2 _ (List.getElem_mem hlt)).2
            have hz2 := Lib.hid (OB.out.2 _ (List.getElem_mem hlt2)).2
            clear hs1 hs2 hc1 hc2 hi1 hi2
            generalize a.vecs[k] = xx at *
            generalize b.vecs[k] = yy at *
            generalize S1 k = sv1 at *
            generalize S2 k = sv2 at *
            obtain ⟨r1, t1, rfl, -⟩ := hin1.form
            obtain ⟨r2, t2, rfl, -⟩ := hin2.form
            have I1 := Lib.hid hin1
            have I2 := Lib.hid hin2
            have hkk : (k : Int) < n1 := by omega
            clear hin1 hin2
            have one : ∀ {g i : Nat} {v : Value}, wq.cell? ⟨g, i, none⟩ = some v → g < wq.heap.size → ∀ o, (wq.alloc o).cell? ⟨g, i, none⟩ = some v := fun h hg o => by
              rw [← h]; exact World.cell?_of_block (w := wq) (heap_old wq o hg)
            have two : ∀ {g i : Nat} {v : Value}, wq.cell? ⟨g, i, none⟩ = some v → g < wq.heap.size → ∀ o o', ((wq.alloc o).alloc o').cell? ⟨g, i, none⟩ = some v := fun h hg o o' => by
              rw [← h]; exact World.cell?_of_block (w := wq) ((heap_old (wq.alloc o) o' (by simp; omega)).trans (heap_old wq o hg))
            have gA : w.heap.size < wq.heap.size := by have h1 := HSZ.out; have h2 := HQ.out.size; omega
            have gB : w.heap.size + 1 < wq.heap.size := by have h1 := HSZ.out; have h2 := HQ.out.size; omega
            have x1a := one x1 gA
            have x1b := two x1 gA
            have y1a := one y1 gB
            have y1b := two y1 gB
            have m0a := one m0 hg1
            have m0b := two m0 hg1
            have m1a := one m1 hg1
            have m1b := two m1 hg1
            have l0a := one l0 hg2
            have l0b := two l0 hg2
            have l1a := one l1 hg2
            have l1b := two l1 hg2
            clear one two gA gB
            go_wp2_with fail
            go_region
            all_goals clear x1a x1b y1a y1b m0a m0b m1a m1b l0a l0b l1a l1b x1 y1 m0 m1 l0 l1
            · obtain ⟨⟨s0, s1⟩, ⟨s2, s3⟩, hbe⟩ := two_boxes wq (.string xx.name) (.slice r1 xx.v.length t1) (.string yy.name) (.slice r2 yy.v.length t2) 43
              obtain ⟨W2, hW2⟩ : ∃ W2, W2 = ((wq.alloc (.cells #[.string xx.name, .slice r1 xx.v.length t1] 43)).alloc (.cells #[.string yy.name, .slice r2 yy.v.length t2] 43)).drew := ⟨_, rfl⟩
              have hs2 : W2.heap.size = wq.heap.size + 2 := by rw [hW2]; show ((wq.alloc _).alloc _).heap.size = _; simp
              replace hbe : Below wq.heap.size wq W2 := by rw [hW2]; exact hbe.drew
              replace s0 : W2.cell? ⟨wq.heap.size, 0, none⟩ = some (.string xx.name) := by rw [hW2]; exact s0
              replace s1 : W2.cell? ⟨wq.heap.size, 1, none⟩ = some (.slice r1 xx.v.length t1) := by rw [hW2]; exact s1
              replace s2 : W2.cell? ⟨wq.heap.size + 1, 0, none⟩ = some (.string yy.name) := by rw [hW2]; exact s2
              replace s3 : W2.cell? ⟨wq.heap.size + 1, 1, none⟩ = some (.slice r2 yy.v.length t2) := by rw [hW2]; exact s3
              rw [← hW2]
              have HW2 := Lib.hid hbe
              have T1 := Lib.hid (fun X (h : Below W2.heap.size W2 X) => box_later (w := w) s1 h (by omega))
              have U1 := Lib.hid (fun X (h : Below W2.heap.size W2 X) => box_later (w := w) s3 h (by omega))
              have HQ2 := Lib.hid (HQ.out.trans (hbe.mono HQ.out.size))
              have HB2 := Lib.hid (HW.out.trans (hbe.mono HW.out.size))
              clear hbe hs2 hW2
              cases hnm : xx.name.toList == yy.name.toList with
              | false =>
                have hne : xx ≠ yy := fun e => by subst e; rw [nm_eq.mpr rfl] at hnm; cases hnm
                have HF := Lib.hid (notsame_at HR.out EX.out EY.out hne)
                go_wp2_with fail
                go_ret
                exact ⟨by rw [HF.out]; rfl, HB2.out⟩
              | true =>
                have HNM := Lib.hid (nm_eq.mp hnm)
                by_cases hlen : xx.v.length = yy.v.length
                · rw [← hlen] at s3 U1 I2
                  have HLEN := Lib.hid hlen
                  clear hlen
                  obtain ⟨m, hm⟩ : ∃ m, m = xx.v.length := ⟨_, rfl⟩
                  rw [← hm] at s1 s3 T1 U1 I1 I2
                  have HM := Lib.hid hm
                  clear hm
                  have HMS : Hid (m ≤ maxLen) := Lib.hid (by rw [HM.out]; exact room_len hz1.out)
                  go_wp2_with fail
                  clear s0 s1 s2 s3
                  go_loopw [8] (fun i wx => ∃ j : Nat, j ≤ m ∧ i = .int .i64 j ∧ Hid (xx.v.take j = yy.v.take j) ∧ Below W2.heap.size W2 wx) (fun i _ => m - (intOf i).toNat)
                  case atStart => exact ⟨0, Nat.zero_le _, rfl, Lib.hid rfl, Below.refl _ _⟩
                  case round =>
                    obtain ⟨j, hj, rfl, HJT, hq3⟩ := hrel
                    have HQ3 := Lib.hid hq3
                    clear hq3
                    obtain ⟨wz, rfl⟩ : ∃ wz : World, wz = wr := ⟨_, rfl⟩
                    have d1 := T1.out wz HQ3.out
                    have d3 := U1.out wz HQ3.out
                    by_cases hjl : j < m
                    · have hja : j < xx.v.length := by rw [← HM.out]; exact hjl
                      have hjb : j < yy.v.length := by rw [← HLEN.out]; exact hja
                      have HWZ := Lib.hid (HW2.out.trans (HQ3.out.mono HW2.out.size))
                      obtain ⟨ga, oa, rfl, ha⟩ := ints_cell I1.out hja
                      obtain ⟨gb, ob, rfl, hb⟩ := ints_cell I2.out hjb
                      have ca := ha wz HWZ.out
                      have cb := hb wz HWZ.out
                      have VX := Lib.hid (List.getElem?_eq_getElem hja)
                      have VY := Lib.hid (List.getElem?_eq_getElem hjb)
                      clear ha hb
                      generalize xx.v[j] = xi at *
                      generalize yy.v[j] = yi at *
                      have hjl' : (j : Int) < m := by omega
                      by_cases hxy : xi = yi
                      · subst hxy
                        go_wp2_with fail
                        go_quiet (fail)
                        go_wp2_with fail
                        go_roundw
                        case rel => exact ⟨j + 1, by omega, congrArg _ (wrap_s HMS.out hjl), Lib.hid (take_next VX.out VY.out HJT.out rfl), drewB HQ3.out _⟩
                        case measure =>
                          rw [wrap_s HMS.out hjl]
                          exact int_less hjl
                      · have hne : xx ≠ yy := fun e => by subst e; exact hxy (Option.some.inj (VX.out.symm.trans VY.out))
                        have HF := Lib.hid (notsame_at HR.out EX.out EY.out hne)
                        go_wp2_with fail
                        go_quiet (fail)
                        go_wp2_with fail
                        go_ret
                        exact ⟨by rw [HF.out]; rfl, HB2.out.trans ((drewB HQ3.out _).mono HB2.out.size)⟩
                    · obtain rfl : j = m := by omega
                      have heq : xx.v = yy.v := take_all HLEN.out (by rw [← HM.out]; exact HJT.out)
                      have hxy : xx = yy := vec_eq HNM.out heq
                      have HN := Lib.hid (take_next EX.out EY.out HT.out hxy)
                      clear heq hxy
                      go_wp2_with fail
                      go_roundw
                      case rel => exact ⟨k + 1, by omega, congrArg _ (wrap_s HNS.out hlt0), HN, HQ2.out.trans (HQ3.out.mono HQ2.out.size)⟩
                      case measure =>
                        rw [wrap_s HNS.out hlt0]
                        exact int_less hlt0
                · have hne : xx ≠ yy := fun e => by subst e; exact hlen rfl
                  have HF := Lib.hid (notsame_at HR.out EX.out EY.out hne)
                  have hlen' : ((xx.v.length : Int) == (yy.v.length : Int)) = false := by simp; omega
                  go_wp2_with fail
                  go_ret
                  exact ⟨by rw [HF.out]; rfl, HB2.out⟩
            · obtain ⟨⟨s2, s3⟩, ⟨s0, s1⟩, hbe⟩ := two_boxes wq (.string yy.name) (.slice r2 yy.v.length t2) (.string xx.name) (.slice r1 xx.v.length t1) 43
              obtain ⟨W2, hW2⟩ : ∃ W2, W2 = ((wq.alloc (.cells #[.string yy.name, .slice r2 yy.v.length t2] 43)).alloc (.cells #[.string xx.name, .slice r1 xx.v.length t1] 43)).drew := ⟨_, rfl⟩
              have hs2 : W2.heap.size = wq.heap.size + 2 := by rw [hW2]; show ((wq.alloc _).alloc _).heap.size = _; simp
              replace hbe : Below wq.heap.size wq W2 := by rw [hW2]; exact hbe.drew
              replace s0 : W2.cell? ⟨wq.heap.size + 1, 0, none⟩ = some (.string xx.name) := by rw [hW2]; exact s0
              replace s1 : W2.cell? ⟨wq.heap.size + 1, 1, none⟩ = some (.slice r1 xx.v.length t1) := by rw [hW2]; exact s1
              replace s2 : W2.cell? ⟨wq.heap.size, 0, none⟩ = some (.string yy.name) := by rw [hW2]; exact s2
              replace s3 : W2.cell? ⟨wq.heap.size, 1, none⟩ = some (.slice r2 yy.v.length t2) := by rw [hW2]; exact s3
              rw [← hW2]
              have HW2 := Lib.hid hbe
              have T1 := Lib.hid (fun X (h : Below W2.heap.size W2 X) => box_later (w := w) s1 h (by omega))
              have U1 := Lib.hid (fun X (h : Below W2.heap.size W2 X) => box_later (w := w) s3 h (by omega))
              have HQ2 := Lib.hid (HQ.out.trans (hbe.mono HQ.out.size))
              have HB2 := Lib.hid (HW.out.trans (hbe.mono HW.out.size))
              clear hbe hs2 hW2
              cases hnm : xx.name.toList == yy.name.toList with
              | false =>
                have hne : xx ≠ yy := fun e => by subst e; rw [nm_eq.mpr rfl] at hnm; cases hnm
                have HF := Lib.hid (notsame_at HR.out EX.out EY.out hne)
                go_wp2_with fail
                go_ret
                exact ⟨by rw [HF.out]; rfl, HB2.out⟩
              | true =>
                have HNM := Lib.hid (nm_eq.mp hnm)
                by_cases hlen : xx.v.length = yy.v.length
                · rw [← hlen] at s3 U1 I2
                  have HLEN := Lib.hid hlen
                  clear hlen
                  obtain ⟨m, hm⟩ : ∃ m, m = xx.v.length := ⟨_, rfl⟩
                  rw [← hm] at s1 s3 T1 U1 I1 I2
                  have HM := Lib.hid hm
                  clear hm
                  have HMS : Hid (m ≤ maxLen) := Lib.hid (by rw [HM.out]; exact room_len hz1.out)
                  go_wp2_with fail
                  clear s0 s1 s2 s3
                  go_loopw [8] (fun i wx => ∃ j : Nat, j ≤ m ∧ i = .int .i64 j ∧ Hid (xx.v.take j = yy.v.take j) ∧ Below W2.heap.size W2 wx) (fun i _ => m - (intOf i).toNat)
                  case atStart => exact ⟨0, Nat.zero_le _, rfl, Lib.hid rfl, Below.refl _ _⟩
                  case round =>
                    obtain ⟨j, hj, rfl, HJT, hq3⟩ := hrel
                    have HQ3 := Lib.hid hq3
                    clear hq3
                    obtain ⟨wz, rfl⟩ : ∃ wz : World, wz = wr := ⟨_, rfl⟩
                    have d1 := T1.out wz HQ3.out
                    have d3 := U1.out wz HQ3.out
                    by_cases hjl : j < m
                    · have hja : j < xx.v.length := by rw [← HM.out]; exact hjl
                      have hjb : j < yy.v.length := by rw [← HLEN.out]; exact hja
                      have HWZ := Lib.hid (HW2.out.trans (HQ3.out.mono HW2.out.size))
                      obtain ⟨ga, oa, rfl, ha⟩ := ints_cell I1.out hja
                      obtain ⟨gb, ob, rfl, hb⟩ := ints_cell I2.out hjb
                      have ca := ha wz HWZ.out
                      have cb := hb wz HWZ.out
                      have VX := Lib.hid (List.getElem?_eq_getElem hja)
                      have VY := Lib.hid (List.getElem?_eq_getElem hjb)
                      clear ha hb
                      generalize xx.v[j] = xi at *
                      generalize yy.v[j] = yi at *
                      have hjl' : (j : Int) < m := by omega
                      by_cases hxy : xi = yi
                      · subst hxy
                        go_wp2_with fail
                        go_quiet (fail)
                        go_wp2_with fail
                        go_roundw
                        case rel => exact ⟨j + 1, by omega, congrArg _ (wrap_s HMS.out hjl), Lib.hid (take_next VX.out VY.out HJT.out rfl), drewB HQ3.out _⟩
                        case measure =>
                          rw [wrap_s HMS.out hjl]
                          exact int_less hjl
                      · have hne : xx ≠ yy := fun e => by subst e; exact hxy (Option.some.inj (VX.out.symm.trans VY.out))
                        have HF := Lib.hid (notsame_at HR.out EX.out EY.out hne)
                        go_wp2_with fail
                        go_quiet (fail)
                        go_wp2_with fail
                        go_ret
                        exact ⟨by rw [HF.out]; rfl, HB2.out.trans ((drewB HQ3.out _).mono HB2.out.size)⟩
                    · obtain rfl : j = m := by omega
                      have heq : xx.v = yy.v := take_all HLEN.out (by rw [← HM.out]; exact HJT.out)
                      have hxy : xx = yy := vec_eq HNM.out heq
                      have HN := Lib.hid (take_next EX.out EY.out HT.out hxy)
                      clear heq hxy
                      go_wp2_with fail
                      go_roundw
                      case rel => exact ⟨k + 1, by omega, congrArg _ (wrap_s HNS.out hlt0), HN, HQ2.out.trans (HQ3.out.mono HQ2.out.size)⟩
                      case measure =>
                        rw [wrap_s HNS.out hlt0]
                        exact int_less hlt0
                · have hne : xx ≠ yy := fun e => by subst e; exact hlen rfl
                  have HF := Lib.hid (notsame_at HR.out EX.out EY.out hne)
                  have hlen' : ((xx.v.length : Int) == (yy.v.length : Int)) = false := by simp; omega
                  go_wp2_with fail
                  go_ret
                  exact ⟨by rw [HF.out]; rfl, HB2.out⟩
          · obtain rfl : k = n1 := by omega
            have HVV : Hid (a.vecs = b.vecs) := Lib.hid (take_all (by rw [← N1.out, ← N2.out]) (by rw [← N1.out]; exact HT.out))
            have HNF : Hid (n3 ≤ maxLen) := Lib.hid (by rw [N3.out]; exact room_len FA.out.1)
            go_wp2_with fail
            go_loopw [9] (fun i wx => ∃ j : Nat, j ≤ n3 ∧ i = .int .i64 j ∧ Hid (a.flds.take j = b.flds.take j) ∧ Below W0.heap.size W0 wx) (fun i _ => n3 - (intOf i).toNat)
            case atStart => exact ⟨0, Nat.zero_le _, rfl, Lib.hid rfl, HQ.out⟩
            case round =>
              obtain ⟨j, hj, rfl, HJT, hq3⟩ := hrel
              have HQ3 := Lib.hid hq3
              clear hq3
              obtain ⟨wz, rfl⟩ : ∃ wz : World, wz = wr := ⟨_, rfl⟩
              have d1 := A2.out wz HQ3.out
              have d3 := B2.out wz HQ3.out
              have HWZ := Lib.hid (HB.out.trans (HQ3.out.mono HB.out.size))
              by_cases hjl : j < n3
              · have hja : j < a.flds.length := by rw [← N3.out]; exact hjl
                have hjb : j < b.flds.length := by rw [← N4.out]; exact hjl
                obtain ⟨ga, oa, rfl, ha⟩ := flds_cell HX.out hja
                obtain ⟨gb, ob, rfl, hb⟩ := flds_cell HY.out hjb
                obtain ⟨g0, g1, g2, g3⟩ := ha wz HWZ.out
                obtain ⟨h0, h1, h2, h3⟩ := hb wz HWZ.out
                have VX := Lib.hid (List.getElem?_eq_getElem hja)
                have VY := Lib.hid (List.getElem?_eq_getElem hjb)
                clear ha hb
                generalize a.flds[j] = xi at *
                generalize b.flds[j] = yi at *
                obtain ⟨xn, xk, xm, xt⟩ := xi
                obtain ⟨yn, yk, ym, yt⟩ := yi
                simp only at g0 g1 g2 g3 h0 h1 h2 h3
                have HE := fun W => neqF_run xn yn xk xm yk ym xt yt W
                have hjl' : (j : Int) < n3 := by omega
                by_cases hxy : (⟨xn, ⟨xk, xm, xt⟩⟩ : Fld) = ⟨yn, ⟨yk, ym, yt⟩⟩
                · rw [eqF_iff.mpr hxy] at HE
                  go_wp2_with fail
                  go_quiet (fail)
                  go_wp2_with fail
                  go_roundw
                  case rel => exact ⟨j + 1, by omega, congrArg _ (wrap_s HNF.out hjl), Lib.hid (take_next VX.out VY.out HJT.out hxy), drewB HQ3.out _⟩
                  case measure =>
                    rw [wrap_s HNF.out hjl]
                    exact int_less hjl
                · have hne : eqF ⟨xn, ⟨xk, xm, xt⟩⟩ ⟨yn, ⟨yk, ym, yt⟩⟩ = false := by rw [← Bool.not_eq_true, eqF_iff]; exact hxy
                  rw [hne] at HE
                  have HF : Hid (R = false) := Lib.hid (by rw [HR.out, isB_no (fun e : a.flds = b.flds => hxy (Option.some.inj (VX.out.symm.trans (by rw [e]; exact VY.out))))]; simp)
                  go_wp2_with fail
                  go_quiet (fail)
                  go_wp2_with fail
                  go_ret
                  exact ⟨by rw [HF.out]; rfl, HB.out.trans ((drewB HQ3.out _).mono HB.out.size)⟩
              · obtain rfl : j = n3 := by omega
                have hff : a.flds = b.flds := take_all (by rw [← N3.out, ← N4.out]) (by rw [← N3.out]; exact HJT.out)
                have HF : Hid (R = true) := Lib.hid (by rw [HR.out, isB_yes HVV.out, isB_yes hff, ← HI.out, ← HJ.out]; simp)
                clear hff
                go_wp2_with fail
                go_ret
                exact ⟨by rw [HF.out]; rfl, HWZ.out⟩
      · have HF : Hid (R = false) := Lib.hid (by rw [HR.out, isB_no (fun e : a.flds = b.flds => hl2 (by rw [N3.out, N4.out, e]))]; simp)
        subst hij hl1
        have hl2' : ((n3 : Int) == (n4 : Int)) = false := by simp; omega
        go_wp2_with fail
        go_ret
        exact ⟨by rw [HF.out]; rfl, HB.out⟩
    · have HF : Hid (R = false) := Lib.hid (by rw [HR.out, isB_no (fun e : a.vecs = b.vecs => hl1 (by rw [N1.out, N2.out, e]))]; simp)
      subst hij
      have hl1' : ((n1 : Int) == (n2 : Int)) = false := by simp; omega
      go_wp2_with fail
      go_ret
      exact ⟨by rw [HF.out]; rfl, HB.out⟩
  · have HF : Hid (R = false) := Lib.hid (by rw [HR.out, ← HI.out, ← HJ.out]; simp [hij])
    have hij' : (i == j) = false := by simp [hij]
    go_wp2_with fail
    go_ret
    exact ⟨by rw [HF.out]; rfl, HB.out⟩
end Go.Proofs.YtfppemgagifmpaaDoor
