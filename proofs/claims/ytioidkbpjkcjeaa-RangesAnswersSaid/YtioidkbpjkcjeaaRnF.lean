/- The library's BinarySearchFunc at entries, walked. Conditions: those that each theorem names. -/
import Derived.Test.YtioidkbpjkcjeaaRnE
import Derived.Shelf.SlCmpFuncs.BinarySearchFunc
namespace Go.Proofs.Ytioidkbpjkcjeaa
set_option linter.unusedVariables false
open Go Go.RowKit Go.Shelf Go.Sort
namespace Rn
theorem frm_at {L : List En} {x : En} {i : Nat} (hi : i ≤ L.length) (h1 : ∀ t, t < i → cfE L.toArray[t]! x < 0) (h2 : ∀ t, i ≤ t → t < L.length → ¬ cfE L.toArray[t]! x < 0) : frm x L = i := by
  have hget : ∀ t, L[t]! = L.toArray[t]! := fun t => by first | (simp [getElem!_def]; done) | (rw [← Array.getElem!_toList]) | rfl
  exact Lib.countP_boundary _ L i hi (fun t ht => by rw [hget]; exact decide_eq_true (h1 t ht)) (fun t h3 h4 => by rw [hget]; exact decide_eq_false (h2 t h3 h4))
set_option maxHeartbeats 4000000 in
set_option maxRecDepth 100000 in
theorem search_any (L : List En) (x : En) (v : Value) (w : World) (hL : HsAt w v L) (hr : Ris L) (hsz : L.length ≤ 1125899906842624) :
    Calls Try.prog 38 #[v, hv x, cmpV] w fun e w' => e = .returned (.tuple #[.int .i64 (frm x L : Nat), .bool (decide (frm x L < L.length) && decide (cfE L.toArray[frm x L]! x = 0))]) ∧ Gn w w' := by
  have hen := compare_enters
  have hx := heap_last w (hobj x)
  have hg0 : Gn w (w.alloc (hobj x)) := (Gn.refl w).alloc _
  have HX : Hid (∀ W, Gn (w.alloc (hobj x)) W → W.cell? ⟨w.heap.size, 0, none⟩ = some (.int .i64 x.1) ∧ W.cell? ⟨w.heap.size, 1, none⟩ = some (.int .i64 x.2)) := Lib.hid (fun W hW => two_cells ((hW.block (by simp)).trans hx))
  have HG0 := Lib.hid hg0
  rcases hL with ⟨rfl, p, c, rfl⟩ | ⟨g, off, c, rfl, hg, hc⟩
  · clear hr hsz hx hg0
    go_enter Try.func38, Try.ntmps38
    go_wp2
    refine wp_loop_rounds 1 ?_
    rw [rounds_succ]
    go_wp2
    go_quiet (fail)
    go_wp2
    go_ret2
    exact ⟨rfl, HG0.out.drewN _⟩
  · obtain ⟨n, hn⟩ : ∃ n, n = L.length := ⟨_, rfl⟩
    have HN := Lib.hid hn
    have hnb : n ≤ 1125899906842624 := by omega
    have HM := Lib.hid (ris_mono hr x)
    have HCL : Hid (∀ W, Gn (w.alloc (hobj x)) W → ∀ t, t < n → W.cell? ⟨g, off + t * 2, none⟩ = some (.int .i64 (L.toArray[t]!).1) ∧ W.cell? ⟨g, off + t * 2 + 1, none⟩ = some (.int .i64 (L.toArray[t]!).2)) := Lib.hid (fun W hW t ht => by
      have htl : t < L.length := by omega
      have e : L.toArray[t]! = L[t] := by simp [htl]
      rw [e]
      exact hc W ((hW.block (by simp; omega)).trans (heap_old w _ hg)) t htl)
    obtain ⟨r, hre⟩ : ∃ r, r = frm x L := ⟨_, rfl⟩
    obtain ⟨b, hbe⟩ : ∃ b, b = (decide (r < n) && decide (cfE L.toArray[r]! x = 0)) := ⟨_, rfl⟩
    have HR := Lib.hid hre
    have HB := Lib.hid hbe
    rw [← hn, ← hre, ← hbe]
    clear hr hsz hx hg0 hc hg hn hre hbe
    go_enter Try.func38, Try.ntmps38
    go_wp2
    go_loopg [9, 10] n (fun kx s9 s10 wr => ∃ lo hi : Nat, s9 = .int .i64 lo ∧ s10 = .int .i64 hi ∧ lo ≤ hi ∧ hi ≤ n ∧ hi - lo ≤ kx ∧ Hid (Gn (w.alloc (hobj x)) wr) ∧ Hid ((∀ t, t < lo → cfE L.toArray[t]! x < 0) ∧ (∀ t, hi ≤ t → t < n → 0 ≤ cfE L.toArray[t]! x)))
    case atStart => exact ⟨0, n, rfl, rfl, Nat.zero_le _, Nat.le_refl _, by omega, Lib.hid (Gn.refl _), Lib.hid ⟨fun t ht => absurd ht (Nat.not_lt_zero _), fun t h1 h2 => by omega⟩⟩
    case round =>
      obtain ⟨lo, hi, rfl, rfl, hlh, hin, hgk, HG, HI⟩ := hrel
      by_cases hlt : lo < hi
      · obtain ⟨h, hh⟩ : ∃ h : Nat, ((lo : Int) + (hi : Int)) / 2 = (h : Int) ∧ lo ≤ h ∧ h < hi ∧ h < n := ⟨(lo + hi) / 2, by omega, by omega, by omega, by omega⟩
        obtain ⟨hh0, hh1, hh2, hh3⟩ := hh
        have hq := fun nn os => HG.out.trans (w2 := grow (wr.drewN nn) os) ⟨nn, os, rfl⟩
        have a0 := fun nn os => (HCL.out _ (hq nn os) h hh3).1
        have a1 := fun nn os => (HCL.out _ (hq nn os) h hh3).2
        have b0 := fun nn os => (HX.out _ (hq nn os)).1
        have b1 := fun nn os => (HX.out _ (hq nn os)).2
        obtain ⟨y, hye⟩ : ∃ y, y = L.toArray[h]! := ⟨_, rfl⟩
        rw [← hye] at a0 a1
        have HY := Lib.hid hye
        have HC := Lib.hid (fun (W : World) => compare_any y x W)
        have hh3' : (h : Int) < (n : Int) := by omega
        have hhn : wrap64 ((h : Int) + 1) = ((h + 1 : Nat) : Int) := by unfold wrap64; omega
        have HM1 : Hid (lo ≤ h ∧ h < hi ∧ h + 1 ≤ hi ∧ hi ≤ n ∧ h ≤ n ∧ h < n) := Lib.hid ⟨hh1, hh2, hh2, hin, by omega, hh3⟩
        have HMA := Lib.hid (Nat.lt_of_lt_of_le (show hi - (h + 1) < hi - lo by omega) hgk)
        have HMB := Lib.hid (Nat.lt_of_lt_of_le (show h - lo < hi - lo by omega) hgk)
        have mixed : Try.prog.follows .mixedOrders = true := by kernel_rfl
        clear hq hye
        go_wp2_with fail
        try rw [hh0]
        generalize hcf : cfE y x = cf at HC
        have HCF := Lib.hid hcf
        clear hcf hlh hin hgk hlt hh0 hh1 hh2
        by_cases hyx : cf < 0
        · have HYX := Lib.hid hyx
          have hdd : decide (cf < 0) = true := decide_eq_true hyx
          go_quiet_grown (first | (go_at_fn 21; refine Calls.grown_of (HC.out _)))
          dsimp only
          have HG2 := Lib.hid (HG.out.trans (w2 := grow (wr.drewN nq) osq) ⟨nq, osq, rfl⟩)
          clear a0 a1 b0 b1 HC hen hyx HG
          generalize grow (wr.drewN nq) osq = w2 at *
          go_wp2_with fail
          go_roundg (hi - (h + 1))
          case measure => exact HMA.out
          case rel => exact ⟨h + 1, hi, by first | rfl | exact congrArg _ hhn | go_num, rfl, HM1.out.2.2.1, HM1.out.2.2.2.1, Nat.le_refl _, HG2, Lib.hid ⟨fun t ht => HM.out t h (by omega) (by rw [← HN.out]; exact HM1.out.2.2.2.2.2) (by rw [← HY.out, HCF.out]; exact HYX.out), HI.out.2⟩⟩
        · have HYX : Hid (0 ≤ cf) := Lib.hid (Int.not_lt.1 hyx)
          have hdd : decide (cf < 0) = false := decide_eq_false hyx
          go_quiet_grown (first | (go_at_fn 21; refine Calls.grown_of (HC.out _)))
          dsimp only
          have HG2 := Lib.hid (HG.out.trans (w2 := grow (wr.drewN nq) osq) ⟨nq, osq, rfl⟩)
          clear a0 a1 b0 b1 HC hen hyx HG
          generalize grow (wr.drewN nq) osq = w2 at *
          go_wp2_with fail
          go_roundg (h - lo)
          case measure => exact HMB.out
          case rel => exact ⟨lo, h, rfl, rfl, HM1.out.1, HM1.out.2.2.2.2.1, Nat.le_refl _, HG2, Lib.hid ⟨HI.out.1, fun t h1 h2 => Int.not_lt.1 (fun h3 => absurd (show cf < 0 by have := HM.out h t h1 (by rw [← HN.out]; exact h2) h3; rw [← HY.out, HCF.out] at this; exact this) (Int.not_lt.2 HYX.out))⟩⟩
      · obtain rfl : hi = lo := by omega
        have HE : Hid (r = hi) := Lib.hid (by rw [HR.out]; exact frm_at (by rw [← HN.out]; exact hin) HI.out.1 (fun t h1 h2 => Int.not_lt.2 (HI.out.2 t h1 (by rw [HN.out]; exact h2))))
        by_cases hn : hi < n
        · have hq := fun nn os => HG.out.trans (w2 := grow (wr.drewN nn) os) ⟨nn, os, rfl⟩
          have a0 := fun nn os => (HCL.out _ (hq nn os) hi hn).1
          have a1 := fun nn os => (HCL.out _ (hq nn os) hi hn).2
          have b0 := fun nn os => (HX.out _ (hq nn os)).1
          have b1 := fun nn os => (HX.out _ (hq nn os)).2
          obtain ⟨y, hye⟩ : ∃ y, y = L.toArray[hi]! := ⟨_, rfl⟩
          rw [← hye] at a0 a1
          have HY := Lib.hid hye
          have HC := Lib.hid (fun (W : World) => compare_any y x W)
          have hn' : (hi : Int) < (n : Int) := by omega
          have hnd : decide ((hi : Int) < (n : Int)) = true := decide_eq_true hn'
          have HB2 : Hid (b = (cfE y x == 0)) := Lib.hid (by rw [HB.out, HE.out, decide_eq_true hn, Bool.true_and, hye, Bool.eq_iff_iff, decide_eq_true_eq, beq_iff_eq])
          have mixed : Try.prog.follows .mixedOrders = true := by kernel_rfl
          generalize cfE y x = cf at HC HB2
          clear hq hye hlh hin hgk
          go_wp2_with fail
          go_quiet_grown (first | (go_at_fn 21; refine Calls.grown_of (HC.out _)))
          dsimp only
          have HG2 := Lib.hid (HG.out.trans (w2 := grow (wr.drewN nq) osq) ⟨nq, osq, rfl⟩)
          clear a0 a1 b0 b1 HC hen HG
          generalize grow (wr.drewN nq) osq = w2 at *
          go_wp2_with fail
          go_ret2
          exact ⟨by rw [HE.out, HB2.out]; first | rfl | simp, HG0.out.trans HG2.out⟩
        · have hnd : decide ((hi : Int) < (n : Int)) = false := decide_eq_false (by omega)
          have HB2 : Hid (b = false) := Lib.hid (by rw [HB.out, HE.out, decide_eq_false hn, Bool.false_and])
          clear hlh hin hgk
          go_wp2_with fail
          go_quiet (fail)
          go_wp2_with fail
          go_ret2
          exact ⟨by rw [HE.out, HB2.out]; first | rfl | simp, (HG0.out.trans HG.out).drewN _⟩
end Rn
end Go.Proofs.Ytioidkbpjkcjeaa
