/- The walk of ScalarTrains. Conditions: those that each theorem names. -/
import Derived.Test.YtfgmkdghpdpdkaaScArgs
import Derived.Test.YtfgmkdghpdpdkaaScM
import Derived.Test.YtfgmkdghpdpdkaaScR
namespace Go.Proofs.Ytfgmkdghpdpdkaa
set_option linter.unusedVariables false
open Go Go.RowKit Go.Shelf Go.Sort Vc Rk
namespace Sc
set_option maxHeartbeats 8000000 in
set_option maxRecDepth 100000 in
theorem trains_walk (v : Value) (M : List (List Int)) (w : World) (wf : RowsIn w v M) :
    Calls Try.prog 3 #[v] w fun e w' => e = .returned (.bool true) ∧ Below w.heap.size w w' := by
  obtain ⟨hR, hm, hl⟩ := wf
  obtain ⟨A, hA⟩ : ∃ A, A = (if rowsB M = true then trainLo M else []) := ⟨_, rfl⟩
  obtain ⟨B, hB⟩ : ∃ B, B = (if rowsB M = true then trainHi M else []) := ⟨_, rfl⟩
  obtain ⟨E, hE⟩ : ∃ E : Int, E = (if rowsB M = true then 0 else 170) := ⟨_, rfl⟩
  have hAB : A.length ≤ maxLen ∧ B.length ≤ maxLen := by
    cases h : rowsB M with
    | true =>
      obtain ⟨h1, _, h3, _⟩ := may_of (train_may h).1
      rw [hA, hB, h]
      have := vec_len h1
      simp only [if_true]
      omega
    | false => rw [hA, hB, h]; simp
  have C1 : Hid (Calls Try.prog 7 #[v] w fun e w' => ∃ a b, e = .returned (.tuple #[.agg #[a, b], .int .i64 E]) ∧ OwnN w' w.heap.size a A ∧ OwnN w' w.heap.size b B ∧ Below w.heap.size w w') := Lib.hid (by
    rw [hA, hB, hE]; exact train_any M v w hR hl hm)
  have C2 : Hid (∀ W, Below w.heap.size w W → Calls Try.prog 8 #[v] W fun e w' => ∃ a b, e = .returned (.tuple #[.agg #[a, b], .int .i64 E]) ∧ OwnN w' W.heap.size a A ∧ OwnN w' W.heap.size b B ∧ Below W.heap.size W w') := Lib.hid (fun W hW => by
    rw [hA, hB, hE]; exact trainR_any M v W (hR.below hW) hl hm)
  have HS : Hid (∀ (a b c d : Value) W, IntsAt W a A → IntsAt W b B → IntsAt W c A → IntsAt W d B → Calls Try.prog 9 #[.agg #[a, b], .agg #[c, d]] W fun e w' => e = .returned (.bool true) ∧ Below W.heap.size W w') := Lib.hid (fun a b c d W ha hb hc hd => by
    have h := same2_any A B A B a b c d W ha hb hc hd hAB.1 hAB.2 hAB.1 hAB.2
    rw [decide_eq_true (rfl : A = A), decide_eq_true (rfl : B = B)] at h
    exact h)
  have AW := Lib.hid awake_yes
  obtain ⟨p, c, rfl, _, _⟩ := hR
  have hEE : (E == E) = true := beq_self_eq_true _
  clear hm hl hA hB hE hAB
  go_enter Try.func3, Try.ntmps3
  go_wp2_with fail
  with_reducible refine C1.out.mono ?_
  rintro e w1 ⟨a, b, rfl, ha, hb, hb1⟩
  obtain ⟨pa, na, ca, ea⟩ : ∃ p n c, a = .slice p n c := by
    obtain ⟨p, c, e⟩ := (ownN_own ha).at.form
    exact ⟨p, _, c, e⟩
  obtain ⟨pb, nb, cb, eb⟩ : ∃ p n c, b = .slice p n c := by
    obtain ⟨p, c, e⟩ := (ownN_own hb).at.form
    exact ⟨p, _, c, e⟩
  subst ea; subst eb
  obtain ⟨Z1, hZ1⟩ : ∃ Z1, Z1 = w1.alloc (.cells #[.slice pa na ca, .slice pb nb cb] 25) := ⟨_, rfl⟩
  have hz1 : Z1.heap[w1.heap.size]? = some (.cells #[.slice pa na ca, .slice pb nb cb] 25) := by rw [hZ1]; exact heap_last _ _
  have hg1 : Below w1.heap.size w1 Z1 := by rw [hZ1]; exact fresh_alloc _ _
  have H1 := Lib.hid (hb1.trans (hg1.mono hb1.size))
  have HA1 := Lib.hid ((ownN_own ha).at.below hg1)
  have HB1 := Lib.hid ((ownN_own hb).at.below hg1)
  have HZ1 := Lib.hid hz1
  clear ha hb hb1 C1 hz1 hg1
  go_upto_region 2 with fail
  rw [← hZ1]
  clear hZ1
  have C3 := Lib.hid (C2.out Z1 H1.out)
  clear C2
  go_wp2_with fail
  with_reducible refine C3.out.mono ?_
  rintro e w2 ⟨c', d', rfl, hc, hd, hb2⟩
  obtain ⟨pc, nc, cc, ec⟩ : ∃ p n c, c' = .slice p n c := by
    obtain ⟨p, c, e⟩ := (ownN_own hc).at.form
    exact ⟨p, _, c, e⟩
  obtain ⟨pd, nd, cd, ed⟩ : ∃ p n c, d' = .slice p n c := by
    obtain ⟨p, c, e⟩ := (ownN_own hd).at.form
    exact ⟨p, _, c, e⟩
  subst ec; subst ed
  obtain ⟨Z2, hZ2⟩ : ∃ Z2, Z2 = w2.alloc (.cells #[.slice pc nc cc, .slice pd nd cd] 25) := ⟨_, rfl⟩
  have hz2 : Z2.heap[w2.heap.size]? = some (.cells #[.slice pc nc cc, .slice pd nd cd] 25) := by rw [hZ2]; exact heap_last _ _
  have hg2 : Below w2.heap.size w2 Z2 := by rw [hZ2]; exact fresh_alloc _ _
  have h12 := hb2.trans (hg2.mono hb2.size)
  have hzz := (h12.block _ (lt_of_block HZ1.out)).trans HZ1.out
  have H2 := Lib.hid (H1.out.trans (h12.mono H1.out.size))
  have HK : Hid (∀ W, Below Z2.heap.size Z2 W → (W.cell? ⟨w1.heap.size, 0, none⟩ = some (.slice pa na ca) ∧ W.cell? ⟨w1.heap.size, 1, none⟩ = some (.slice pb nb cb)) ∧ W.cell? ⟨w2.heap.size, 0, none⟩ = some (.slice pc nc cc) ∧ W.cell? ⟨w2.heap.size, 1, none⟩ = some (.slice pd nd cd)) := Lib.hid (fun W hW => by
    have g1 := (hW.block _ (lt_of_block hzz)).trans hzz
    have g2 := (hW.block _ (lt_of_block hz2)).trans hz2
    refine ⟨⟨?_, ?_⟩, ?_, ?_⟩
    · rw [Lib.cell_of_heap g1]; rfl
    · rw [Lib.cell_of_heap g1]; rfl
    · rw [Lib.cell_of_heap g2]; rfl
    · rw [Lib.cell_of_heap g2]; rfl)
  have HA2 := Lib.hid (HA1.out.below h12)
  have HB2 := Lib.hid (HB1.out.below h12)
  have HC2 := Lib.hid ((ownN_own hc).at.below hg2)
  have HD2 := Lib.hid ((ownN_own hd).at.below hg2)
  clear hc hd hb2 C3 hz2 hg2 h12 hzz HZ1
  go_upto_region 3 with fail
  rw [← hZ2]
  clear hZ2
  obtain ⟨⟨x0, x1⟩, y0, y1⟩ := HK.out Z2 (Below.refl _ _)
  go_wp2_with fail
  with_reducible refine (HS.out _ _ _ _ Z2 HA2.out HB2.out HC2.out HD2.out).mono ?_
  rintro e w3 ⟨rfl, h3⟩
  have H3 := Lib.hid (H2.out.trans (h3.mono H2.out.size))
  clear h3
  go_wp2_with fail
  with_reducible refine (AW.out _).mono ?_
  rintro e w4 ⟨rfl, h4⟩
  have HF := Lib.hid (H3.out.trans (h4.mono H3.out.size))
  clear h4
  go_wp2_with fail
  go_ret
  exact ⟨rfl, HF.out⟩
end Sc
end Go.Proofs.Ytfgmkdghpdpdkaa
