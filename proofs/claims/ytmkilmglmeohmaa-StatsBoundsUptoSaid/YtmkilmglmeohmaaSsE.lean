/- The program's histogram. Conditions: those that each theorem names. -/
import Derived.Test.YtmkilmglmeohmaaSsD
namespace Go.Proofs.Ytmkilmglmeohmaa
set_option linter.unusedVariables false
open Go Go.RowKit Go.Sort
namespace Ss
/-- How many buckets. -/
def many (k : Int) (n : Nat) : Nat := (min (max k 1) (n : Int)).toNat
theorem many_is (k : Int) (n : Nat) : min (max k 1) (n : Int) = (many k n : Int) := by unfold many; omega
theorem many_le (k : Int) (n : Nat) : many k n ≤ n := by unfold many; omega
theorem many_pos (k : Int) (n : Nat) (h : 0 < n) : 0 < many k n := by unfold many; omega
abbrev OwnB (w : World) (base : Nat) (v : Value) (L : List Bk) : Prop := Rk.Own encB 4 36 w base v L
theorem make_bks (n : Nat) (hn : n ≤ 1073741824) (w : World) (base : Nat) (hb : base ≤ w.heap.size) :
    ∃ o, (Instr.makeSlice 24 (.int .i64 (n : Int)) (.int .i64 (n : Int))).run Try.prog w = .ok (.slice (some ⟨w.heap.size, 0, none⟩) n n) (w.alloc o) ∧ OwnB (w.alloc o) base (.slice (some ⟨w.heap.size, 0, none⟩) n n) (List.replicate n (0, 0, 0, 0)) := by
  obtain ⟨i0, hi, hz0, hz1, hz2⟩ := info_parts (show (Try.prog.info? 36).map (fun i => (i.zero, i.size, i.bytes)) = some (some (.agg #[.int .i64 0, .int .i64 0, .int .i64 0, .int .i64 0]), 4, 32) by kernel_rfl)
  exact Rk.make_own flatB i0 _ hi hz0 hz1 hz2 (0, 0, 0, 0) rfl n (by omega) (by unfold maxLen; omega) w base hb
theorem mul_small {a b n : Nat} (ha : a ≤ n) (hb : b ≤ n) (hn : n ≤ 1073741824) : a * b ≤ 1152921504606846976 := Nat.le_trans (Nat.mul_le_mul ha hb) (Nat.mul_le_mul hn hn)
/-- The place of a cut, as the machine computes it. -/
theorem cut_run {n b j : Nat} (hn : n ≤ 1073741824) (hj : j ≤ n) (hb : 0 < b) : wrap64 ((j : Int) * (n : Int)) = ((j * n : Nat) : Int) ∧ (((j * n : Nat) : Int).tdiv (b : Int)) = (cut n b j : Int) ∧ wrap64 (cut n b j : Int) = (cut n b j : Int) := by
  have h1 := mul_small (a := j) (b := n) hj (Nat.le_refl n) hn
  have h2 : (((j * n : Nat) : Int).tdiv (b : Int)) = (cut n b j : Int) := by
    rw [Int.tdiv_eq_ediv_of_nonneg (by omega)]; unfold cut; rw [Int.natCast_ediv]
  refine ⟨by rw [← Int.natCast_mul]; exact wrap64_in _ (by omega), h2, wrap64_in _ ?_⟩
  have : cut n b j ≤ j * n := Nat.div_le_self _ _
  omega
theorem bks_upd {L : List Int} {b j : Nat} (h : j < b) : ((bks L b).take j ++ List.replicate (b - j) ((0, 0, 0, 0) : Bk)).set j (bkOf (piece L b j)) = (bks L b).take (j + 1) ++ List.replicate (b - (j + 1)) (0, 0, 0, 0) := by
  have hl := bks_len L b
  have ht : ((bks L b).take j).length = j := by rw [List.length_take, hl]; omega
  rw [List.set_append_right _ _ (by omega), ht, Nat.sub_self]
  obtain ⟨r, hr⟩ : ∃ r, b - j = r + 1 := ⟨b - j - 1, by omega⟩
  rw [hr, List.replicate_succ, List.set_cons_zero, show b - (j + 1) = r by omega, List.take_add_one, List.getElem?_eq_getElem (by rw [hl]; exact h), bks_at]
  simp
theorem drop_piece {X L : List Int} {b j : Nat} (hb : j < b) (hX : X.drop (cut L.length b j) = L.drop (cut L.length b j)) : (X.drop (cut L.length b j)).take (cut L.length b (j + 1) - cut L.length b j) = piece L b j := by
  rw [hX]; rfl
theorem drop_more {X L : List Int} {a c : Nat} (h : X.drop a = L.drop a) (hc : a ≤ c) : X.drop c = L.drop c := by
  obtain ⟨d, rfl⟩ : ∃ d, c = a + d := ⟨c - a, by omega⟩
  rw [← List.drop_drop, ← List.drop_drop, h]
set_option maxHeartbeats 4000000 in
set_option maxRecDepth 100000 in
theorem hist_any (L : List Int) (v : Value) (q : Int) (w : World) (h : IntsAt w v L) (hl : L.length ≤ 1073741824) :
    Calls Try.prog 17 #[v, .int .i64 q] w fun e w' => ∃ u, e = .returned u ∧ OwnB w' w.heap.size u (bks (srt L) (many q L.length)) ∧ Below w.heap.size w w' := by
  have C1 := Lib.hid (Rx.clone_own L v w h (by omega))
  have HL := Lib.hid hl
  obtain ⟨n, hn⟩ : ∃ n, n = L.length := ⟨_, rfl⟩
  have HN := Lib.hid hn
  rw [← hn]
  obtain ⟨b, hb⟩ : ∃ b, b = many q n := ⟨_, rfl⟩
  have hq := many_is q n
  have hbn := many_le q n
  have hbp := many_pos q n
  rw [← hb] at hq hbn hbp ⊢
  have HBN := Lib.hid hbn
  have HBP := Lib.hid hbp
  have HNL : Hid (n ≤ 1073741824) := Lib.hid (by omega)
  obtain ⟨S, hSS⟩ : ∃ S, S = srt L := ⟨_, rfl⟩
  have HS : Hid (Rx.srtL L = S) := Lib.hid hSS.symm
  have HSL : Hid (S.length = n) := Lib.hid (by rw [hSS, srt_len]; exact hn.symm)
  rw [← hSS]
  clear h hl hn hb hbn hbp hSS
  go_enter Try.func17, Try.ntmps17
  go_wp2_with fail
  refine C1.out.mono ?_
  clear C1
  rintro e w1 ⟨u, rfl, ho1, hb1⟩
  have C2 := Lib.hid (Rx.sort_own L u w.heap.size w1 ho1 hb1.size (by have := HL.out; omega))
  have HB1 := Lib.hid hb1
  clear ho1 hb1
  go_wp2_with fail
  refine C2.out.mono ?_
  clear C2
  rintro e w2 ⟨rfl, ho2, hb2⟩
  rw [HS.out] at ho2
  have HB2 := Lib.hid (HB1.out.trans hb2)
  obtain ⟨p, c, rfl⟩ := ho2.at.form
  rw [HSL.out] at ho2 ⊢
  have hu : ∀ g, (Value.slice p n c).ownBlock = some g → w.heap.size ≤ g ∧ g < w2.heap.size := fun g hg => ho2.block g hg
  have HU := Lib.hid hu
  have HO2 := Lib.hid ho2
  obtain ⟨o, hmk, hl0⟩ := make_bks b (by have := HBN.out; have := HNL.out; omega) w2 w.heap.size HB2.out.size
  have HMK := Lib.hid hmk
  have HL0 := Lib.hid hl0
  have HB3 : Hid (Below w.heap.size w (w2.alloc o)) := Lib.hid (HB2.out.alloc HB2.out.size o)
  have HO3 : Hid (Own (w2.alloc o) w.heap.size (.slice p n c) S) := Lib.hid (own_below HO2.out (Rk.fresh_alloc w2 o))
  have HZ : Hid (w2.heap.size < (w2.alloc o).heap.size) := Lib.hid (by simp)
  clear hb2 ho2 hl0 hmk HB1 HL HN HB2 HO2 hu HS
  go_wp2_with fail
  rw [HMK.out]
  go_wp2_with fail
  generalize w2.alloc o = w3 at *
  generalize w2.heap.size = B at *
  clear HMK
  go_loopw [8, 9, 10, 24] (fun x f t i wr => ∃ j : Nat, j ≤ b ∧ i = .int .i64 j ∧ Below w.heap.size w wr ∧ w3.heap.size ≤ wr.heap.size ∧ OwnB wr w.heap.size (.slice (some ⟨B, 0, none⟩) b b) ((bks S b).take j ++ List.replicate (b - j) (0, 0, 0, 0)) ∧ ∃ X, Own wr w.heap.size (.slice p n c) X ∧ X.length = n ∧ X.drop (cut n b j) = S.drop (cut n b j)) (fun _ _ _ i _ => b - (intOf i).toNat)
  case atStart => exact ⟨0, Nat.zero_le _, rfl, HB3.out, Nat.le_refl _, by simpa using HL0.out, S, HO3.out, HSL.out, rfl⟩
  case round =>
    obtain ⟨j, hj, rfl, hbw, hsz, hlb, X, hx1, hx2, hx3⟩ := hrel
    have HBW := Lib.hid hbw
    have HSZ := Lib.hid hsz
    have HLB := Lib.hid hlb
    obtain ⟨wo, rfl⟩ : ∃ wo : World, wo = wr := ⟨_, rfl⟩
    by_cases hlt : j < b
    · have hb0 : 0 < b := by omega
      have hbn := HBN.out
      have hnl := HNL.out
      have hn0 : 0 < n := by omega
      obtain ⟨g, cap, hgc, hg1, hg2⟩ := own_form hx1 (by omega)
      injection hgc with e1 e2 e3
      subst e1; subst e3; clear e2
      have R := Lib.hid (cut_run (n := n) (b := b) (j := j) hnl (by omega) hb0)
      have R2 := Lib.hid (cut_run (n := n) (b := b) (j := j + 1) hnl (by omega) hb0)
      have hup := cut_up (n := n) (b := b) (i := j) hb0 hbn
      have hle := cut_le (n := n) (b := b) (i := j + 1) hb0 (by omega)
      have HW1 : Hid (wrap64 ((j : Int) + 1) = ((j + 1 : Nat) : Int)) := Lib.hid (by rw [wrap64_in _ (by omega)]; rfl)
      obtain ⟨m, hm⟩ : ∃ m, m = cut n b (j + 1) - cut n b j := ⟨_, rfl⟩
      have hoX : cut n b j + m = cut n b (j + 1) := by omega
      have HCB := Lib.hid (bucket_any X w.heap.size g n c (cut n b j) m wo.drew (own_below hx1 (show Below _ _ wo.drew from ⟨rfl, rfl, rfl, Nat.le_refl _, fun _ _ => rfl⟩)) (by omega) (by omega) (by omega))
      have hpc : (X.drop (cut n b j)).take m = piece S b j := by rw [hm, ← HSL.out]; exact drop_piece hlt (by rw [HSL.out]; exact hx3)
      rw [hpc] at HCB
      have HGL : Hid (w.heap.size ≤ g) := Lib.hid hg1
      have HCAP : Hid (n ≤ c) := Lib.hid (by
        rcases hx1.2 with ⟨e, _⟩ | ⟨_, _, _, e, _, _, h1, _⟩
        · cases e
        · injection e with _ _ e3
          omega)
      have HX3 := Lib.hid hx3
      have HX2 := Lib.hid hx2
      have HGB : Hid (g < B) := Lib.hid (HU.out g rfl).2
      have HHUP := Lib.hid hup
      have HHLE := Lib.hid hle
      have HM := Lib.hid hoX
      obtain ⟨a, ha⟩ : ∃ a, a = cut n b j := ⟨_, rfl⟩
      obtain ⟨a2, ha2⟩ : ∃ a2, a2 = cut n b (j + 1) := ⟨_, rfl⟩
      obtain ⟨P, hP⟩ : ∃ P, P = j * n := ⟨_, rfl⟩
      obtain ⟨P2, hP2⟩ : ∃ P2, P2 = (j + 1) * n := ⟨_, rfl⟩
      obtain ⟨j1, hj1⟩ : ∃ j1, j1 = j + 1 := ⟨_, rfl⟩
      have HJ1 := Lib.hid hj1
      have HA2' : Hid (a2 = cut n b j1) := Lib.hid (by rw [hj1]; exact ha2)
      have HW1' : Hid (wrap64 ((j : Int) + 1) = ((j + 1 : Nat) : Int)) := HW1
      rw [← ha, ← hP] at R
      rw [← ha2, ← hP2, ← hj1] at R2
      rw [← hj1] at HW1
      rw [← ha] at HCB HX3
      rw [← ha, ← ha2] at HHUP
      rw [← ha2] at HHLE
      rw [← ha, ← ha2] at HM
      rw [← ha] at hup
      rw [← ha2] at hup hle
      clear hx1 hx2 hx3 hlb hsz hbw hpc hm hoX hP hP2 ha ha2 hj1 HU HBP hg1 hg2
      have hab : (a : Int) ≤ a2 := by omega
      have han : (a2 : Int) ≤ c := by have := HCAP.out; omega
      have hne : a2 - a = m := by have := HM.out; omega
      have hne0 : ¬ (a2 = a) := by omega
      have hne1 : ¬ (a = a2) := by omega
      have HNE := Lib.hid hne
      have hb1 : ((b : Int) == 0) = false := by simp; omega
      have hjb : (j : Int) < b := by omega
      obtain ⟨r1, r2, r3⟩ := R.out
      obtain ⟨s1, s2, s3⟩ := R2.out
      have w1' := HW1.out
      clear R R2 HW1 hup hle hnl hbn hn0
      go_upto_region 8 with fail
      go_region
      rw [r3, s3]
      clear r1 r2 r3 s1 s2 s3 w1' hne
      have HBD : Hid (Below w.heap.size w wo.drew) := Lib.hid (HBW.out.drew)
      have HLD : Hid (OwnB wo.drew w.heap.size (.slice (some ⟨B, 0, none⟩) b b) ((bks S b).take j ++ List.replicate (b - j) (0, 0, 0, 0))) := Lib.hid (Rk.own_below HLB.out (show Below _ _ wo.drew from ⟨rfl, rfl, rfl, Nat.le_refl _, fun _ _ => rfl⟩))
      have HSD : Hid (w3.heap.size ≤ wo.drew.heap.size) := HSZ
      clear HBW HLB HSZ
      generalize wo.drew = wd at *
      go_wp2_with fail
      rw [HNE.out]
      refine HCB.out.mono ?_
      clear HCB
      rintro e w4 ⟨rfl, ⟨X', hX1, hX2, hX3⟩, hg4⟩
      have hB4 : w4.heap[B]? = wd.heap[B]? := grown_at hg4 (by have := HZ.out; have := HSD.out; omega) (by have := HGB.out; omega)
      have hL4 : OwnB w4 w.heap.size (.slice (some ⟨B, 0, none⟩) b b) ((bks S b).take j ++ List.replicate (b - j) (0, 0, 0, 0)) := Rk.own_keep HLD.out (fun g' hg' _ => by
        obtain rfl : B = g' := by simpa [Value.ownBlock] using hg'
        exact hB4)
      have hll : ((bks S b).take j ++ List.replicate (b - j) ((0, 0, 0, 0) : Bk)).length = b := by simp [bks_len]; omega
      have hjl : j < ((bks S b).take j ++ List.replicate (b - j) ((0, 0, 0, 0) : Bk)).length := by rw [hll]; exact hlt
      obtain ⟨y, hy⟩ : ∃ y, y = ((bks S b).take j ++ List.replicate (b - j) ((0, 0, 0, 0) : Bk))[j] := ⟨_, rfl⟩
      have k0 := Rk.own_cell flatB hL4 j hjl (i := 0) (u := .int .i64 y.1) (by rw [hy]; rfl)
      have k1 := Rk.own_cell flatB hL4 j hjl (i := 1) (u := .int .i64 y.2.1) (by rw [hy]; rfl)
      have k2 := Rk.own_cell flatB hL4 j hjl (i := 2) (u := .int .i64 y.2.2.1) (by rw [hy]; rfl)
      have k3 := Rk.own_cell flatB hL4 j hjl (i := 3) (u := .int .i64 y.2.2.2) (by rw [hy]; rfl)
      rw [Nat.add_zero] at k0
      obtain ⟨c0, f0⟩ := k0
      obtain ⟨c1, f1⟩ := k1
      obtain ⟨c2, f2⟩ := k2
      obtain ⟨c3, f3⟩ := k3
      obtain ⟨x, hx⟩ : ∃ x, x = bkOf (piece S b j) := ⟨_, rfl⟩
      have HS5 := Lib.hid (Rk.own_put flatB hL4 j hjl x)
      rw [hx, bks_upd hlt, ← hx] at HS5
      rw [← hx]
      have HX := Lib.hid hx
      have HBB : Hid (Below w.heap.size w w4) := Lib.hid (HBD.out.grown hg4 HBD.out.size (fun q hq => by injection hq with hq; subst hq; have := HGL.out; exact this))
      have HX1 : Hid (∃ X, Own w4 w.heap.size (.slice (some ⟨g, 0, none⟩) n c) X ∧ X.length = n ∧ X.drop a2 = S.drop a2) := Lib.hid ⟨X', hX1, hX2.trans HX2.out, by
        rw [HM.out] at hX3
        rw [hX3]
        exact drop_more HX3.out (by have := HHUP.out; omega)⟩
      have HSD4 : Hid (w3.heap.size ≤ w4.heap.size) := Lib.hid (Nat.le_trans HSD.out hg4.size)
      have HBL : Hid (w.heap.size ≤ B) := Lib.hid (Rk.own_block hL4 B rfl).1
      clear hy hx hX1 hX2 hX3 hg4 hB4 hL4 hll hjl HLD HBD HSD HX3 HX2 HM HHUP HHLE HCAP
      obtain ⟨x0, x1, x2, x3⟩ := x
      obtain ⟨y0, y1, y2, y3⟩ := y
      rw [show (Value.agg (encB (x0, x1, x2, x3)).toArray) = .agg #[.int .i64 x0, .int .i64 x1, .int .i64 x2, .int .i64 x3] from rfl]
      go_wp2_with fail
      go_roundw
      case rel =>
        refine ⟨j + 1, by omega, congrArg _ HW1'.out, ((((HBB.out.setCell (p := ⟨B, j * 4, none⟩) HBL.out _).setCell (p := ⟨B, j * 4 + 1, none⟩) HBL.out _).setCell (p := ⟨B, j * 4 + 2, none⟩) HBL.out _).setCell (p := ⟨B, j * 4 + 3, none⟩) HBL.out _), by simpa using HSD4.out, HS5.out, ?_⟩
        obtain ⟨X, h1, h2, h3⟩ := HX1.out
        have n0 : (Value.slice (some ⟨g, 0, none⟩) n c).ownBlock ≠ some B := by have := HGB.out; simp [Value.ownBlock]; omega
        exact ⟨X, own_set_other (own_set_other (own_set_other (own_set_other h1 _ _ _ n0) _ _ _ n0) _ _ _ n0) _ _ _ n0, h2, by rw [← HJ1.out, ← HA2'.out]; exact h3⟩
      case measure =>
        rw [HW1'.out]
        exact int_less hlt
    · obtain rfl : j = b := by omega
      have HL9 : Hid (OwnB wo w.heap.size (.slice (some ⟨B, 0, none⟩) j j) (bks S j)) := Lib.hid (by
        have := HLB.out
        rw [Nat.sub_self, List.take_of_length_le (by rw [bks_len]; exact Nat.le_refl _)] at this
        simpa using this)
      clear hx1 hx2 hx3 hlb hsz hbw hq
      go_wp2_with fail
      go_ret
      exact ⟨_, rfl, HL9.out, HBW.out⟩
end Ss
end Go.Proofs.Ytmkilmglmeohmaa
