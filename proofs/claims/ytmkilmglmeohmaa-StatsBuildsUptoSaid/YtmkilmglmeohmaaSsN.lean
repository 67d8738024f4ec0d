/- The document's Build. Conditions: those that each theorem names. -/
import Derived.Test.YtmkilmglmeohmaaSsM
import Derived.Deep.CutBlock
import Derived.Deep.DeepCutAuto
import Derived.Deep.RegionLaw
namespace Go.Proofs.Ytmkilmglmeohmaa
set_option linter.unusedVariables false
open Go Go.RowKit Go.Sort
namespace Ss
theorem grown_alloc {w w' : World} {r : Option Nat} (h : w.grownBy w' r) (o : Obj) : w.grownBy (w'.alloc o) r :=
  ⟨h.os, h.tape, h.output, by have := h.size; simp; omega, fun k hk hne => by
    rw [Rk.heap_old _ _ (Nat.lt_of_lt_of_le hk h.size)]
    exact h.block k hk hne⟩
theorem grown_drew {w w' : World} {r : Option Nat} (h : w.grownBy w' r) : w.grownBy w'.drew r := ⟨h.os, h.tape, h.output, h.size, h.block⟩
theorem grown_drewN {w w' : World} {r : Option Nat} (h : w.grownBy w' r) (n : Nat) : w.grownBy (w'.drewN n) r := ⟨h.os, h.tape, h.output, h.size, h.block⟩
theorem grown_self (w : World) (r : Option Nat) : w.grownBy w r := ⟨rfl, rfl, rfl, Nat.le_refl _, fun _ _ _ => rfl⟩
theorem grown_below {w w1 w' : World} {r : Option Nat} (h : w.grownBy w1 r) (h2 : Below w1.heap.size w1 w') : w.grownBy w' r :=
  ⟨h2.os.trans h.os, h2.tape.trans h.tape, h2.output.trans h.output, Nat.le_trans h.size h2.size, fun k hk hne => (h2.block k (Nat.lt_of_lt_of_le hk h.size)).trans (h.block k hk hne)⟩
/-- Beyond the one block all is as it was. -/
theorem grown_small {B : Nat} {w w1 w' : World} {g : Nat} (h : Below B w w1) (h2 : w1.grownBy w' (some g)) (hB : B ≤ w1.heap.size) (hg : B ≤ g) : Below B w w' :=
  ⟨h2.os.trans h.os, h2.tape.trans h.tape, h2.output.trans h.output, Nat.le_trans h.size h2.size, fun k hk => (h2.block k (by omega) (fun e => by injection e with e; omega)).trans (h.block k hk)⟩
theorem many_two {q : Int} {n : Nat} (h : 0 < n) : max 1 (min q (n : Int)) = (many q n : Int) := by unfold many; omega
theorem many_none {q : Int} : max 1 (min q ((0 : Nat) : Int)) = 1 := by omega
theorem many_zero (q : Int) : many q 0 = 0 := by unfold many; omega
abbrev zS : Obj := .cells #[.int .i64 0, .slice none 0 0, .slice none 0 0] 27
theorem grown_then2 {w w1 w' : World} {r : Option Nat} (h : w.grownBy w1 r) (h2 : Below w.heap.size w1 w') : w.grownBy w' r :=
  ⟨h2.os.trans h.os, h2.tape.trans h.tape, h2.output.trans h.output, Nat.le_trans h.size h2.size, fun k hk hne => (h2.block k hk).trans (h.block k hk hne)⟩
theorem grown_other {w w1 w' : World} {r : Option Nat} {X : Nat} (h : w.grownBy w1 r) (h2 : w1.grownBy w' (some X)) (hX : w.heap.size ≤ X) : w.grownBy w' r :=
  ⟨h2.os.trans h.os, h2.tape.trans h.tape, h2.output.trans h.output, Nat.le_trans h.size h2.size, fun k hk hne => (h2.block k (Nat.lt_of_lt_of_le hk h.size) (fun e => by injection e with e; omega)).trans (h.block k hk hne)⟩
theorem grown_setAt {w w' : World} {g k : Nat} {x : Value} (h : w.grownBy w' (some g)) : w.grownBy (w'.setCell ⟨g, k, none⟩ x) (some g) :=
  ⟨h.os, h.tape, h.output, by simpa using h.size, fun j hj hne => by
    rw [heap_setCell_other _ _ _ _ (by intro e; apply hne; rw [e])]
    exact h.block j hj hne⟩
/-- How many are kept of the first k. -/
def kn (p : List Int) (k : Nat) : Nat := (Lib.compactUpTo p.toArray k).length
theorem kn_zero (p : List Int) : kn p 0 = 0 := rfl
theorem kn_le (p : List Int) (k : Nat) : kn p k ≤ k := by
  unfold kn Lib.compactUpTo
  rw [List.length_map]
  have := List.length_filter_le (Lib.keeps p.toArray) (List.range k)
  simpa using this
theorem kn_first (p : List Int) : kn p 1 = 1 := by
  unfold kn
  rw [Lib.compactUpTo_succ, if_pos (Lib.keeps_lt_one _ 0 (by omega))]
  rfl
theorem getB {p : List Int} {k : Nat} {x : Int} (h : p[k]? = some x) : p.toArray[k]! = x := by
  obtain ⟨hk, rfl⟩ := List.getElem?_eq_some_iff.1 h
  rw [getElem!_pos p.toArray k (by simpa using hk)]
  simp
theorem kn_new {p : List Int} {i : Nat} {x y : Int} (hx : p[i]? = some x) (hy : p[i + 1]? = some y) (h : ¬ x = y) : kn p (i + 1 + 1) = kn p (i + 1) + 1 := by
  unfold kn
  rw [Lib.compactUpTo_succ, if_pos (Lib.keeps_pos (by rw [getB hy, Nat.add_sub_cancel, getB hx]; exact fun e => h e.symm))]
  simp
theorem kn_same {p : List Int} {i : Nat} {x y : Int} (hx : p[i]? = some x) (hy : p[i + 1]? = some y) (h : x = y) : kn p (i + 1 + 1) = kn p (i + 1) := by
  unfold kn
  rw [Lib.compactUpTo_succ, if_neg (by rw [Lib.keeps_neg (by omega) (by rw [getB hy, Nat.add_sub_cancel, getB hx, h])]; decide)]
  simp
theorem bkOf_is (p : List Int) (x0 x1 : Int) (h0 : p.getD 0 0 = x0) (h1 : p.getD (p.length - 1) 0 = x1) : bkOf p = (x0, x1, (p.length : Int), (kn p p.length : Int)) := by
  unfold bkOf
  rw [h0, h1]
  rfl
/-- One bucket appended, in a new block ahead. -/
theorem append_bk {w : World} {base : Nat} {v : Value} {A : List Bk} (x : Bk) (hown : OwnB w base v A) (hb : (A.length + 1) * 32 ≤ 140737488355328) (hbase : base ≤ w.heap.size) :
    ∃ g cap w', (∀ ty, (Builtin.append_ #[24, 24] ty #[v, .slice (some ⟨w.heap.size, 0, none⟩) 1 1]).run Try.prog (w.alloc (bO x.1 x.2.1 x.2.2.1 x.2.2.2)) = .ok (.slice (some ⟨g, 0, none⟩) (A.length + 1) cap) w') ∧ OwnB w' base (.slice (some ⟨g, 0, none⟩) (A.length + 1) cap) (A ++ [x]) ∧ Below base w w' := by
  have ho := Rk.own_below hown (Rk.fresh_alloc w (bO x.1 x.2.1 x.2.2.1 x.2.2.2))
  obtain ⟨v', w', hr, h2, h3, h4, g', cap, rfl, h5, h6⟩ := Rk.append_el flatB (x := x) ho (Rk.heap_last w (bO x.1 x.2.1 x.2.2.1 x.2.2.2)) hb (by unfold maxLen; omega) (by simp; omega)
  exact ⟨g', cap, w', hr, h2, ((Below.refl base w).alloc hbase _).grown h3 (by simp; omega) (fun j hj => (Rk.own_block hown j hj).1)⟩
/-- The document's state while it builds: its block holds so many, the buckets at vb, the words at vx. -/
def StAt (SB : Nat) (sm : Int) (vb vx : Value) (w : World) : Prop := w.heap[SB]? = some (.cells #[.int .i64 sm, vb, vx] 27 (0, 0))
/-- The buckets' loop behind i rounds. -/
def InB (SB base : Nat) (sm : Int) (S : List Int) (b i : Nat) (w2 wx : World) : Prop := ∃ vb, StAt SB sm vb (.slice none 0 0) wx ∧ OwnB wx base vb ((bks S b).take i) ∧ w2.grownBy wx (some SB)
set_option maxHeartbeats 8000000 in
set_option maxRecDepth 100000 in
theorem rbuild_any (L : List Int) (M : List ByteArray) (v u : Value) (q : Int) (w : World) (hv : IntsAt w v L) (hu : TxtsAt w u M) (hl : L.length ≤ 1048576) (hm : M.length * 16 + 16 ≤ 140737488355328) (hmm : ∀ s ∈ M, s.size ≤ maxLen) :
    Calls Try.prog 9 #[v, u, .int .i64 q] w fun e w' => ∃ p1 c1 p2 c2, e = .returned (.agg #[.int .i64 ((L.length + M.length : Nat) : Int), .slice p1 (bks (srt L) (many q L.length)).length c1, .slice p2 (runs (srt (hs M))).length c2]) ∧ OwnB w' w.heap.size (.slice p1 (bks (srt L) (many q L.length)).length c1) (bks (srt L) (many q L.length)) ∧ OwnE w' w.heap.size (.slice p2 (runs (srt (hs M))).length c2) (runs (srt (hs M))) ∧ Below w.heap.size w w' := by
  obtain ⟨pv, cv, rfl⟩ := hv.form
  obtain ⟨pu, cu, rfl⟩ := hu.form
  obtain ⟨sm, hsm⟩ : ∃ sm : Int, sm = ((L.length + M.length : Nat) : Int) := ⟨_, rfl⟩
  have hsum : wrap64 ((L.length : Int) + (M.length : Int)) = sm := by rw [wrap64_in _ (by omega)]; omega
  have HS2 : Hid ((L.length : Int) + (M.length : Int) = sm) := Lib.hid (by omega)
  rw [← hsm]
  have hb1 : Below w.heap.size w ((w.alloc zS).alloc (sO sm (.slice none 0 0) (.slice none 0 0))) := ((Rk.fresh_alloc w zS).alloc (by simp) _)
  have hz1 : ((w.alloc zS).alloc (sO sm (.slice none 0 0) (.slice none 0 0))).heap[w.heap.size]? = some (.cells #[.int .i64 0, .slice none 0 0, .slice none 0 0] 27 (0, 0)) := by rw [Rk.heap_old _ _ (by simp), Rk.heap_last]
  have hz2 : ((w.alloc zS).alloc (sO sm (.slice none 0 0) (.slice none 0 0))).heap[w.heap.size + 1]? = some (.cells #[.int .i64 sm, .slice none 0 0, .slice none 0 0] 27 (0, 0)) := by
    have := Rk.heap_last (w.alloc zS) (sO sm (.slice none 0 0) (.slice none 0 0))
    rw [show (w.alloc zS).heap.size = w.heap.size + 1 by simp] at this
    exact this
  have hs1 : ((w.alloc zS).alloc (sO sm (.slice none 0 0) (.slice none 0 0))).heap.size = w.heap.size + 2 := by simp
  have H1 := Lib.hid (rsorted_any L _ _ (hv.below hb1) (by omega))
  have HUC := Lib.hid (txt_cells hu)
  have HB1 := Lib.hid hb1
  have HZ1 := Lib.hid hz1
  have HZ2 := Lib.hid hz2
  have HS1 := Lib.hid hs1
  have HML := Lib.hid hm
  have HMM := Lib.hid hmm
  obtain ⟨n, hn⟩ : ∃ n, n = L.length := ⟨_, rfl⟩
  obtain ⟨S, hS⟩ : ∃ S, S = srt L := ⟨_, rfl⟩
  have HSL : Hid (S.length = n) := Lib.hid (by rw [hS, srt_len]; exact hn.symm)
  have HSU : Hid (S.Pairwise (· ≤ ·)) := Lib.hid (by rw [hS]; exact srt_up L)
  have HNL : Hid (n ≤ 1048576) := Lib.hid (by omega)
  rw [← hS] at H1 ⊢
  rw [← hn] at hsum HS2 H1 ⊢
  obtain ⟨b, hb⟩ : ∃ b, b = many q n := ⟨_, rfl⟩
  have HBN : Hid (b ≤ n) := Lib.hid (by rw [hb]; exact many_le q n)
  have HBZ : Hid (n = 0 → b = 0) := Lib.hid (fun h => by rw [hb, h]; exact many_zero q)
  have HBP : Hid (0 < n → 0 < b) := Lib.hid (by rw [hb]; exact many_pos q n)
  obtain ⟨b2, hb2⟩ : ∃ b2 : Nat, max 1 (min q (n : Int)) = (b2 : Int) := ⟨(max 1 (min q (n : Int))).toNat, by omega⟩
  have HB2 : Hid ((n = 0 → b2 = 1) ∧ (0 < n → b2 = b)) := Lib.hid ⟨fun h => by subst h; have := many_none (q := q); omega, fun h => by have := many_two (q := q) h; omega⟩
  rw [← hb]
  clear hv hu hl hm hmm hsm hb1 hz1 hz2 hs1 hn hS hb
  go_enter Try.func9, Try.ntmps9
  go_wp2_with fail
  generalize (w.alloc zS).alloc (sO sm (.slice none 0 0) (.slice none 0 0)) = w1 at *
  refine H1.out.mono ?_
  clear H1
  rintro e w2 ⟨vl, rfl, hol, hbl⟩
  obtain ⟨pl, cl, rfl⟩ := hol.at.form
  rw [HSL.out] at hol ⊢
  have HOL := Lib.hid hol
  have HBL := Lib.hid hbl
  have HST0 : Hid (StAt (w.heap.size + 1) sm (.slice none 0 0) (.slice none 0 0) w2) := Lib.hid ((hbl.block _ (by rw [HS1.out]; omega)).trans HZ2.out)
  have HZZ : Hid (w2.heap[w.heap.size]? = some (.cells #[.int .i64 0, .slice none 0 0, .slice none 0 0] 27 (0, 0))) := Lib.hid ((hbl.block _ (by rw [HS1.out]; omega)).trans HZ1.out)
  clear hol hbl HZ1 HZ2
  go_upto_block 0 with fail
  go_cut [11, 12, 13, 14] (fun i pt x k wx => InB (w.heap.size + 1) w2.heap.size sm S b b w2 wx)
  case first =>
    go_wp2_with fail
    go_loopw [11, 12, 13, 14] (fun i pt x k wx => ∃ j : Nat, j ≤ b ∧ i = .int .i64 j ∧ InB (w.heap.size + 1) w2.heap.size sm S b j w2 wx) (fun i _ _ _ _ => b - (intOf i).toNat)
    case atStart => exact ⟨0, Nat.zero_le _, rfl, _, HST0.out, Rk.own_none _ _, grown_self _ _⟩
    case round =>
      obtain ⟨j, hj, rfl, hin⟩ := hrel
      have HIN := Lib.hid hin
      clear hin
      obtain ⟨wo, rfl⟩ : ∃ wo : World, wo = wr := ⟨_, rfl⟩
      by_cases hn0 : n = 0
      · have hb20 := HB2.out.1 hn0
        have hb00 := HBZ.out hn0
        obtain rfl : j = b := by omega
        have hjb : (j : Int) < (b2 : Int) := by omega
        have hnn : ¬ (0 : Int) < (n : Int) := by omega
        clear hn0 hb20 hb00 hb2 hj
        go_wp2_with fail
        go_meet
        case rel => exact HIN.out
      · have hn1 : 0 < n := by omega
        have hb20 := HB2.out.2 hn1
        have hnn : (0 : Int) < (n : Int) := by omega
        subst hb20
        clear hn0
        by_cases hlt : j < b2
        · obtain ⟨vb, hst, hob, hgr⟩ := HIN.out
          obtain ⟨pb, cb, rfl⟩ := (Rk.own_row flatB hob).form
          have hbn := HBN.out
          have hnl := HNL.out
          have hll : ((bks S b2).take j).length = j := by rw [List.length_take, bks_len]; omega
          rw [hll] at hst hob
          obtain ⟨gl, cap, hgc, hg1, hg2⟩ := own_form HOL.out (by rw [HSL.out]; omega)
          injection hgc with e1 e2 e3
          subst e1; subst e3; clear e2
          have HCL : Hid (∀ k x, S[k]? = some x → ∀ W : World, W.heap[gl]? = w2.heap[gl]? → W.cell? ⟨gl, k, none⟩ = some (.int .i64 x)) := Lib.hid (fun k x hx W hW => by
            rw [← (own_cell HOL.out k x hx).1]
            exact World.cell?_of_block (w := w2) hW)
          have hglS : ¬ gl = w.heap.size + 1 := by have := HS1.out; omega
          have hg3 : wo.heap[gl]? = w2.heap[gl]? := grown_at hgr hg2 hglS
          have HCAP : Hid (n ≤ cl) := Lib.hid (by
            rcases HOL.out.2 with ⟨e, _⟩ | ⟨_, _, _, e, _, _, h1, _⟩
            · cases e
            · injection e with _ _ e3
              omega)
          have R := Lib.hid (cut_run (n := n) (b := b2) (j := j) (by omega) (by omega) (by omega))
          have R2 := Lib.hid (cut_run (n := n) (b := b2) (j := j + 1) (by omega) (by omega) (by omega))
          have hup := cut_up (n := n) (b := b2) (i := j) (by omega) hbn
          have hle := cut_le (n := n) (b := b2) (i := j + 1) (by omega) (by omega)
          have HW1 : Hid (wrap64 ((j : Int) + 1) = ((j + 1 : Nat) : Int)) := Lib.hid (by rw [wrap64_in _ (by omega)]; rfl)
          have HW1' : Hid (wrap64 ((j : Int) + 1) = ((j + 1 : Nat) : Int)) := HW1
          obtain ⟨pc, hpc⟩ : ∃ pc, pc = piece S b2 j := ⟨_, rfl⟩
          have HPC := Lib.hid hpc
          obtain ⟨m, hm⟩ : ∃ m, m = pc.length := ⟨_, rfl⟩
          have hml : m = cut n b2 (j + 1) - cut n b2 j := by rw [hm, hpc, piece_len hlt, HSL.out]
          have HPX : Hid (∀ k (hk : k < m), ∃ x, pc.getD k 0 = x ∧ pc[k]? = some x ∧ S[cut n b2 j + k]? = some x) := Lib.hid (fun k hk => by
            have hk2 : cut n b2 j + k < S.length := by rw [HSL.out]; omega
            refine ⟨S[cut n b2 j + k], ?_, ?_, List.getElem?_eq_getElem hk2⟩
            · rw [hpc]; unfold piece
              rw [List.getD_eq_getElem?_getD, List.getElem?_take, HSL.out, if_pos (by omega), List.getElem?_drop, List.getElem?_eq_getElem hk2]; rfl
            · rw [hpc]; unfold piece
              rw [List.getElem?_take, HSL.out, if_pos (by omega), List.getElem?_drop, List.getElem?_eq_getElem hk2])
          obtain ⟨a, ha⟩ : ∃ a, a = cut n b2 j := ⟨_, rfl⟩
          obtain ⟨a2, ha2⟩ : ∃ a2, a2 = cut n b2 (j + 1) := ⟨_, rfl⟩
          obtain ⟨P, hP⟩ : ∃ P, P = j * n := ⟨_, rfl⟩
          obtain ⟨P2, hP2⟩ : ∃ P2, P2 = (j + 1) * n := ⟨_, rfl⟩
          obtain ⟨j1, hj1⟩ : ∃ j1, j1 = j + 1 := ⟨_, rfl⟩
          rw [← ha, ← hP] at R
          rw [← ha2, ← hP2, ← hj1] at R2
          rw [← hj1] at HW1
          rw [← ha] at HPX hup hml
          rw [← ha2] at hup hle hml
          have HM := Lib.hid hml
          have HMP := Lib.hid hm
          have hab : (a : Int) ≤ a2 := by omega
          have han : (a2 : Int) ≤ cl := by have := HCAP.out; omega
          have hne0 : ¬ (cl = a) := by have := HCAP.out; omega
          have hne1 : ¬ (a = cl) := fun e => hne0 e.symm
          have hm1 : 1 ≤ m := by omega
          have hb1 : ¬ b2 = 0 := by omega
          have hb0' : ¬ (b2 : Int) = 0 := by omega
          have hjb : (j : Int) < b2 := by omega
          have HNE : Hid (a2 - a = m) := Lib.hid (by omega)
          have HST := Lib.hid hst
          have HOB := Lib.hid hob
          have HGR := Lib.hid hgr
          have HG3 := Lib.hid hg3
          have HGL := Lib.hid hglS
          have HG2 := Lib.hid hg2
          have HM1 := Lib.hid hm1
          obtain ⟨r1, r2, r3⟩ := R.out
          obtain ⟨t1, t2, t3⟩ := R2.out
          have w1' := HW1.out
          have HLT := Lib.hid hlt
          have HHLE : Hid (a2 ≤ n) := Lib.hid hle
          clear hst hob hgr hg1 hg2 hg3 hglS hbn hnl hll R R2 hup hle hpc hm hml ha ha2 hP hP2 hj1 HW1 hm1 HIN hb2 hj
          go_upto_region 8 with fail
          go_region
          rw [HNE.out]
          clear r1 r2 r3 t1 t2 t3 w1' hab han hne0 hne1
          have HGRD : Hid (w2.grownBy wo.drew (some (w.heap.size + 1))) := Lib.hid (grown_drew HGR.out)
          have HSTD : Hid (StAt (w.heap.size + 1) sm (.slice pb j cb) (.slice none 0 0) wo.drew) := HST
          have HOBD : Hid (OwnB wo.drew w2.heap.size (.slice pb j cb) ((bks S b2).take j)) := Lib.hid (Rk.own_below HOB.out (show Below _ _ wo.drew from ⟨rfl, rfl, rfl, Nat.le_refl _, fun _ _ => rfl⟩))
          have HG4 : Hid (wo.drew.heap[gl]? = w2.heap[gl]?) := HG3
          clear HGR HST HOB HG3
          generalize wo.drew = wa at *
          obtain ⟨x0, hx0, _, hs0⟩ := HPX.out 0 (by have := HM1.out; omega)
          obtain ⟨k1, hk1⟩ : ∃ k1, k1 = m - 1 := ⟨_, rfl⟩
          obtain ⟨x1, hx1, _, hs1⟩ := HPX.out k1 (by have := HM1.out; omega)
          rw [Nat.add_zero] at hs0
          have HBK : Hid (bkOf pc = (x0, x1, (m : Int), (kn pc m : Int))) := Lib.hid (by rw [bkOf_is pc x0 x1 hx0 (by rw [← HMP.out, ← hk1]; exact hx1), ← HMP.out])
          have c0 := HCL.out _ _ hs0 wa HG4.out
          have c1 := HCL.out _ _ hs1 wa HG4.out
          have hgl9 : gl < wa.heap.size := Nat.lt_of_lt_of_le HG2.out HGRD.out.size
          have a0 : ∀ o, (wa.alloc o).cell? ⟨gl, a, none⟩ = some (.int .i64 x0) := fun o => by rw [← c0]; exact World.cell?_of_block (Rk.heap_old wa o hgl9)
          have a1 : ∀ o, (wa.alloc o).cell? ⟨gl, a + k1, none⟩ = some (.int .i64 x1) := fun o => by rw [← c1]; exact World.cell?_of_block (Rk.heap_old wa o hgl9)
          have hkk : wrap64 ((m : Int) - 1) = (k1 : Int) := by rw [wrap64_in _ (by have := HM1.out; have := HNE.out; have := HNL.out; have := HHLE.out; omega)]; have := HM1.out; omega
          have hkm : (k1 : Int) < m := by have := HM1.out; omega
          have hm0 : (0 : Int) < m := by have := HM1.out; omega
          clear hx0 hx1 hs0 hs1 hk1
          go_wp2_with fail
          go_region
          have hX0 := Rk.heap_last wa (bO x0 x1 (m : Int) 0)
          have HXX : Hid ((wa.alloc (bO x0 x1 (m : Int) 0)).drew.heap[wa.heap.size]? = some (.cells #[.int .i64 x0, .int .i64 x1, .int .i64 (m : Int), .int .i64 0] 36 (0, 0))) := Lib.hid hX0
          have HGRB : Hid (w2.grownBy (wa.alloc (bO x0 x1 (m : Int) 0)).drew (some (w.heap.size + 1))) := Lib.hid (grown_drew (grown_alloc HGRD.out _))
          have hfa := Rk.fresh_alloc wa (bO x0 x1 (m : Int) 0)
          have HSTB : Hid (StAt (w.heap.size + 1) sm (.slice pb j cb) (.slice none 0 0) (wa.alloc (bO x0 x1 (m : Int) 0)).drew) := Lib.hid ((hfa.block _ (Rk.lt_of_block HSTD.out)).trans HSTD.out)
          have HOBB : Hid (OwnB (wa.alloc (bO x0 x1 (m : Int) 0)).drew w2.heap.size (.slice pb j cb) ((bks S b2).take j)) := Lib.hid (Rk.own_below HOBD.out (hfa.trans (show Below wa.heap.size _ (wa.alloc (bO x0 x1 (m : Int) 0)).drew from ⟨rfl, rfl, rfl, Nat.le_refl _, fun _ _ => rfl⟩)))
          have HG5 : Hid ((wa.alloc (bO x0 x1 (m : Int) 0)).drew.heap[gl]? = w2.heap[gl]?) := Lib.hid ((hfa.block _ hgl9).trans HG4.out)
          have HSA : Hid (w2.heap.size ≤ wa.heap.size) := Lib.hid HGRD.out.size
          have HGLX : Hid (gl < wa.heap.size) := Lib.hid hgl9
          have HSBX : Hid (w.heap.size + 1 < wa.heap.size) := Lib.hid (Rk.lt_of_block HSTD.out)
          have HOLT : Hid (∀ g, (Value.slice pb j cb).ownBlock = some g → g < wa.heap.size) := Lib.hid (fun g hg => (Rk.own_block HOBD.out g hg).2)
          have HWBS : Hid (wa.heap.size < (wa.alloc (bO x0 x1 (m : Int) 0)).drew.heap.size) := Lib.hid (Rk.lt_of_block HXX.out)
          clear hX0 hfa hgl9 a0 a1 c0 c1 hkk HGRD HSTD HOBD HG4 hb1 hb0'
          generalize (wa.alloc (bO x0 x1 (m : Int) 0)).drew = wb at *
          generalize wa.heap.size = X at *
          go_wp2_with fail
          go_loopw [14] (fun i wr => ∃ k : Nat, k ≤ m ∧ i = .int .i64 k ∧ wb.grownBy wr (some X) ∧ wr.heap[X]? = some (.cells #[.int .i64 x0, .int .i64 x1, .int .i64 (m : Int), .int .i64 (kn pc k : Int)] 36 (0, 0))) (fun i _ => m - (intOf i).toNat)
          case atStart => exact ⟨0, Nat.zero_le _, rfl, grown_self _ _, by rw [kn_zero]; exact HXX.out⟩
          case round =>
            obtain ⟨k, hk, rfl, hgx, hxk⟩ := hrel
            have HGX := Lib.hid hgx
            have HXK := Lib.hid hxk
            obtain ⟨wi, rfl⟩ : ∃ wi : World, wi = wr := ⟨_, rfl⟩
            by_cases hkm2 : k < m
            · obtain ⟨y, _, hpy, hsy⟩ := HPX.out k hkm2
              have hgi : wi.heap[gl]? = w2.heap[gl]? := (grown_at hgx (by have := HGLX.out; have := HWBS.out; omega) (by have := HGLX.out; omega)).trans HG5.out
              have cy := HCL.out _ _ hsy wi hgi
              have hkle := kn_le pc k
              have hkm3 : (k : Int) < m := by omega
              have HMB : Hid (m ≤ 1048576) := Lib.hid (by have := HNE.out; have := HHLE.out; have := HNL.out; omega)
              have HKW : Hid (wrap64 ((k : Int) + 1) = ((k + 1 : Nat) : Int)) := Lib.hid (by rw [wrap64_in _ (by have := HMB.out; omega)]; rfl)
              have HNW : Hid (wrap64 ((kn pc k : Int) + 1) = ((kn pc k + 1 : Nat) : Int)) := Lib.hid (by rw [wrap64_in _ (by have := HMB.out; omega)]; rfl)
              have q3 : wi.cell? ⟨X, 3, none⟩ = some (.int .i64 (kn pc k : Int)) := by rw [Lib.cell_of_heap hxk]; rfl
              have f3 : wi.frozen? ⟨X, 3, none⟩ = false := Lib.frozen_of_heap hxk 3
              have HK2 := Lib.hid hkm2
              have HPY := Lib.hid hpy
              have HPREV : Hid (∀ i, k = i + 1 → ∃ z, pc[i]? = some z ∧ wi.cell? ⟨gl, a + i, none⟩ = some (.int .i64 z)) := Lib.hid (fun i hi => by
                obtain ⟨z, _, hpz, hsz⟩ := HPX.out i (by omega)
                exact ⟨z, hpz, HCL.out _ _ hsz wi hgi⟩)
              clear hgx hxk hpy hsy hgi hkle hkm2
              rcases k with _ | i
              · have cy0 : wi.cell? ⟨gl, a, none⟩ = some (.int .i64 y) := cy
                have q30 : wi.cell? ⟨X, 3, none⟩ = some (.int .i64 0) := q3
                have HXN : Hid (∀ nq, ((wi.drewN nq).setCell ⟨X, 3, none⟩ (.int .i64 1)).heap[X]? = some (.cells #[.int .i64 x0, .int .i64 x1, .int .i64 (m : Int), .int .i64 (kn pc 1 : Int)] 36 (0, 0))) := Lib.hid (fun nq => by
                  rw [heap_setCell_same _ _ _ _ _ _ (show (wi.drewN nq).heap[X]? = _ from HXK.out), kn_first]; rfl)
                have HGN : Hid (∀ nq x, wb.grownBy ((wi.drewN nq).setCell ⟨X, 3, none⟩ x) (some X)) := Lib.hid (fun nq x => grown_setAt (grown_drewN HGX.out nq))
                have hl0 : (0 : Int) < (m : Int) := hm0
                clear cy q3 HPREV HNW HKW hkm3
                simp only [Int.ofNat_zero, Int.natCast_zero]
                go_wp2_with fail
                go_quiet (fail)
                go_wp2_with fail
                go_roundw
                case rel => exact ⟨1, HK2.out, rfl, HGN.out _ _, HXN.out _⟩
                case measure => simp [intOf]; have := HK2.out; omega
              · obtain ⟨z, hpz, cz⟩ := HPREV.out i rfl
                have hwj : IntKind.i64.wrap ((i : Int) + 1 - 1) = (i : Int) := by rw [IntKind.wrap_i64]; have := HMB.out; omega
                have hwk : IntKind.i64.wrap (i : Int) = (i : Int) := by rw [IntKind.wrap_i64]; have := HMB.out; omega
                have hjl : (i : Int) < (m : Int) := by omega
                have hjz : (0 : Int) ≤ (i : Int) := by omega
                have hj1 : (((i + 1 : Nat) : Int) == 0) = false := by simp; omega
                have hj2 : ((i : Int) + 1 == 0) = false := by simp; omega
                have HKX : Hid (wrap64 ((i : Int) + 1 + 1) = ((i + 1 + 1 : Nat) : Int)) := HKW
                have hn1 := fun h => kn_new hpz HPY.out h
                have hn2 := fun h => kn_same hpz HPY.out h
                obtain ⟨c9, hc9⟩ : ∃ c9, c9 = kn pc (i + 1) := ⟨_, rfl⟩
                rw [← hc9] at hn1 hn2 q3 HNW HXK
                have HGN : Hid (∀ nq x, wb.grownBy ((wi.drewN nq).setCell ⟨X, 3, none⟩ x) (some X)) := Lib.hid (fun nq x => grown_setAt (grown_drewN HGX.out nq))
                clear HPREV hpz hc9
                by_cases hzy : z = y
                · have hb9 : (z != y) = false := by simpa using hzy
                  have HNN := Lib.hid (hn2 hzy)
                  clear hn1 hn2 hzy
                  go_wp2_with fail
                  go_quiet (fail)
                  go_wp2_with fail
                  go_roundw
                  case rel => exact ⟨i + 1 + 1, HK2.out, congrArg _ HKX.out, grown_drewN HGX.out _, by rw [HNN.out]; exact HXK.out⟩
                  case measure =>
                    rw [HKX.out]
                    exact int_less HK2.out
                · have hb9 : (z != y) = true := by simpa using hzy
                  have HNN := Lib.hid (hn1 hzy)
                  have HXN : Hid (∀ nq, ((wi.drewN nq).setCell ⟨X, 3, none⟩ (.int .i64 (wrap64 ((c9 : Int) + 1)))).heap[X]? = some (.cells #[.int .i64 x0, .int .i64 x1, .int .i64 (m : Int), .int .i64 (kn pc (i + 1 + 1) : Int)] 36 (0, 0))) := Lib.hid (fun nq => by
                    rw [heap_setCell_same _ _ _ _ _ _ (show (wi.drewN nq).heap[X]? = _ from HXK.out), HNN.out, HNW.out]; rfl)
                  clear hn1 hn2 hzy
                  go_wp2_with fail
                  go_quiet (fail)
                  go_wp2_with fail
                  go_roundw
                  case rel => exact ⟨i + 1 + 1, HK2.out, congrArg _ HKX.out, HGN.out _ _, HXN.out _⟩
                  case measure =>
                    rw [HKX.out]
                    exact int_less HK2.out
            · obtain rfl : k = m := by omega
              obtain ⟨kk, hkk⟩ : ∃ kk, kk = (kn pc k : Int) := ⟨_, rfl⟩
              rw [← hkk] at hxk HBK
              have d0 : wi.cell? ⟨X, 0, none⟩ = some (.int .i64 x0) := by rw [Lib.cell_of_heap hxk]; rfl
              have d1 : wi.cell? ⟨X, 1, none⟩ = some (.int .i64 x1) := by rw [Lib.cell_of_heap hxk]; rfl
              have d2 : wi.cell? ⟨X, 2, none⟩ = some (.int .i64 (k : Int)) := by rw [Lib.cell_of_heap hxk]; rfl
              have d3 : wi.cell? ⟨X, 3, none⟩ = some (.int .i64 kk) := by rw [Lib.cell_of_heap hxk]; rfl
              have hstb : StAt (w.heap.size + 1) sm (.slice pb j cb) (.slice none 0 0) wi := (grown_at hgx (by have := HSBX.out; have := HWBS.out; omega) (by have := HSBX.out; omega)).trans HSTB.out
              have hobi : OwnB wi w2.heap.size (.slice pb j cb) ((bks S b2).take j) := Rk.own_keep HOBB.out (fun g hg hlt => grown_at hgx hlt (by have := HOLT.out g hg; omega))
              have hgri : w2.grownBy wi (some (w.heap.size + 1)) := grown_other HGRB.out hgx HSA.out
              have hll : ((bks S b2).take j).length = j := by rw [List.length_take, bks_len]; have := HLT.out; omega
              obtain ⟨g', cap', w', hr, ho', hb'⟩ := append_bk (x0, x1, (k : Int), kk) hobi (by rw [hll]; have := HLT.out; have := HBN.out; have := HNL.out; omega) hgri.size
              rw [hll] at hr ho'
              have hnxt : (bks S b2).take j ++ [(x0, x1, (k : Int), kk)] = (bks S b2).take (j + 1) := by
                rw [List.take_add_one, List.getElem?_eq_getElem (by rw [bks_len]; exact HLT.out), bks_at, ← HPC.out, HBK.out]
                rfl
              rw [hnxt] at ho'
              have hgr' : w2.grownBy w' (some (w.heap.size + 1)) := grown_then2 hgri hb'
              have hst' : StAt (w.heap.size + 1) sm (.slice pb j cb) (.slice none 0 0) w' := (hb'.block _ (by have := HS1.out; have := HBL.out.size; omega)).trans hstb
              have e1 : wi.cell? ⟨w.heap.size + 1, 1, none⟩ = some (.slice pb j cb) := by rw [Lib.cell_of_heap hstb]; rfl
              have s1 : w'.cell? ⟨w.heap.size + 1, 1, none⟩ = some (.slice pb j cb) := by rw [Lib.cell_of_heap hst']; rfl
              have g1 : w'.frozen? ⟨w.heap.size + 1, 1, none⟩ = false := Lib.frozen_of_heap hst' 1
              have HIN2 : Hid (InB (w.heap.size + 1) w2.heap.size sm S b2 (j + 1) w2 (w'.setCell ⟨w.heap.size + 1, 1, none⟩ (.slice (some ⟨g', 0, none⟩) (j + 1) cap'))) := Lib.hid (by
                refine ⟨.slice (some ⟨g', 0, none⟩) (j + 1) cap', ?_, ?_, grown_setAt hgr'⟩
                · unfold StAt
                  rw [heap_setCell_same _ _ _ _ _ _ hst']
                  rfl
                · refine Rk.own_keep ho' (fun g hg hlt => ?_)
                  have := (Rk.own_block ho' g hg).1
                  rw [heap_setCell_other _ _ _ _ (by have h1 := HS1.out; have h2 := HBL.out.size; simp; omega)])
              obtain ⟨jj, hjj⟩ : ∃ jj, jj = j + 1 := ⟨_, rfl⟩
              rw [← hjj] at hr HIN2
              have HJJ := Lib.hid hjj
              clear hgx hxk hstb hobi hgri hll ho' hb' hnxt hgr' hst' hkm2 hjj hkk
              go_wp2_with (first | (at_builtin; refine wpList_append_run rfl _ _ _ _ rfl _ _ _ _ rfl rfl hr ?_; clear hr))
              go_roundw
              case rel => exact ⟨j + 1, HLT.out, congrArg _ HW1'.out, by rw [← HJJ.out]; exact HIN2.out⟩
              case measure =>
                rw [HW1'.out]
                exact int_less HLT.out
        · obtain rfl : j = b2 := by omega
          clear hb2
          go_wp2_with fail
          go_meet
          case rel => exact HIN.out
  case rest =>
    obtain ⟨vb, hst, hob, hgr⟩ := hcut
    obtain ⟨B, hB⟩ : ∃ B, B = bks S b := ⟨_, rfl⟩
    have hbt : (bks S b).take b = bks S b := List.take_of_length_le (by rw [bks_len]; exact Nat.le_refl _)
    rw [hbt, ← hB] at hob
    have HBE := Lib.hid hB
    obtain ⟨pb, cb, rfl⟩ := (Rk.own_row flatB hob).form
    have HWC : Hid (Below w.heap.size w wc) := Lib.hid (by
      have h1 := HB1.out.trans (HBL.out.mono HB1.out.size)
      exact ⟨hgr.os.trans h1.os, hgr.tape.trans h1.tape, hgr.output.trans h1.output, Nat.le_trans h1.size hgr.size, fun k hk => (hgr.block k (Nat.lt_of_lt_of_le hk h1.size) (fun e => by injection e with e; omega)).trans (h1.block k hk)⟩)
    have HZC : Hid (wc.heap[w.heap.size]? = some (.cells #[.int .i64 0, .slice none 0 0, .slice none 0 0] 27 (0, 0))) := Lib.hid ((hgr.block _ (Rk.lt_of_block HZZ.out) (fun e => by injection e with e; omega)).trans HZZ.out)
    have HSC := Lib.hid hst
    have HOC := Lib.hid hob
    have HW2S : Hid (w.heap.size + 2 ≤ w2.heap.size ∧ w2.heap.size ≤ wc.heap.size) := Lib.hid ⟨by have := HBL.out.size; rw [HS1.out] at this; exact this, hgr.size⟩
    have HMX : Hid (M.length ≤ maxLen) := Lib.hid (by have := HML.out; unfold maxLen; omega)
    clear hst hob hgr hB hbt hb2 HOL HBL HST0 HZZ HB1 HS1 HB2 HBP HBZ HBN HNL HSU
    go_wp2_with fail
    go_loopw [15, 16] (fun o i wr => ∃ k : Nat, k ≤ M.length ∧ i = .int .i64 k ∧ Own wr wc.heap.size o (hs (M.take k)) ∧ Below wc.heap.size wc wr) (fun _ i _ => M.length - (intOf i).toNat)
    case atStart => exact ⟨0, Nat.zero_le _, rfl, Rx.own_nil _ _, Below.refl _ _⟩
    case round =>
      obtain ⟨k, hk, rfl, ho, hb⟩ := hrel
      have HB := Lib.hid hb
      have HO := Lib.hid ho
      clear ho hb
      obtain ⟨wo, rfl⟩ : ∃ wo : World, wo = wr := ⟨_, rfl⟩
      by_cases hlt : k < M.length
      · obtain ⟨g, off, rfl, _, hc⟩ := HUC.out k hlt
        have hcell := hc wo (HWC.out.trans (HB.out.mono HWC.out.size))
        have hn := hs_next hlt
        have hlt' : (k : Int) < (M.length : Int) := by omega
        have hsz := HMM.out M[k] (List.getElem_mem hlt)
        generalize M[k] = x at hcell hn hsz
        obtain ⟨v', w', hr, ho', hb'⟩ := Rx.append_one (hsh x) HO.out (by rw [hs_len, List.length_take]; have := HML.out; omega) HB.out.size
        rw [← hn] at ho'
        have HO' := Lib.hid ho'
        have HB' := Lib.hid hb'
        have CH' : Hid (∀ W, Calls Try.prog 20 #[.string x] W fun e w' => e = .returned (.int .i64 (hsh x)) ∧ W = w') := Lib.hid (fun W => hashRef_any x W hsz)
        clear hc hn ho' hb' hsz
        generalize hsh x = y at *
        go_wp2_with (first
          | (go_at_call 20; refine (CH'.out _).mono ?_; rintro e w2 ⟨rfl, rfl⟩)
          | (at_builtin; refine wpList_append_run rfl _ _ _ _ rfl _ _ _ _ rfl rfl hr ?_; clear hr))
        go_roundw
        case rel => exact ⟨k + 1, by omega, congrArg _ (wrap_s HMX.out hlt), HO'.out, HB.out.trans HB'.out⟩
        case measure =>
          rw [wrap_s HMX.out hlt]
          exact int_less hlt
      · obtain rfl : k = M.length := by omega
        have ho := HO.out
        rw [List.take_length] at ho
        have CS := Lib.hid (rsorted_any (hs M) _ wo ho.at (by rw [hs_len]; exact Nat.le_trans (by omega) HML.out))
        clear ho HO HUC HMM hk hlt
        go_wp2_with fail
        refine CS.out.mono ?_
        clear CS
        rintro e w6 ⟨vt, rfl, hot, hbt⟩
        obtain ⟨T, hT⟩ : ∃ T, T = srt (hs M) := ⟨_, rfl⟩
        have HTU : Hid (T.Pairwise (· ≤ ·)) := Lib.hid (by rw [hT]; exact srt_up _)
        have htl : T.length = M.length := by rw [hT, srt_len, hs_len]
        rw [← hT] at hot
        obtain ⟨pt, ct, rfl⟩ := hot.at.form
        have HT := Lib.hid hT
        have htc := Rx.row_cells hot.at
        rw [htl] at hot ⊢
        have HB6 : Hid (Below wc.heap.size wc w6) := Lib.hid (HB.out.trans (hbt.mono HB.out.size))
        have HTC : Hid (∀ k x, T[k]? = some x → ∃ b off, pt = some ⟨b, off, none⟩ ∧ wc.heap.size ≤ b ∧ b < w6.heap.size ∧ ∀ wr : World, wr.heap[b]? = w6.heap[b]? → wr.cell? ⟨b, off + k, none⟩ = some (.int .i64 x)) := Lib.hid (fun k x hx => by
          obtain ⟨hk, rfl⟩ := List.getElem?_eq_some_iff.1 hx
          obtain ⟨g, cap, hgc, h1, h2⟩ := own_form (by rw [← htl] at hot; exact hot) (by omega)
          injection hgc with e1
          refine ⟨g, 0, e1, Nat.le_trans HB.out.size h1, h2, fun wr hw => ?_⟩
          subst e1
          rw [Nat.zero_add, ← (own_cell hot k _ hx).1]
          exact World.cell?_of_block (w := w6) hw)
        have HTL := Lib.hid htl
        have HS6 : Hid (StAt (w.heap.size + 1) sm (.slice pb B.length cb) (.slice none 0 0) w6) := Lib.hid ((HB6.out.block _ (Rk.lt_of_block HSC.out)).trans HSC.out)
        clear hot hbt hT htl htc HB
        go_wp2_with fail
        go_loopw [17, 18] (fun i kk wr => ∃ k : Nat, k ≤ M.length ∧ i = .int .i64 k ∧ ∃ vx, StAt (w.heap.size + 1) sm (.slice pb B.length cb) vx wr ∧ OwnE wr w6.heap.size vx (runs (T.take k)) ∧ w6.grownBy wr (some (w.heap.size + 1))) (fun i _ _ => M.length - (intOf i).toNat)
        case atStart => exact ⟨0, Nat.zero_le _, rfl, _, HS6.out, Rk.own_none _ _, grown_self _ _⟩
        case round =>
          obtain ⟨k, hk, rfl, vx, hst, hox, hgr⟩ := hrel
          obtain ⟨wo, rfl⟩ : ∃ wo : World, wo = wr := ⟨_, rfl⟩
          have HST := Lib.hid hst
          have HOX := Lib.hid hox
          have HGR := Lib.hid hgr
          by_cases hlt : k < M.length
          · have hkt : k < T.length := by rw [HTL.out]; exact hlt
            have hx : T[k]? = some T[k] := List.getElem?_eq_getElem hkt
            obtain ⟨g, off, rfl, hg1, hg2, hcx⟩ := HTC.out k _ hx
            have hrn := runs_next hkt
            have hal := runs_len_step hkt
            have RO := runs_of (L := T.take k) (HTU.out.sublist (List.take_sublist _ _))
            have hSBg : ¬ g = w.heap.size + 1 := by have := HW2S.out; omega
            have HCX : Hid (∀ wr : World, wr.heap[g]? = wo.heap[g]? → wr.cell? ⟨g, off + k, none⟩ = some (.int .i64 T[k])) := Lib.hid (fun wr hw => hcx wr (hw.trans (grown_at hgr hg2 hSBg)))
            obtain ⟨x, hxx⟩ : ∃ x, x = T[k] := ⟨_, rfl⟩
            rw [← hxx] at hrn HCX
            obtain ⟨A, hA⟩ : ∃ A, A = runs (T.take k) := ⟨_, rfl⟩
            rw [← hA] at hrn hal RO HOX
            have hlt' : (k : Int) < (M.length : Int) := by omega
            have HRN := Lib.hid hrn
            have HAL := Lib.hid hal
            have HLT := Lib.hid hlt
            have HG2 : Hid (g < wo.heap.size) := Lib.hid (Nat.lt_of_lt_of_le hg2 hgr.size)
            have HSBG := Lib.hid hSBg
            have hcell := HCX.out wo rfl
            have HMB : Hid (k < 8796093022208) := Lib.hid (by have := HML.out; omega)
            have hkw := wrap_s HMX.out hlt
            have HKW := Lib.hid hkw
            clear hst hox hgr hx hcx hrn hal hSBg hg1 hg2 hxx hkt hk hkw
            rcases split_last A with hA0 | ⟨A1, e, hA1⟩
            · obtain ⟨p0, c0, rfl⟩ := (Rk.own_row flatE HOX.out).form
              have HNEW : Hid (stE A x = A ++ [(1, x)]) := Lib.hid (by rw [hA0]; rfl)
              obtain ⟨la, hla⟩ : ∃ la, la = A.length := ⟨_, rfl⟩
              have hd0 : la = 0 := by rw [hla, hA0]; rfl
              rw [← hla] at HST HOX
              have s2 : wo.cell? ⟨w.heap.size + 1, 2, none⟩ = some (.slice p0 la c0) := by rw [Lib.cell_of_heap HST.out]; rfl
              have hz0 : decide ((0 : Int) < (la : Int)) = false := by rw [hd0]; rfl
              have hz1 : ¬ (0 : Int) < (la : Int) := by rw [hd0]; decide
              have hz2 : ¬ 0 < la := by omega
              clear hA hA0 RO hd0 hla
              have hd0 : True := trivial
              go_wp2_with fail
              go_quiet (fail)
              have HSTQ : Hid (StAt (w.heap.size + 1) sm (.slice pb B.length cb) ((.slice p0 la c0)) (wo.drewN nq)) := HST
              have HOXQ : Hid (OwnE (wo.drewN nq) w6.heap.size ((.slice p0 la c0)) A) := Lib.hid (Rk.own_below HOX.out (below_drewN wo nq))
              have HGRQ : Hid (w6.grownBy (wo.drewN nq) (some (w.heap.size + 1))) := Lib.hid (grown_drewN HGR.out nq)
              have HGQ : Hid ((wo.drewN nq).heap[g]? = wo.heap[g]?) := Lib.hid rfl
              have HGQ2 : Hid (g < (wo.drewN nq).heap.size) := HG2
              clear s2 hcell hz0 hz1 hz2
              generalize wo.drewN nq = wq at *
              have hwd : Below wq.heap.size wq wq.drew := ⟨rfl, rfl, rfl, Nat.le_refl _, fun _ _ => rfl⟩
              obtain ⟨g', cap', w', hr, ho', hb'⟩ := append_en (1, x) (Rk.own_below HOXQ.out hwd) (by have := HAL.out; have := HMB.out; omega) (show w6.heap.size ≤ wq.drew.heap.size from HGRQ.out.size)
              have hb'' : Below w6.heap.size wq w' := ⟨hb'.os, hb'.tape, hb'.output, hb'.size, hb'.block⟩
              obtain ⟨n1, hn1⟩ : ∃ n1, n1 = A.length + 1 := ⟨_, rfl⟩
              rw [← hn1] at hr ho'
              have hr' : ∀ ty, (Builtin.append_ #[25, 25] ty #[(.slice p0 la c0), .slice (some ⟨wq.heap.size, 0, none⟩) 1 1]).run Try.prog (wq.alloc (.cells #[.int .i64 1, .int .i64 x] 39)).drew = .ok (.slice (some ⟨g', 0, none⟩) n1 cap') w' := hr
              have hst' : StAt (w.heap.size + 1) sm (.slice pb B.length cb) ((.slice p0 la c0)) w' := (hb''.block _ (by have := HW2S.out; have := HB6.out.size; omega)).trans HSTQ.out
              have e1 : wq.cell? ⟨w.heap.size + 1, 2, none⟩ = some ((.slice p0 la c0)) := by rw [Lib.cell_of_heap HSTQ.out]; rfl
              have e2 : ∀ o, (wq.alloc o).cell? ⟨w.heap.size + 1, 2, none⟩ = some ((.slice p0 la c0)) := fun o => by rw [← e1]; exact World.cell?_of_block (Rk.heap_old wq o (Rk.lt_of_block HSTQ.out))
              have x1 : wq.cell? ⟨g, off + k, none⟩ = some (.int .i64 x) := HCX.out wq HGQ.out
              have x2 : ∀ o, (wq.alloc o).cell? ⟨g, off + k, none⟩ = some (.int .i64 x) := fun o => by rw [← x1]; exact World.cell?_of_block (Rk.heap_old wq o HGQ2.out)
              have s1 : w'.cell? ⟨w.heap.size + 1, 2, none⟩ = some ((.slice p0 la c0)) := by rw [Lib.cell_of_heap hst']; rfl
              have g1 : w'.frozen? ⟨w.heap.size + 1, 2, none⟩ = false := Lib.frozen_of_heap hst' 2
              have HFIN : Hid (StAt (w.heap.size + 1) sm (.slice pb B.length cb) (.slice (some ⟨g', 0, none⟩) n1 cap') (w'.setCell ⟨w.heap.size + 1, 2, none⟩ (.slice (some ⟨g', 0, none⟩) n1 cap')) ∧ OwnE (w'.setCell ⟨w.heap.size + 1, 2, none⟩ (.slice (some ⟨g', 0, none⟩) n1 cap')) w6.heap.size (.slice (some ⟨g', 0, none⟩) n1 cap') (A ++ [(1, x)]) ∧ w6.grownBy (w'.setCell ⟨w.heap.size + 1, 2, none⟩ (.slice (some ⟨g', 0, none⟩) n1 cap')) (some (w.heap.size + 1))) := Lib.hid (by
                refine ⟨?_, ?_, grown_setAt (grown_then2 HGRQ.out hb'')⟩
                · unfold StAt
                  rw [heap_setCell_same _ _ _ _ _ _ hst']
                  rfl
                · refine Rk.own_keep ho' (fun g hg hlt => ?_)
                  have := (Rk.own_block ho' g hg).1
                  rw [heap_setCell_other _ _ _ _ (by have h1 := HW2S.out; have h2 := HB6.out.size; simp; omega)])
              clear hwd hr ho' hb' hb'' hst' hn1 hd0
              go_wp2_with fail
              go_region_law (refine step_append_run (by rfl) _ _ _ _ (by rfl) _ _ (.slice (some ⟨g', 0, none⟩) n1 cap') w' (by rfl) (by rfl) hr' ?_)
              all_goals go_wp2_with fail
              all_goals go_roundw
              all_goals (first | exact ⟨k + 1, HLT.out, congrArg _ HKW.out, _, HFIN.out.1, by rw [HRN.out, HNEW.out]; exact HFIN.out.2.1, HFIN.out.2.2⟩ | (rw [HKW.out]; exact int_less HLT.out))
            · obtain ⟨gx, cx, rfl, hgx1, hgx2⟩ := Rk.own_form HOX.out (by rw [hA1]; simp)
              obtain ⟨la, hla⟩ : ∃ la, la = A.length := ⟨_, rfl⟩
              rw [← hla] at HST HOX
              have s2 : wo.cell? ⟨w.heap.size + 1, 2, none⟩ = some (.slice (some ⟨gx, 0, none⟩) la cx) := by rw [Lib.cell_of_heap HST.out]; rfl
              obtain ⟨m, hm⟩ : ∃ m, m = A1.length := ⟨_, rfl⟩
              have hmA : A.length = m + 1 := by rw [hA1, hm]; simp
              have he : A[m]'(by omega) = e := by simp [hA1, hm]
              obtain ⟨nn, y⟩ := e
              obtain ⟨c0, f0⟩ := Rk.own_cell flatE HOX.out m (by omega) (i := 0) (u := .int .i64 nn) (by rw [he]; rfl)
              obtain ⟨c1, _⟩ := Rk.own_cell flatE HOX.out m (by omega) (i := 1) (u := .int .i64 y) (by rw [he]; rfl)
              rw [Nat.add_zero] at c0 f0
              have hz1 : (0 : Int) < (la : Int) := by omega
              have hz0 : decide ((0 : Int) < (la : Int)) = true := by simp; omega
              have hz2 : 0 < la := by omega
              have hmm : (m : Int) < (la : Int) := by omega
              have hwi : IntKind.i64.wrap ((la : Int) - 1) = (m : Int) := by rw [IntKind.wrap_i64]; have := HAL.out; have := HMB.out; omega
              have hw6 : wrap64 ((la : Int) - 1) = (m : Int) := by rw [wrap64_in _ (by have := HAL.out; have := HMB.out; omega)]; omega
              have hnp := RO.pos (nn, y) (by rw [hA1]; simp)
              have hnc := RO.cnt (nn, y) (by rw [hA1]; simp)
              have hcl := List.count_le_length (a := y) (l := T.take k)
              rw [List.length_take] at hcl
              simp only at hnp hnc
              have HWN : Hid (wrap64 (nn + 1) = nn + 1) := Lib.hid (wrap64_in _ (by have := HMB.out; omega))
              have hset := own_n HOX.out m (by omega) (nn + 1)
              rw [he] at hset
              have HSAME : Hid (y = x → stE A x = A.set m (nn + 1, y)) := Lib.hid (fun e => by rw [hA1, stE_same _ _ _ e, hm]; simp [e])
              have HDIF : Hid (¬ y = x → stE A x = A ++ [(1, x)]) := Lib.hid (fun e => by rw [hA1, stE_new _ _ _ e])
              have HSET := Lib.hid hset
              have HGXS : Hid (¬ gx = w.heap.size + 1) := Lib.hid (by have := HW2S.out; have := HB6.out.size; omega)
              have HGX1 := Lib.hid hgx1
              clear hA hA1 RO he hmA hset hnp hnc hcl hm hgx1 hgx2 hla
              by_cases hyx : y = x
              · have hq : (y == x) = true := by simpa using hyx
                have HS := Lib.hid (HSAME.out hyx)
                have HWN' := HWN.out
                have HFIN : Hid (∀ nq, StAt (w.heap.size + 1) sm (.slice pb B.length cb) (.slice (some ⟨gx, 0, none⟩) la cx) ((wo.drewN nq).setCell ⟨gx, m * 2, none⟩ (.int .i64 (nn + 1))) ∧ OwnE ((wo.drewN nq).setCell ⟨gx, m * 2, none⟩ (.int .i64 (nn + 1))) w6.heap.size (.slice (some ⟨gx, 0, none⟩) la cx) (A.set m (nn + 1, y)) ∧ w6.grownBy ((wo.drewN nq).setCell ⟨gx, m * 2, none⟩ (.int .i64 (nn + 1))) (some (w.heap.size + 1))) := Lib.hid (fun nq => by
                  refine ⟨?_, ?_, ?_⟩
                  · unfold StAt
                    rw [heap_setCell_other _ _ _ _ (by simp; exact fun e => HGXS.out e.symm)]
                    exact HST.out
                  · exact Rk.own_below HSET.out (show Below (wo.setCell ⟨gx, m * 2, none⟩ (.int .i64 (nn + 1))).heap.size (wo.setCell ⟨gx, m * 2, none⟩ (.int .i64 (nn + 1))) ((wo.drewN nq).setCell ⟨gx, m * 2, none⟩ (.int .i64 (nn + 1))) from ⟨rfl, rfl, rfl, Nat.le_refl _, fun _ _ => rfl⟩)
                  · have h1 := grown_drewN HGR.out nq
                    exact ⟨h1.os, h1.tape, h1.output, by simpa using h1.size, fun j hj hne => by
                      rw [heap_setCell_other _ _ _ _ (by have := HGX1.out; simp; omega)]
                      exact h1.block j hj hne⟩)
                clear hyx HSAME HDIF
                go_wp2_with fail
                go_quiet (fail)
                go_wp2_with fail
                go_roundw
                case rel => exact ⟨k + 1, HLT.out, congrArg _ HKW.out, _, (HFIN.out _).1, by rw [HRN.out, HS.out]; exact (HFIN.out _).2.1, (HFIN.out _).2.2⟩
                case measure =>
                  rw [HKW.out]
                  exact int_less HLT.out
              · have hq : (y == x) = false := by simpa using hyx
                have HNEW := Lib.hid (HDIF.out hyx)
                have hd0 : True := trivial
                clear hyx HSAME HDIF
                go_wp2_with fail
                go_quiet (fail)
                have HSTQ : Hid (StAt (w.heap.size + 1) sm (.slice pb B.length cb) ((.slice (some ⟨gx, 0, none⟩) la cx)) (wo.drewN nq)) := HST
                have HOXQ : Hid (OwnE (wo.drewN nq) w6.heap.size ((.slice (some ⟨gx, 0, none⟩) la cx)) A) := Lib.hid (Rk.own_below HOX.out (below_drewN wo nq))
                have HGRQ : Hid (w6.grownBy (wo.drewN nq) (some (w.heap.size + 1))) := Lib.hid (grown_drewN HGR.out nq)
                have HGQ : Hid ((wo.drewN nq).heap[g]? = wo.heap[g]?) := Lib.hid rfl
                have HGQ2 : Hid (g < (wo.drewN nq).heap.size) := HG2
                clear s2 hcell c0 f0 c1 hz1 hz0 hz2 hmm hwi hw6
                generalize wo.drewN nq = wq at *
                have hwd : Below wq.heap.size wq wq.drew := ⟨rfl, rfl, rfl, Nat.le_refl _, fun _ _ => rfl⟩
                obtain ⟨g', cap', w', hr, ho', hb'⟩ := append_en (1, x) (Rk.own_below HOXQ.out hwd) (by have := HAL.out; have := HMB.out; omega) (show w6.heap.size ≤ wq.drew.heap.size from HGRQ.out.size)
                have hb'' : Below w6.heap.size wq w' := ⟨hb'.os, hb'.tape, hb'.output, hb'.size, hb'.block⟩
                obtain ⟨n1, hn1⟩ : ∃ n1, n1 = A.length + 1 := ⟨_, rfl⟩
                rw [← hn1] at hr ho'
                have hr' : ∀ ty, (Builtin.append_ #[25, 25] ty #[(.slice (some ⟨gx, 0, none⟩) la cx), .slice (some ⟨wq.heap.size, 0, none⟩) 1 1]).run Try.prog (wq.alloc (.cells #[.int .i64 1, .int .i64 x] 39)).drew = .ok (.slice (some ⟨g', 0, none⟩) n1 cap') w' := hr
                have hst' : StAt (w.heap.size + 1) sm (.slice pb B.length cb) ((.slice (some ⟨gx, 0, none⟩) la cx)) w' := (hb''.block _ (by have := HW2S.out; have := HB6.out.size; omega)).trans HSTQ.out
                have e1 : wq.cell? ⟨w.heap.size + 1, 2, none⟩ = some ((.slice (some ⟨gx, 0, none⟩) la cx)) := by rw [Lib.cell_of_heap HSTQ.out]; rfl
                have e2 : ∀ o, (wq.alloc o).cell? ⟨w.heap.size + 1, 2, none⟩ = some ((.slice (some ⟨gx, 0, none⟩) la cx)) := fun o => by rw [← e1]; exact World.cell?_of_block (Rk.heap_old wq o (Rk.lt_of_block HSTQ.out))
                have x1 : wq.cell? ⟨g, off + k, none⟩ = some (.int .i64 x) := HCX.out wq HGQ.out
                have x2 : ∀ o, (wq.alloc o).cell? ⟨g, off + k, none⟩ = some (.int .i64 x) := fun o => by rw [← x1]; exact World.cell?_of_block (Rk.heap_old wq o HGQ2.out)
                have s1 : w'.cell? ⟨w.heap.size + 1, 2, none⟩ = some ((.slice (some ⟨gx, 0, none⟩) la cx)) := by rw [Lib.cell_of_heap hst']; rfl
                have g1 : w'.frozen? ⟨w.heap.size + 1, 2, none⟩ = false := Lib.frozen_of_heap hst' 2
                have HFIN : Hid (StAt (w.heap.size + 1) sm (.slice pb B.length cb) (.slice (some ⟨g', 0, none⟩) n1 cap') (w'.setCell ⟨w.heap.size + 1, 2, none⟩ (.slice (some ⟨g', 0, none⟩) n1 cap')) ∧ OwnE (w'.setCell ⟨w.heap.size + 1, 2, none⟩ (.slice (some ⟨g', 0, none⟩) n1 cap')) w6.heap.size (.slice (some ⟨g', 0, none⟩) n1 cap') (A ++ [(1, x)]) ∧ w6.grownBy (w'.setCell ⟨w.heap.size + 1, 2, none⟩ (.slice (some ⟨g', 0, none⟩) n1 cap')) (some (w.heap.size + 1))) := Lib.hid (by
                  refine ⟨?_, ?_, grown_setAt (grown_then2 HGRQ.out hb'')⟩
                  · unfold StAt
                    rw [heap_setCell_same _ _ _ _ _ _ hst']
                    rfl
                  · refine Rk.own_keep ho' (fun g hg hlt => ?_)
                    have := (Rk.own_block ho' g hg).1
                    rw [heap_setCell_other _ _ _ _ (by have h1 := HW2S.out; have h2 := HB6.out.size; simp; omega)])
                clear hwd hr ho' hb' hb'' hst' hn1 hd0
                go_wp2_with fail
                go_region_law (refine step_append_run (by rfl) _ _ _ _ (by rfl) _ _ (.slice (some ⟨g', 0, none⟩) n1 cap') w' (by rfl) (by rfl) hr' ?_)
                all_goals go_wp2_with fail
                all_goals go_roundw
                all_goals (first | exact ⟨k + 1, HLT.out, congrArg _ HKW.out, _, HFIN.out.1, by rw [HRN.out, HNEW.out]; exact HFIN.out.2.1, HFIN.out.2.2⟩ | (rw [HKW.out]; exact int_less HLT.out))
          · obtain rfl : k = M.length := by omega
            have hfin : T.take M.length = T := by rw [← HTL.out, List.take_length]
            rw [hfin, HT.out] at hox
            obtain ⟨px, cx, rfl⟩ := (Rk.own_row flatE hox).form
            have hzf : wo.heap[w.heap.size]? = some (.cells #[.int .i64 0, .slice none 0 0, .slice none 0 0] 27 (0, 0)) := by
              refine (grown_at hgr ?_ (by omega)).trans ((HB6.out.block _ (Rk.lt_of_block HZC.out)).trans HZC.out)
              exact Nat.lt_of_lt_of_le (Rk.lt_of_block HZC.out) HB6.out.size
            have q0 : wo.cell? ⟨w.heap.size, 0, none⟩ = some (.int .i64 0) := by rw [Lib.cell_of_heap hzf]; rfl
            have q1 : wo.cell? ⟨w.heap.size, 1, none⟩ = some (.slice none 0 0) := by rw [Lib.cell_of_heap hzf]; rfl
            have q2 : wo.cell? ⟨w.heap.size, 2, none⟩ = some (.slice none 0 0) := by rw [Lib.cell_of_heap hzf]; rfl
            have f0 : wo.frozen? ⟨w.heap.size, 0, none⟩ = false := Lib.frozen_of_heap hzf 0
            have f1 : wo.frozen? ⟨w.heap.size, 1, none⟩ = false := Lib.frozen_of_heap hzf 1
            have f2 : wo.frozen? ⟨w.heap.size, 2, none⟩ = false := Lib.frozen_of_heap hzf 2
            have s0 : wo.cell? ⟨w.heap.size + 1, 0, none⟩ = some (.int .i64 sm) := by rw [Lib.cell_of_heap hst]; rfl
            have s1 : wo.cell? ⟨w.heap.size + 1, 1, none⟩ = some (.slice pb B.length cb) := by rw [Lib.cell_of_heap hst]; rfl
            have s2 : wo.cell? ⟨w.heap.size + 1, 2, none⟩ = some (.slice px (runs (srt (hs M))).length cx) := by rw [Lib.cell_of_heap hst]; rfl
            have HWO : Hid (Below w.heap.size w wo) := Lib.hid (by
              have h1 := HWC.out.trans (HB6.out.mono HWC.out.size)
              exact ⟨hgr.os.trans h1.os, hgr.tape.trans h1.tape, hgr.output.trans h1.output, Nat.le_trans h1.size hgr.size, fun k hk => (hgr.block k (Nat.lt_of_lt_of_le hk h1.size) (fun e => by injection e with e; omega)).trans (h1.block k hk)⟩)
            have HOBW : Hid (OwnB wo w2.heap.size (.slice pb B.length cb) B) := Lib.hid (Rk.own_keep HOC.out (fun g hg hlt => by
              have h1 := (Rk.own_block HOC.out g hg).1
              have h2 := HW2S.out
              rw [grown_at hgr (Nat.lt_of_lt_of_le hlt HB6.out.size) (by omega)]
              exact HB6.out.block g hlt))
            have HOXW := Lib.hid hox
            have HS6S : Hid (w.heap.size + 2 ≤ w6.heap.size) := Lib.hid (by have := HW2S.out; have := HB6.out.size; omega)
            clear hst hox hgr hzf hfin hlt hk HTC HTU HTL HST HOX HGR HSC HOC HS6
            go_wp2_with fail
            refine bodyPost_ret (v := .agg #[.int .i64 sm, .slice pb B.length cb, .slice px (runs (srt (hs M))).length cx]) (by simp [results, Try.results9, go_sem, q0, q1, q2]) rfl ⟨pb, cb, px, cx, by rw [HBE.out], ?_, ?_, ((HWO.out.setCell (p := ⟨w.heap.size, 0, none⟩) (Nat.le_refl _) _).setCell (p := ⟨w.heap.size, 1, none⟩) (Nat.le_refl _) _).setCell (p := ⟨w.heap.size, 2, none⟩) (Nat.le_refl _) _⟩
            · rw [← HBE.out]
              refine Rk.own_le (Rk.own_keep HOBW.out fun g hg hlt => ?_) (by have := HW2S.out; omega)
              have := (Rk.own_block HOBW.out g hg).1
              have h2 := HW2S.out
              rw [heap_setCell_other _ _ _ _ (by simp; omega), heap_setCell_other _ _ _ _ (by simp; omega), heap_setCell_other _ _ _ _ (by simp; omega)]
            · refine Rk.own_le (Rk.own_keep HOXW.out fun g hg hlt => ?_) (by have := HS6S.out; omega)
              have := (Rk.own_block HOXW.out g hg).1
              have h2 := HS6S.out
              rw [heap_setCell_other _ _ _ _ (by simp; omega), heap_setCell_other _ _ _ _ (by simp; omega), heap_setCell_other _ _ _ _ (by simp; omega)]
end Ss
end Go.Proofs.Ytmkilmglmeohmaa
