/- For any metric, any k and any row of hits the law TopkKeeps of the document's chapter 7 returns true over the program's own Best: what it keeps, hit by hit, and what it tells behind each is the document's. No condition. -/
import Derived.Test.YtbgminlajcmomabRows
import Derived.WalkKit
import Derived.ProofKit
import Derived.OpenShut
import Derived.ShutString
import Derived.ChangeOld
import Derived.Below
import Derived.SizedLaws
import Derived.Test.YtbgminlajcmomabTkArgs
namespace Go.Proofs.Ytbgminlajcmomab.topkKeeps
open Go.ChangeShapes Go.WideShapes Go.ChangeAt Go.RowKit Go.Proofs.Ytbgminlajcmomab
open Go.ChangeMaps (open_string shut_string)
open Tk
set_option linter.unusedVariables false

theorem own : ownKnob Try.prog.godebug = none := by kernel_rfl
theorem laidOut : laidOutB Try.prog = true := by kernel_rfl

/-! ### The walk -/
open Go Go.Sort
theorem best_mono {w : World} {base base' B X M : Nat} {m : Int} {K : Nat} {rv : Value} {R : List Ht} (h : BestAt w base B X M m K rv R R) (hb : base' ≤ base) : BestAt w base' B X M m K rv R R :=
  { h with own := Go.Joins.ownsRow_le h.own hb, bB := Nat.le_trans hb h.bB, bX := Nat.le_trans hb h.bX, bM := Nat.le_trans hb h.bM }
/-- A Best and the block of its metric. -/
def StX (B M X : Nat) (rv : Value) : Nat → Prop := fun b => St B M rv b ∨ b = X
theorem stx_lt {w : World} {base B X M : Nat} {m : Int} {K : Nat} {rv : Value} {R : List Ht} (H : BestAt w base B X M m K rv R R) : ∀ b, StX B M X rv b → b < w.heap.size := fun b h => h.elim (st_lt H b) (fun e => e ▸ H.ltX)
theorem keptW_len {m : Int} {k : Nat} (l : List Ht) : (keptW m k l).length ≤ l.length := by
  have : ∀ (l o : List Ht), (l.foldl (fun o h => (addW m k o h).1) o).length ≤ o.length + l.length := by
    intro l
    induction l with
    | nil => intro o; simp
    | cons x r ih =>
      intro o
      simp only [List.foldl_cons, List.length_cons]
      refine Nat.le_trans (ih _) ?_
      have : (addW m k o x).1.length ≤ o.length + 1 := by
        unfold addW
        split
        · simp
        · split
          · rw [insR_length]; exact Nat.le_refl _
          · rw [List.length_take, insR_length]; omega
      omega
  simpa [keptW] using this l []
theorem keptW_le {m : Int} {k : Nat} (l : List Ht) : (keptW m k l).length ≤ k := by
  have : ∀ (l o : List Ht), o.length ≤ k → (l.foldl (fun o h => (addW m k o h).1) o).length ≤ k := by
    intro l
    induction l with
    | nil => intro o h; exact h
    | cons x r ih => intro o h; exact ih _ (addW_length h)
  exact this l [] (Nat.zero_le _)
theorem last_of {m : Int} (hm : knownB m = true) {R A : List Ht} (hp : Heap m R) (h : srt m R = A) (h0 : 0 < A.length) : A[A.length - 1]? = some R[0]! ∧ R.length ≠ 0 := by
  subst h
  have hl : R.length ≠ 0 := by have := (srt_perm m R).length_eq; omega
  obtain ⟨P, hP, _⟩ := srt_last hm hp (by omega)
  rw [hP]
  exact ⟨by simp, hl⟩
/-- A Best, and apart from it the document's row. -/
def KeepE (w : World) (base : Nat) (m : Int) (K B X M : Nat) (u : Value) (A : List Ht) : Prop :=
  ∃ rv R, BestAt w base B X M m K rv R R ∧ srt m R = A ∧ HsF (fun g => ¬ StX B M X rv g) w u A
set_option maxHeartbeats 2000000 in
set_option maxRecDepth 100000 in
theorem walk (a0 : Int) (a1 : Int) (v2 : Value) (l2 : List Ht) (w : World) (w0 : (Lit.int .i64 a0).wf = true) (w1 : (Lit.int .i64 a1).wf = true) (wf2 : HsAt w v2 l2) (s2 : l2.length * 16 ≤ 140737488351232) (ok2 : ∀ y ∈ l2, OkH y) :
    Calls Try.prog 4 #[.int .i64 a0, .int .i64 a1, v2] w fun e w' => e = .returned (.bool true) ∧ Below w.heap.size w w' := by
  have ha1 : a1 ≤ 9223372036854775807 := by
    have : -9223372036854775808 ≤ a1 ∧ a1 ≤ 9223372036854775807 := by simpa [Lit.wf, show IntKind.i64.min = -9223372036854775808 from rfl] using w1
    exact this.2
  have HL := Lib.hid wf2
  have HN := Lib.hid s2
  have HOK := Lib.hid ok2
  have hm : l2.length ≤ maxLen := by unfold maxLen; omega
  have HM := Lib.hid hm
  obtain ⟨pp, cc, rfl⟩ := wf2.form
  clear wf2 s2 ok2 hm w0 w1
  have C1 := Lib.hid (new_any a0 a1)
  go_enter Try.func4, Try.ntmps4
  by_cases hgood : knownB a0 = true ∧ 1 ≤ a1
  · obtain ⟨hk, hk1⟩ := hgood
    obtain ⟨K, rfl⟩ : ∃ K : Nat, a1 = K := ⟨a1.toNat, by omega⟩
    have HKN := Lib.hid hk
    have HK1 := Lib.hid hk1
    have HKM := Lib.hid ha1
    rw [known_iff] at hk
    have m1 : ¬ a0 < 1 := by omega
    have m3 : ¬ 3 < a0 := by omega
    have k1 : ¬ (K : Int) < 1 := by omega
    clear hk hk1 ha1
    go_wp2_with fail
    refine (C1.out w).mono ?_
    rintro e w1 ⟨hc, b1⟩
    rcases hc with ⟨_, _, hx⟩ | ⟨hn, _⟩
    · obtain ⟨B, X, M, rfl, H1⟩ := hx HKM.out
      rw [Int.toNat_natCast] at H1
      have HB1 := Lib.hid b1
      have HH1 := Lib.hid H1
      clear hx b1 H1
      go_wp2_with fail
      go_loopw [8, 9] (fun u i wr => ∃ k : Nat, k ≤ l2.length ∧ i = .int .i64 k ∧ KeepE wr w.heap.size a0 K B X M u (keptW a0 K (l2.take k)) ∧ Hid (RowKit.Below w.heap.size w wr)) (fun _ i _ => l2.length - (intOf i).toNat)
      case atStart => exact ⟨0, Nat.zero_le _, rfl, ⟨_, _, HH1.out, by simp [srt, keptW], by simpa [keptW] using HsF.nil _ _⟩, HB1⟩
      case round =>
        obtain ⟨k, hk, rfl, ⟨rv, R, hbest, hsr, hwant⟩, HB⟩ := hrel
        have HBE := Lib.hid hbest
        have HSR := Lib.hid hsr
        have HWN := Lib.hid hwant
        clear hbest hsr hwant
        by_cases hlt : k < l2.length
        · obtain ⟨g, off, c, e, hg, hc⟩ := HL.out.at hlt
          injection e with e1 _ e3
          subst e1
          subst e3
          obtain ⟨x0, x1⟩ := hc wr (HB.out.block g hg)
          have HXC := Lib.hid (fun (W : World) (b : RowKit.Below w.heap.size w W) => hc W (b.block g hg))
          have HX := Lib.hid (List.getElem?_eq_getElem hlt)
          have HOX := Lib.hid (HOK.out _ (List.getElem_mem hlt))
          clear hc hg
          generalize l2[k] = x at *
          obtain ⟨xi, xs⟩ := x
          obtain ⟨A, hA⟩ : ∃ A, A = keptW a0 K (l2.take k) := ⟨_, rfl⟩
          rw [← hA] at HSR HWN
          have HAK : Hid (A.length ≤ K) := Lib.hid (by rw [hA]; exact keptW_le _)
          have HAL : Hid ((A.length + 1) * 16 ≤ 140737488355328) := Lib.hid (by have h1 := HN.out; have h2 : A.length ≤ k := by rw [hA]; exact Nat.le_trans (keptW_len _) (by rw [List.length_take]; omega)
                                                                                omega)
          have HNX : Hid (keptW a0 K (l2.take (k + 1)) = (addW a0 K A (xi, xs)).1) := Lib.hid (by rw [keptW_take HX.out, hA])
          clear hA
          have C2 := Lib.hid (radd_any (fun g => ¬ StX B M X rv g) a0 K A u8 (xi, xs) wr HWN.out HAL.out (by have := HKM.out; omega))
          obtain ⟨r, hr⟩ : ∃ r, r = (addW a0 K A (xi, xs)).2 := ⟨_, rfl⟩
          rw [← hr] at C2
          have HR := Lib.hid hr
          clear hr
          go_wp2_with fail
          refine C2.out.mono ?_
          rintro e w3 ⟨u', rfl, hf3, b3⟩
          have HBE3 := Lib.hid (HBE.out.below b3)
          have HB3 := Lib.hid (HB.out.trans (b3.mono HB.out.size))
          have hf3' : HsF (fun g => ¬ StX B M X rv g) w3 u' (addW a0 K A (xi, xs)).1 := hf3.mono (fun g _ h => h.elim id (fun h2 h3 => by have := stx_lt HBE.out g h3; omega))
          have HF3 := Lib.hid hf3'
          obtain ⟨y0, y1⟩ := HXC.out w3 HB3.out
          have C3 := Lib.hid (add_step (xi, xs) HBE3.out HOX.out (by rw [srt_len HSR.out]; exact HAL.out) HB3.out.size HSR.out (A' := (addW a0 K A (xi, xs)).1) (r := r) (by rw [HR.out]))
          obtain ⟨pu, cu, rfl⟩ := hf3.hs.form
          have hA1 : 0 < (addW a0 K A (xi, xs)).1.length := addW_pos (by have := HK1.out; omega)
          have HA1 := Lib.hid hA1
          have HA2 : Hid ((addW a0 K A (xi, xs)).1.length ≤ K) := Lib.hid (addW_length HAK.out)
          have HA3 : Hid ((addW a0 K A (xi, xs)).1.length ≤ 8796093022208) := Lib.hid (by
            have h1 := HAL.out
            rw [← HNX.out]
            have := keptW_len (m := a0) (k := K) (l2.take (k + 1))
            rw [List.length_take] at this
            have h3 := HN.out
            omega)
          generalize (addW a0 K A (xi, xs)).1 = A1 at *
          clear hf3 b3 hf3' x0 x1 hA1
          go_wp2_with fail
          refine C3.out.mono ?_
          rintro e w4 ⟨rfl, rv1, R1, H1, s1, g1, st1⟩
          have HB4 := Lib.hid (HB3.out.trans (best_below HBE3.out g1 HB3.out.size))
          have HS1 := Lib.hid s1
          have hf4 : HsF (fun g => ¬ StX B M X rv1 g) w4 (.slice pu A1.length cu) A1 :=
            (HF3.out.mono (F' := fun g => ¬ StX B M X rv g ∧ g < w3.heap.size) (fun g hg h => ⟨h, hg⟩)).kept g1.size (fun g hg h => g1.block g hg (fun s => h.1 (.inl s))) |>.mono (fun g _ h hx => h.1 (hx.elim (fun s => .inl (st1 g h.2 s)) .inr))
          have HF4 := Lib.hid hf4
          have HH1 := Lib.hid H1
          have C4 := Lib.hid (len_any H1)
          rw [srt_len s1] at C4
          have hrr : (r != r) = false := by cases r <;> rfl
          have hnn : ((A1.length : Int) != (A1.length : Int)) = false := by simp
          clear H1 s1 g1 st1 hf4 y0 y1
          generalize hn1 : A1.length = n1 at *
          go_wp2_with fail
          refine C4.out.mono ?_
          rintro e w5 ⟨rfl, rfl⟩
          have C5 := Lib.hid (full_any HH1.out)
          rw [srt_len HS1.out, hn1] at C5
          obtain ⟨b, hb⟩ : ∃ b, b = decide (n1 = K) := ⟨_, rfl⟩
          rw [← hb] at C5
          have hbi : ((n1 : Int) == (K : Int)) = b := by rw [hb, Bool.eq_iff_iff]; simp; omega
          have hbb : (b != b) = false := by cases b <;> rfl
          clear hb
          go_wp2_with fail
          refine C5.out.mono ?_
          rintro e w6 ⟨rfl, g6⟩
          have HB6 := Lib.hid (HB4.out.trans (g6.below.mono HB4.out.size))
          have HH6 := Lib.hid (HH1.out.gn g6)
          have HF6 := Lib.hid (HF4.out.below g6.below)
          have C6 := Lib.hid (worst_any HH6.out)
          obtain ⟨hlast, hne⟩ := last_of HKN.out HH6.out.hp HS1.out (by rw [hn1]; exact HA1.out)
          rw [if_neg hne, decide_eq_true hne] at C6
          rw [hn1] at hlast
          clear g6 hne
          generalize R1[0]! = z at *
          obtain ⟨zi, zs⟩ := z
          have HLA := Lib.hid hlast
          clear hlast hnn hrr
          go_wp2_with fail
          refine C6.out.mono ?_
          rintro e w7 ⟨rfl, b7⟩
          have bb7 := b7.alloc b7.size (hobj (zi, zs))
          have HB7 := Lib.hid (HB6.out.trans (bb7.mono HB6.out.size))
          have HH7 := Lib.hid (HH6.out.below bb7)
          have HF7 := Lib.hid (HF6.out.below bb7)
          obtain ⟨q0, q1⟩ := two_cells (heap_last w7 (hobj (zi, zs)))
          obtain ⟨g2, off2, c2, e2, hg2, hc2⟩ := HF7.out.hs.at (k := n1 - 1) (by rw [hn1]; have := HA1.out; omega)
          injection e2 with e21 e22 e23
          clear e22
          subst e21
          subst e23
          obtain ⟨v0, v1⟩ := hc2 _ rfl
          have hzz : A1[n1 - 1]'(by rw [hn1]; have := HA1.out; omega) = (zi, zs) := Option.some.inj ((List.getElem?_eq_getElem _).symm.trans HLA.out)
          rw [hzz] at v0 v1
          simp only at v0 v1
          have hidx : IntKind.i64.wrap ((n1 : Int) - 1) = ((n1 - 1 : Nat) : Int) := by rw [IntKind.wrap_i64]; have := HA1.out; have := HA3.out; omega
          have hin : ((n1 - 1 : Nat) : Int) < (n1 : Int) := by have := HA1.out; omega
          have HE := fun W => neqH_run (zi, zs) (zi, zs) W
          simp only [decide_true, Bool.not_true] at HE
          clear hc2 hg2 hzz b7 bb7
          generalize n1 - 1 = n2 at *
          have HQ := Lib.hid (And.intro q0 q1)
          have HV := Lib.hid (And.intro v0 v1)
          have HID := Lib.hid (And.intro hidx hin)
          have HEE := Lib.hid HE
          clear q0 q1 v0 v1 hidx hin HE hbi hbb
          go_wp2_with fail
          generalize hZ : w7.heap.size = Z at *
          generalize w7.alloc (hobj (zi, zs)) = w8 at *
          obtain ⟨q0, q1⟩ := HQ.out
          obtain ⟨v0, v1⟩ := HV.out
          obtain ⟨hidx, hin⟩ := HID.out
          have HE := HEE.out
          go_quiet (fail)
          have HB9 := Lib.hid (HB7.out.trans (((Gn.refl w8).drewN nq).below.mono HB7.out.size))
          have HH9 := Lib.hid (HH7.out.gn ((Gn.refl w8).drewN nq))
          have HF9 := Lib.hid (HF7.out.below ((Gn.refl w8).drewN nq).below)
          clear q0 q1 v0 v1
          generalize w8.drewN nq = w9 at *
          go_wp2
          go_roundw
          case rel => exact ⟨k + 1, by omega, congrArg _ (wrap_s HM.out hlt), ⟨rv1, R1, HH9.out, by rw [HNX.out]; exact HS1.out, by rw [HNX.out, ← hn1]; rw [← hn1] at HF9; exact HF9.out⟩, HB9⟩
          case measure =>
            rw [wrap_s HM.out hlt]
            exact int_less hlt
        · obtain rfl : k = l2.length := by omega
          generalize wr = w0r at *
          rw [List.take_length] at HSR HWN
          obtain ⟨A, hA⟩ : ∃ A, A = keptW a0 K l2 := ⟨_, rfl⟩
          rw [← hA] at HSR HWN
          have HAL : Hid (A.length * 16 ≤ 140737488351232) := Lib.hid (by have h1 := HN.out; have h2 : A.length ≤ l2.length := by rw [hA]; exact keptW_len _
                                                                          omega)
          clear hA
          have C2 := Lib.hid (list_any HBE.out (by rw [srt_len HSR.out]; have := HAL.out; omega))
          rw [HSR.out] at C2
          go_wp2_with fail
          refine C2.out.mono ?_
          rintro e w3 ⟨ux, rfl, ho, b3⟩
          have HBB0 := Lib.hid (HB.out.trans (b3.mono HB.out.size))
          have HBE3 := Lib.hid (HBE.out.below b3)
          have hwf : HsF (fun g => ¬ StX B M X rv g ∧ g < w0r.heap.size) w3 u8 A := (HWN.out.mono (F' := fun g => ¬ StX B M X rv g ∧ g < w0r.heap.size) (fun g hg h => ⟨h, hg⟩)).below b3
          have HWF := Lib.hid hwf
          have HSX := Lib.hid (stx_lt HBE.out)
          obtain ⟨pu, cu, rfl⟩ := hwf.hs.form
          clear hwf b3
          rcases Nat.eq_zero_or_pos A.length with h0 | h0
          · obtain ⟨px, cx, rfl⟩ := own_nil (show w3.ownsRow w0r.heap.size 23 2 ux 0 (hCells A) from h0 ▸ ho)
            have HBX := HBE3
            have HBB := HBB0
            have HWX := Lib.hid (HWF.out.mono (F' := fun g => ¬ StX B M X rv g) (fun g _ h => h.1))
            clear ho h0
            go_wp2_with fail
            go_loop [14] (fun i => i = .int .i64 0) (fun _ => 0)
            case atStart => rfl
            case round =>
              subst hrel
              have C3 := Lib.hid (list_any HBX.out (by rw [srt_len HSR.out]; have := HAL.out; omega))
              rw [HSR.out] at C3
              go_wp2_with fail
              refine C3.out.mono ?_
              rintro e w5 ⟨u2, rfl, ho5, b5⟩
              have HB5 := Lib.hid (HBB.out.trans (b5.mono HBB.out.size))
              have C4 := Lib.hid (same_any A A u2 _ w5 (own_hits ho5) (HWX.out.below b5).hs (by have := HAL.out; unfold maxLen; omega))
              rw [decide_eq_true rfl] at C4
              clear ho5 b5
              go_wp2_with fail
              refine C4.out.mono ?_
              rintro e w6 ⟨rfl, g6⟩
              have HB6 := Lib.hid (HB5.out.trans (g6.below.mono HB5.out.size))
              clear g6
              go_wp2_with fail
              refine (awake_any w6).mono ?_
              rintro e w7 ⟨rfl, b7⟩
              have HB7 := Lib.hid (HB6.out.trans (b7.mono HB6.out.size))
              clear b7
              go_wp2_with fail
              go_ret
              exact ⟨rfl, HB7.out⟩
          · obtain ⟨gx, capx, rfl, hbx, hgx, -⟩ := own_at ho h0
            have HO := Lib.hid (Go.Joins.ownsRow_le ho (Nat.zero_le w0r.heap.size))
            have hnl : A.length ≤ maxLen := by have := HAL.out; unfold maxLen; omega
            have HNL := Lib.hid hnl
            have ho' : w3.ownsRow 0 23 2 (.slice (some ⟨gx, 0, none⟩) A.length capx) A.length (hCells A) := HO.out
            have HO2 := Lib.hid ho'
            have HBX0 := Lib.hid hbx
            clear ho ho' hnl h0 hgx HO hbx
            go_wp2_with fail
            go_loopw [14] (fun i wx => ∃ (j : Nat) (L' : List Ht), i = .int .i64 j ∧ j ≤ A.length ∧ Hid (L'.length = A.length) ∧ Hid (wx.ownsRow 0 23 2 (.slice (some ⟨gx, 0, none⟩) A.length capx) A.length (hCells L')) ∧ Hid (Gr (one' gx) w3 wx)) (fun i _ => A.length - (intOf i).toNat)
            case atStart => exact ⟨0, A, rfl, Nat.zero_le _, rfl, HO2, Gr.refl _ _⟩
            case round =>
              obtain ⟨j, L', rfl, hj, HLN, HOW, HGR⟩ := hrel
              by_cases hlt2 : j < A.length
              · have hl' : L'.length = A.length := HLN.out
                generalize wr = wx at *
                have how : OwnH wx 0 (.slice (some ⟨gx, 0, none⟩) L'.length capx) L' := by show World.ownsRow _ _ _ _ _ _ _; rw [hl']; exact HOW.out
                have q0 : wx.cell? ⟨gx, j * 2, none⟩ = some (.int .i64 (L'[j]!).1) := by rw [get!_of (by omega)]; exact (how.cellAt _ (by omega)).trans (hCells_at L' j (by omega)).1
                have q1 : wx.cell? ⟨gx, j * 2 + 1, none⟩ = some (.int .i64 (L'[j]!).2) := by rw [get!_of (by omega)]; exact (how.cellAt _ (by omega)).trans (hCells_at L' j (by omega)).2
                have z0 := how.frozenAt (j * 2)
                have z1 := how.frozenAt (j * 2 + 1)
                have hs0 := own_set (v := .bool true) how j (0, 0)
                have HS0 : Hid (((wx.setCell ⟨gx, j * 2, none⟩ (.int .i64 0)).setCell ⟨gx, j * 2 + 1, none⟩ (.int .i64 0)).ownsRow 0 23 2 (.slice (some ⟨gx, 0, none⟩) A.length capx) A.length (hCells (L'.set j (0, 0)))) := Lib.hid (by
                  have h2 : World.ownsRow _ _ _ _ _ _ _ := hs0
                  rw [List.length_set, hl'] at h2
                  exact h2)
                have HG0 : Hid (Gr (one' gx) w3 ((wx.setCell ⟨gx, j * 2, none⟩ (.int .i64 0)).setCell ⟨gx, j * 2 + 1, none⟩ (.int .i64 0))) := Lib.hid (gr_set (gr_set HGR.out _ _) _ _)
                clear how hs0
                go_wp2_with fail
                go_roundw
                case rel => exact ⟨j + 1, L'.set j (0, 0), congrArg _ (wrap_s HNL.out hlt2), by omega, by show (L'.set j (0, 0)).length = A.length; rw [List.length_set]; exact hl', HS0, HG0⟩
                case measure =>
                  rw [wrap_s HNL.out hlt2]
                  exact int_less hlt2
              · obtain rfl : j = A.length := by omega
                generalize wr = wx at *
                have HBB := Lib.hid (HBB0.out.trans (HGR.out.below (B := w.heap.size) (fun b hb e => by have := HBX0.out; have := HB.out.size; have : b = gx := e; omega) HBB0.out.size))
                have HBX := Lib.hid (HBE3.out.kept HGR.out.size (fun b hb h => HGR.out.block b hb (fun e => by have h1 := HSX.out b h; have h2 := HBX0.out; have h3 : b = gx := e; omega)))
                have hwx := ((HWF.out.kept HGR.out.size (fun g hg h => HGR.out.block g hg (fun e => by have h2 := HBX0.out; have h3 : g = gx := e; have h4 := h.2; omega))).mono (F' := fun g => ¬ StX B M X rv g) (fun g _ h => h.1))
                have HWX := Lib.hid hwx
                clear hwx
                have C3 := Lib.hid (list_any HBX.out (by rw [srt_len HSR.out]; have := HAL.out; omega))
                rw [HSR.out] at C3
                go_wp2_with fail
                refine C3.out.mono ?_
                rintro e w5 ⟨u2, rfl, ho5, b5⟩
                have HB5 := Lib.hid (HBB.out.trans (b5.mono HBB.out.size))
                have C4 := Lib.hid (same_any A A u2 _ w5 (own_hits ho5) (HWX.out.below b5).hs (by have := HAL.out; unfold maxLen; omega))
                rw [decide_eq_true rfl] at C4
                clear ho5 b5
                go_wp2_with fail
                refine C4.out.mono ?_
                rintro e w6 ⟨rfl, g6⟩
                have HB6 := Lib.hid (HB5.out.trans (g6.below.mono HB5.out.size))
                clear g6
                go_wp2_with fail
                refine (awake_any w6).mono ?_
                rintro e w7 ⟨rfl, b7⟩
                have HB7 := Lib.hid (HB6.out.trans (b7.mono HB6.out.size))
                clear b7
                go_wp2_with fail
                go_ret
                exact ⟨rfl, HB7.out⟩
    · exact absurd ⟨HKN.out, HK1.out⟩ hn
  · have hcase : a0 < 1 ∨ (¬ a0 < 1 ∧ 3 < a0) ∨ (¬ a0 < 1 ∧ ¬ 3 < a0 ∧ a1 < 1) := by
      have h := hgood
      rw [known_iff] at h; omega
    go_wp2_with fail
    refine (C1.out w).mono ?_
    rintro e w1 ⟨hc, b1⟩
    rcases hc with ⟨h1, h2, _⟩ | ⟨_, rfl⟩
    · exact absurd ⟨h1, h2⟩ hgood
    · have HB1 := Lib.hid b1
      have HAW := Lib.hid (awake_any w1)
      clear b1 hgood
      rcases hcase with h | ⟨h, h'⟩ | ⟨h, h', h''⟩
      all_goals
        go_wp2_with fail
        refine HAW.out.mono ?_
        rintro e w3 ⟨rfl, b3⟩
        have HB3 := Lib.hid (HB1.out.trans (b3.mono HB1.out.size))
        clear b3
        go_wp2_with fail
        go_ret
        exact ⟨rfl, HB3.out⟩

/-! ### The row -/
set_option maxRecDepth 100000 in
theorem lifted (os : Os) (started : os.Started) (H : Type) (enc : TypeId × Value → H) :
    ReturnsInHanded {} Try.checked os 4 .any (Rows.topkKeepsSpec.pre6 enc Try.prog Try.f4 Rows.topkKeepsRow.domain false) (Rows.topkKeepsSpec.post enc Try.prog Try.f4 false true false false) := by
  refine returnsInHanded_of_change_sized (C := Try.checked) own started (by kernel_rfl) Try.func4
    (ChangeSpec.witness6 (enc := enc) (C := Try.checked) false ⟨#[], #[.int .i64 0, .int .i64 0, .slice none 0 0], []⟩ 8 (by kernel_rfl) (by kernel_rfl) (by kernel_rfl) (by kernel_rfl)) ?_
  intro W base args ds gs before hval0 hW hcnd hsz0 _
  have hval : ∀ (j : Nat) t v, Try.f4.params[j]? = some t → args[j]? = some v → Value.okWide Try.prog W .any base t v := hval0
  have hW' := hW
  obtain ⟨p, q, hA0, hV, rfl, hfz, hnd⟩ := hW
  have hA : DataW.TrodAll enc Try.prog W 0 (fun _ => true) true Try.f4.params.toList args.toList ds p := hA0
  have hsz : (DataW.weightsEach Try.prog (Try.f4.params.toList ++ Rows.topkKeepsSpec.plain.varTypes Try.prog) (ds ++ gs)).all (· ≤ reachBytes) = true := hsz0
  rw [Try.params4] at hA hval hsz
  obtain ⟨v0, vs0, d0, ds0, p0, q0, hargs, rfl, rfl, h0, r0⟩ := trodAll_cons hA
  obtain ⟨v1, vs1, d1, ds1, p1, q1, rfl, rfl, rfl, h1, r1⟩ := trodAll_cons r0
  obtain ⟨v2, vs2, d2, ds2, p2, q2, rfl, rfl, rfl, h2, r2⟩ := trodAll_cons r1
  obtain ⟨rfl, rfl, rfl⟩ := trodAll_nil r2
  obtain rfl : args = #[v0, v1, v2] := by cases args; simp_all
  obtain ⟨rfl, rfl⟩ := trodVars_none hV
  obtain ⟨a0, rfl, rfl, rfl, w0⟩ := open_int Try.underlying3 (hval 0 3 v0 rfl rfl) h0
  obtain ⟨a1, rfl, rfl, rfl, w1⟩ := open_int Try.underlying3 (hval 1 3 v1 rfl rfl) h1
  have k2 := h2
  have lt2 : ∀ x ∈ p2, x.block < W.heap.size := by obtain ⟨m, hm⟩ := k2; exact DataW.trod_lt m _ _ _ hm
  obtain ⟨a2, len2, cap2, rfl⟩ := okWide_slice Try.underlying25 (hval 2 25 v2 rfl rfl)
  obtain ⟨fuel2, hf2⟩ := h2
  obtain ⟨u2, l2, hcs2, wf2, ok2, hd2⟩ := open_hits hf2
  obtain rfl : u2 = .slice a2 len2 cap2 := by have hc := hcs2; simp [Value.cells] at hc; exact hc.symm
  have s2 := sized_hits hsz (j := 2) rfl rfl hd2
  clear hA0 hval0
  refine (walk a0 a1 (.slice a2 len2 cap2) l2 W w0 w1 wf2 s2 ok2).mono fun e W' ⟨he, bel⟩ => ?_
  subst he
  exact ⟨_, rfl, _, _, _, [], _, [], hW', trodAll_mk1 (shut_bool Try.underlying4 _), (trodAll_cons_mk (shut_int Try.underlying3 w0) (trodAll_cons_mk (shut_int Try.underlying3 w1) (trodAll_cons_mk (Below.trod laidOut (by kernel_rfl) (of_decide_eq_true (by kernel_rfl)) k2 bel lt2) trodAll_mk0))), rfl, bel.frame _, fun h => by cases h⟩

theorem over : Rows.topkKeepsRow.holds Try.pinned (OpenSpec.ofChange Rows.topkKeepsSpec) :=
  OpenClaim.holds_of_wide 4 Try.f4 rfl rfl rfl rfl rfl rfl rfl ⟨rfl, rfl, rfl, rfl, rfl⟩ rfl rfl rfl rfl rfl (by kernel_rfl) Try.func4 (by kernel_rfl)
    (of_decide_eq_true (by kernel_rfl)) (by unfold Func.isWrapper; first | (rw [if_pos (by decide +kernel)]; kernel_rfl) | (rw [if_neg (by decide +kernel)]; exact ⟨rfl, rfl⟩))
    (fun os started H enc _ => lifted os started H enc)

/-- The statement. -/
theorem proved : Rows.TopkKeepsSaid := over
#print axioms proved
end Go.Proofs.Ytbgminlajcmomab.topkKeeps
