/- For any metric, any k and any row of hits the law TopkBest of the document's chapter 7 returns true over the program's own Best, New and Sort: what is kept of any hits is the beginning of all unlike ones sorted, in whatever order they come. No condition. -/
import Derived.Test.YtbgminlajcmomabRows
import Derived.WalkKit
import Derived.ProofKit
import Derived.OpenShut
import Derived.ShutString
import Derived.ChangeOld
import Derived.Below
import Derived.SizedLaws
import Derived.Test.YtbgminlajcmomabTkArgs
namespace Go.Proofs.Ytbgminlajcmomab.topkBest
open Go.ChangeShapes Go.WideShapes Go.ChangeAt Go.RowKit Go.Proofs.Ytbgminlajcmomab
open Go.ChangeMaps (open_string shut_string)
open Tk
set_option linter.unusedVariables false

theorem own : ownKnob Try.prog.godebug = none := by kernel_rfl
theorem laidOut : laidOutB Try.prog = true := by kernel_rfl

/-! ### The walk -/
open Go Go.Sort
theorem best_mono {w : World} {base base' B X M : Nat} {m : Int} {K : Nat} {rv : Value} {R : List Ht} (h : BestAt w base B X M m K rv R R) (hb : base' ≤ base) : BestAt w base' B X M m K rv R R :=
  { h with own := Go.Joins.ownsRow_le h.own hb, bB := Nat.le_trans hb h.bB, bX := Nat.le_trans hb h.bX, bM := Nat.le_trans hb h.bM }
/-- A Best and the block of its metric. -/
def StX (B M X : Nat) (rv : Value) : Nat → Prop := fun b => St B M rv b ∨ b = X
theorem stx_lt {w : World} {base B X M : Nat} {m : Int} {K : Nat} {rv : Value} {R : List Ht} (H : BestAt w base B X M m K rv R R) : ∀ b, StX B M X rv b → b < w.heap.size := fun b h => h.elim (st_lt H b) (fun e => e ▸ H.ltX)
/-- Two Bests apart, of the same hits, forwards and backwards. -/
structure Two (w : World) (base : Nat) (m : Int) (K : Nat) (B X M : Nat) (rv : Value) (R : List Ht) (B' X' M' : Nat) (rv' : Value) (R' : List Ht) (A A' : List Ht) : Prop where
  a : BestAt w base B X M m K rv R R
  b : BestAt w base B' X' M' m K rv' R' R'
  sa : srt m R = A
  sb : srt m R' = A'
  dj : ∀ x, StX B M X rv x → StX B' M' X' rv' x → False
theorem Two.stepA {w w' : World} {base : Nat} {m : Int} {K : Nat} {B X M : Nat} {rv rv1 : Value} {R R1 : List Ht} {B' X' M' : Nat} {rv' : Value} {R' : List Ht} {A A' A1 : List Ht} (h : Two w base m K B X M rv R B' X' M' rv' R' A A')
    (H : BestAt w' base B X M m K rv1 R1 R1) (hs : srt m R1 = A1) (hg : Gr (St B M rv) w w') (hst : ∀ b, b < w.heap.size → St B M rv1 b → St B M rv b) : Two w' base m K B X M rv1 R1 B' X' M' rv' R' A1 A' :=
  ⟨H, h.b.kept hg.size (fun b hb hx => hg.block b hb (fun s => h.dj b (.inl s) hx)), hs, h.sb, fun x h1 h2 => h.dj x (h1.elim (fun s => .inl (hst x (stx_lt h.b x h2) s)) .inr) h2⟩
theorem Two.stepB {w w' : World} {base : Nat} {m : Int} {K : Nat} {B X M : Nat} {rv rv1 : Value} {R R1 : List Ht} {B' X' M' : Nat} {rv' : Value} {R' : List Ht} {A A' A1 : List Ht} (h : Two w base m K B X M rv R B' X' M' rv' R' A A')
    (H : BestAt w' base B' X' M' m K rv1 R1 R1) (hs : srt m R1 = A1) (hg : Gr (St B' M' rv') w w') (hst : ∀ b, b < w.heap.size → St B' M' rv1 b → St B' M' rv' b) : Two w' base m K B X M rv R B' X' M' rv1 R1 A A1 :=
  ⟨h.a.kept hg.size (fun b hb hx => hg.block b hb (fun s => h.dj b hx (.inl s))), H, h.sa, hs, fun x h1 h2 => h.dj x h1 (h2.elim (fun s => .inl (hst x (stx_lt h.a x h1) s)) .inr)⟩
theorem Two.below {w w' : World} {base : Nat} {m : Int} {K : Nat} {B X M : Nat} {rv : Value} {R : List Ht} {B' X' M' : Nat} {rv' : Value} {R' : List Ht} {A A' : List Ht} (h : Two w base m K B X M rv R B' X' M' rv' R' A A') (g : RowKit.Below w.heap.size w w') : Two w' base m K B X M rv R B' X' M' rv' R' A A' :=
  ⟨h.a.below g, h.b.below g, h.sa, h.sb, h.dj⟩
def TwoE (w : World) (base : Nat) (m : Int) (K : Nat) (B X M B' X' M' : Nat) (A A' : List Ht) : Prop := ∃ rv R rv' R', Two w base m K B X M rv R B' X' M' rv' R' A A'
theorem keptW_len {m : Int} {k : Nat} (l : List Ht) : (keptW m k l).length ≤ l.length := by
  have : ∀ (l o : List Ht), (l.foldl (fun o h => (addW m k o h).1) o).length ≤ o.length + l.length := by
    intro l
    induction l with
    | nil => intro o; simp
    | cons x r ih =>
      intro o
      simp only [List.foldl_cons, List.length_cons]
      refine Nat.le_trans (ih _) ?_
      have : (addW m k o x).1.length ≤ o.length + 1 := by
        unfold addW
        split
        · simp
        · split
          · rw [insR_length]; exact Nat.le_refl _
          · rw [List.length_take, insR_length]; omega
      omega
  simpa [keptW] using this l []
theorem kept_both {m : Int} (hm : knownB m = true) (K : Nat) (l : List Ht) : keptW m K l = (srt m (ddF l)).take K ∧ keptW m K l.reverse = (srt m (ddF l)).take K := by
  obtain ⟨h1, h2, _⟩ := ddF_fact l
  exact ⟨keptW_is hm K l _ h1 h2, keptW_is hm K l.reverse _ h1 (fun x => by rw [h2]; simp)⟩
set_option maxHeartbeats 2000000 in
set_option maxRecDepth 100000 in
theorem walk (a0 : Int) (a1 : Int) (v2 : Value) (l2 : List Ht) (w : World) (w0 : (Lit.int .i64 a0).wf = true) (w1 : (Lit.int .i64 a1).wf = true) (wf2 : HsAt w v2 l2) (s2 : l2.length * 16 ≤ 140737488351232) (ok2 : ∀ y ∈ l2, OkH y) :
    Calls Try.prog 5 #[.int .i64 a0, .int .i64 a1, v2] w fun e w' => e = .returned (.bool true) ∧ Below w.heap.size w w' := by
  have ha1 : a1 ≤ 9223372036854775807 := by
    have : -9223372036854775808 ≤ a1 ∧ a1 ≤ 9223372036854775807 := by simpa [Lit.wf, show IntKind.i64.min = -9223372036854775808 from rfl] using w1
    exact this.2
  have HL := Lib.hid wf2
  have HN := Lib.hid s2
  have HOK := Lib.hid ok2
  have hm : l2.length ≤ maxLen := by unfold maxLen; omega
  have HM := Lib.hid hm
  obtain ⟨pp, cc, rfl⟩ := wf2.form
  clear wf2 s2 ok2 hm w0 w1
  have C1 := Lib.hid (new_any a0 a1)
  go_enter Try.func5, Try.ntmps5
  by_cases hgood : knownB a0 = true ∧ 1 ≤ a1
  · obtain ⟨hk, hk1⟩ := hgood
    obtain ⟨K, rfl⟩ : ∃ K : Nat, a1 = K := ⟨a1.toNat, by omega⟩
    have HKN := Lib.hid hk
    have HK1 := Lib.hid hk1
    have HKM := Lib.hid ha1
    clear hk hk1 ha1
    go_wp2_with fail
    refine (C1.out w).mono ?_
    rintro e w1 ⟨hc, b1⟩
    rcases hc with ⟨_, _, hx⟩ | ⟨hn, _⟩
    · obtain ⟨B, X, M, rfl, H1⟩ := hx HKM.out
      rw [Int.toNat_natCast] at H1
      have HB1 := Lib.hid b1
      have HH1 := Lib.hid H1
      clear hx b1 H1
      go_wp2_with fail
      refine (C1.out w1).mono ?_
      rintro e w2 ⟨hc, b2⟩
      rcases hc with ⟨_, _, hx⟩ | ⟨hn, _⟩
      · obtain ⟨B', X', M', rfl, H2⟩ := hx HKM.out
        rw [Int.toNat_natCast] at H2
        have HB2 := Lib.hid (HB1.out.trans (b2.mono HB1.out.size))
        have HTW : Hid (Two w2 w.heap.size a0 K B X M (.slice none 0 0) [] B' X' M' (.slice none 0 0) [] (keptW a0 K (l2.take 0)) (keptW a0 K (l2.reverse.take 0))) := Lib.hid
          ⟨HH1.out.below b2, best_mono H2 HB1.out.size, by simp [srt, keptW], by simp [srt, keptW], fun x h1 h2 => by
            have a := stx_lt HH1.out x h1
            rcases h2 with h2 | h2
            · have := st_base H2 x h2; omega
            · have := H2.bX; omega⟩
        clear hx b2 H2
        go_wp2_with fail
        go_loopw [9] (fun i wr => ∃ k : Nat, k ≤ l2.length ∧ i = .int .i64 k ∧ TwoE wr w.heap.size a0 K B X M B' X' M' (keptW a0 K (l2.take k)) (keptW a0 K (l2.reverse.take k)) ∧ Hid (RowKit.Below w.heap.size w wr)) (fun i _ => l2.length - (intOf i).toNat)
        case atStart => exact ⟨0, Nat.zero_le _, rfl, ⟨_, _, _, _, HTW.out⟩, HB2⟩
        case round =>
          obtain ⟨k, hk, rfl, ⟨rv, R, rv', R', htw⟩, HB⟩ := hrel
          have HT := Lib.hid htw
          clear htw
          by_cases hlt : k < l2.length
          · obtain ⟨g, off, c, e, hg, hc⟩ := HL.out.at hlt
            injection e with e1 _ e3
            subst e1
            subst e3
            obtain ⟨j, hj⟩ : ∃ j, j = l2.length - 1 - k := ⟨_, rfl⟩
            have hjl : j < l2.length := by omega
            obtain ⟨g', off', c', e', hg', hc'⟩ := HL.out.at hjl
            injection e' with e1' _ e3'
            injection e1' with e1'
            injection e1' with e4 e5
            subst e4
            subst e5
            subst e3'
            obtain ⟨x0, x1⟩ := hc wr (HB.out.block g hg)
            have hxa : l2[k]? = some l2[k] := List.getElem?_eq_getElem hlt
            have hxb : l2.reverse[k]? = some l2[j] := by
              rw [List.getElem?_reverse hlt, ← hj, List.getElem?_eq_getElem hjl]
            have hyc := fun (W : World) (b : RowKit.Below w.heap.size w W) => hc' W (b.block g hg)
            have HYC := Lib.hid hyc
            have okx := HOK.out _ (List.getElem_mem hlt)
            have oky := HOK.out _ (List.getElem_mem hjl)
            have HXA := Lib.hid hxa
            have HXB := Lib.hid hxb
            have hjw : wrap64 (wrap64 ((l2.length : Int) - 1) - (k : Int)) = (j : Int) := by have := HM.out; unfold maxLen at this; unfold wrap64; omega
            have hjz : (j : Int) < (l2.length : Int) := by omega
            have HJ := Lib.hid hj
            have HJL := Lib.hid hjl
            clear hc hc' hyc hxa hxb hg' hj
            generalize l2[k] = x at *
            generalize l2[j] = y at *
            obtain ⟨xi, xs⟩ := x
            obtain ⟨yi, ys⟩ := y
            have hlen : ∀ (l : List Ht), (keptW a0 K (l.take k)).length ≤ k := fun l => Nat.le_trans (keptW_len _) (by rw [List.length_take]; omega)
            have C2 := Lib.hid (add_step (xi, xs) HT.out.a okx (by rw [srt_len HT.out.sa]; have h1 := HN.out; have := hlen l2; omega) HB.out.size HT.out.sa (A' := (addW a0 K (keptW a0 K (l2.take k)) (xi, xs)).1) (r := (addW a0 K (keptW a0 K (l2.take k)) (xi, xs)).2) rfl)
            have HLEN := Lib.hid (hlen l2.reverse)
            have HOY := Lib.hid oky
            clear okx oky hlen
            go_wp2_with fail
            refine C2.out.mono ?_
            rintro e w3 ⟨rfl, rv1, R1, H1, s1, g1, st1⟩
            have HT3 := Lib.hid (HT.out.stepA H1 s1 g1 st1)
            have HB3 := Lib.hid (HB.out.trans (best_below HT.out.a g1 HB.out.size))
            obtain ⟨y0, y1⟩ := HYC.out w3 HB3.out
            have C3 := Lib.hid (add_step (yi, ys) HT3.out.b HOY.out (by rw [srt_len HT3.out.sb]; have h1 := HN.out; have := HLEN.out; omega) HB3.out.size HT3.out.sb (A' := (addW a0 K (keptW a0 K (l2.reverse.take k)) (yi, ys)).1) (r := (addW a0 K (keptW a0 K (l2.reverse.take k)) (yi, ys)).2) rfl)
            have hjl := HJL.out
            clear H1 s1 g1 st1 x0 x1
            go_wp2_with fail
            refine C3.out.mono ?_
            rintro e w4 ⟨rfl, rv2, R2, H2, s2, g2, st2⟩
            have HT4 := Lib.hid (HT3.out.stepB H2 s2 g2 st2)
            have HB4 := Lib.hid (HB3.out.trans (best_below HT3.out.b g2 HB3.out.size))
            clear H2 s2 g2 st2 y0 y1
            go_wp2_with fail
            go_roundw
            case rel => exact ⟨k + 1, by omega, congrArg _ (wrap_s HM.out hlt), ⟨_, _, _, _, by rw [keptW_take HXA.out, keptW_take HXB.out]; exact HT4.out⟩, HB4⟩
            case measure =>
              rw [wrap_s HM.out hlt]
              exact int_less hlt
          · obtain rfl : k = l2.length := by omega
            have hkb := kept_both HKN.out K l2
            have HSA : Hid (srt a0 R = (srt a0 (ddF l2)).take K) := Lib.hid (by rw [HT.out.sa, List.take_length, hkb.1])
            have HSB : Hid (srt a0 R' = (srt a0 (ddF l2)).take K) := Lib.hid (by rw [HT.out.sb, ← hkb.2, List.take_of_length_le (by simp)])
            have hdl := (ddF_fact l2).2.2
            have C2 := Lib.hid (unlike_any l2 _ wr (HL.out.below HB.out) (by have := HN.out; omega))
            have HDL := Lib.hid hdl
            have HKL : Hid (R.length ≤ l2.length) := Lib.hid (by rw [srt_len HT.out.sa]; exact Nat.le_trans (keptW_len _) (by rw [List.length_take]; omega))
            have HKL' : Hid (R'.length ≤ l2.length) := Lib.hid (by rw [srt_len HT.out.sb]; exact Nat.le_trans (keptW_len _) (by rw [List.length_take, List.length_reverse]; omega))
            clear hkb hdl
            go_wp2_with fail
            refine C2.out.mono ?_
            rintro e w3 ⟨u, rfl, ho, b3⟩
            have HT3 := Lib.hid (HT.out.below b3)
            have HB3 := Lib.hid (HB.out.trans (b3.mono HB.out.size))
            have C3 := Lib.hid (sort_any a0 (ddF l2) u w3 (own_hsP ho) (by have h1 := HN.out; have h2 := HDL.out; omega))
            rw [show sortH a0 (ddF l2) = srt a0 (ddF l2) by unfold sortH; rw [if_pos HKN.out]] at C3
            have HSL : Hid ((srt a0 (ddF l2)).length = (ddF l2).length) := Lib.hid ((srt_perm _ _).length_eq)
            clear ho b3
            go_wp2_with fail
            refine C3.out.mono ?_
            rintro e w4 ⟨v, rfl, ho, b4⟩
            have HT4 := Lib.hid (HT3.out.below b4)
            have HB4 := Lib.hid (HB3.out.trans (b4.mono HB3.out.size))
            obtain ⟨S, hS⟩ : ∃ S, S = srt a0 (ddF l2) := ⟨_, rfl⟩
            rw [← hS] at ho HSA HSB HSL
            clear hS
            obtain ⟨p, c, rfl, hc1, hc2, hcut⟩ := own_cut ho (min K S.length) (by omega)
            have hmt : S.take (min K S.length) = S.take K := by
              rcases Nat.le_total K S.length with h | h
              · rw [Nat.min_eq_left h]
              · rw [Nat.min_eq_right h, List.take_of_length_le h, List.take_of_length_le (Nat.le_refl _)]
            rw [hmt] at hcut
            have HCUT := Lib.hid hcut.hs
            obtain ⟨q, hq⟩ : ∃ q : Nat, q = min K S.length := ⟨_, rfl⟩
            rw [← hq] at HCUT
            have hqz : min (K : Int) (S.length : Int) = (q : Int) := by omega
            have hqc : (q : Int) ≤ (c : Int) := by omega
            have hq0 : (0 : Int) ≤ (q : Int) := by omega
            have C4 := Lib.hid (list_any HT4.out.a (by have h1 := HN.out; have h2 := HKL.out; omega))
            have HST : Hid ((S.take K).length ≤ maxLen) := Lib.hid (by rw [List.length_take]; have h1 := HSL.out; have h2 := HDL.out; have h3 := HM.out; omega)
            clear ho b4 hcut hmt hq hc1 hc2
            generalize S.length = sl at *
            go_wp2_with fail
            refine C4.out.mono ?_
            rintro e w5 ⟨ua, rfl, ho5, b5⟩
            rw [HSA.out] at ho5
            have HT5 := Lib.hid (HT4.out.below b5)
            have HB5 := Lib.hid (HB4.out.trans (b5.mono HB4.out.size))
            have HCUT5 := Lib.hid (HCUT.out.below b5)
            have C5 := Lib.hid (same_any (S.take K) (S.take K) ua _ w5 (own_hits ho5) HCUT5.out HST.out)
            rw [decide_eq_true rfl] at C5
            clear ho5 b5
            go_wp2_with fail
            refine C5.out.mono ?_
            rintro e w6 ⟨rfl, g6⟩
            have HT6 := Lib.hid (HT5.out.below g6.below)
            have HB6 := Lib.hid (HB5.out.trans (g6.below.mono HB5.out.size))
            have HCUT6 := Lib.hid (HCUT5.out.below g6.below)
            have C6 := Lib.hid (list_any HT6.out.b (by have h1 := HN.out; have h2 := HKL'.out; omega))
            clear g6
            go_wp2_with fail
            refine C6.out.mono ?_
            rintro e w7 ⟨ub, rfl, ho7, b7⟩
            rw [HSB.out] at ho7
            have HB7 := Lib.hid (HB6.out.trans (b7.mono HB6.out.size))
            have C7 := Lib.hid (same_any (S.take K) (S.take K) ub _ w7 (own_hits ho7) (HCUT6.out.below b7) HST.out)
            rw [decide_eq_true rfl] at C7
            clear ho7 b7
            go_wp2_with fail
            refine C7.out.mono ?_
            rintro e w8 ⟨rfl, g8⟩
            have HB8 := Lib.hid (HB7.out.trans (g8.below.mono HB7.out.size))
            clear g8
            go_wp2_with fail
            refine (awake_any w8).mono ?_
            rintro e w9 ⟨rfl, b9⟩
            have HB9 := Lib.hid (HB8.out.trans (b9.mono HB8.out.size))
            clear b9
            go_wp2_with fail
            go_ret
            exact ⟨rfl, HB9.out⟩
      · exact absurd ⟨HKN.out, HK1.out⟩ hn
    · exact absurd ⟨HKN.out, HK1.out⟩ hn
  · have HG := Lib.hid hgood
    go_wp2_with fail
    refine (C1.out w).mono ?_
    rintro e w1 ⟨hc, b1⟩
    rcases hc with ⟨h1, h2, _⟩ | ⟨_, rfl⟩
    · exact absurd ⟨h1, h2⟩ hgood
    · have HB1 := Lib.hid b1
      clear b1
      go_wp2_with fail
      refine (C1.out w1).mono ?_
      rintro e w2 ⟨hc, b2⟩
      rcases hc with ⟨h1, h2, _⟩ | ⟨_, rfl⟩
      · exact absurd ⟨h1, h2⟩ hgood
      · have HB2 := Lib.hid (HB1.out.trans (b2.mono HB1.out.size))
        have hcase : a0 < 1 ∨ (¬ a0 < 1 ∧ 3 < a0) ∨ (¬ a0 < 1 ∧ ¬ 3 < a0 ∧ a1 < 1) := by
          rw [known_iff] at hgood; omega
        have HAW := Lib.hid (awake_any w2)
        clear b2 hgood
        rcases hcase with h | ⟨h, h'⟩ | ⟨h, h', h''⟩
        all_goals
          go_wp2_with fail
          refine HAW.out.mono ?_
          rintro e w3 ⟨rfl, b3⟩
          have HB3 := Lib.hid (HB2.out.trans (b3.mono HB2.out.size))
          clear b3
          go_wp2_with fail
          go_ret
          exact ⟨rfl, HB3.out⟩

/-! ### The row -/
set_option maxRecDepth 100000 in
theorem lifted (os : Os) (started : os.Started) (H : Type) (enc : TypeId × Value → H) :
    ReturnsInHanded {} Try.checked os 5 .any (Rows.topkBestSpec.pre6 enc Try.prog Try.f5 Rows.topkBestRow.domain false) (Rows.topkBestSpec.post enc Try.prog Try.f5 false true false false) := by
  refine returnsInHanded_of_change_sized (C := Try.checked) own started (by kernel_rfl) Try.func5
    (ChangeSpec.witness6 (enc := enc) (C := Try.checked) false ⟨#[], #[.int .i64 0, .int .i64 0, .slice none 0 0], []⟩ 8 (by kernel_rfl) (by kernel_rfl) (by kernel_rfl) (by kernel_rfl)) ?_
  intro W base args ds gs before hval0 hW hcnd hsz0 _
  have hval : ∀ (j : Nat) t v, Try.f5.params[j]? = some t → args[j]? = some v → Value.okWide Try.prog W .any base t v := hval0
  have hW' := hW
  obtain ⟨p, q, hA0, hV, rfl, hfz, hnd⟩ := hW
  have hA : DataW.TrodAll enc Try.prog W 0 (fun _ => true) true Try.f5.params.toList args.toList ds p := hA0
  have hsz : (DataW.weightsEach Try.prog (Try.f5.params.toList ++ Rows.topkBestSpec.plain.varTypes Try.prog) (ds ++ gs)).all (· ≤ reachBytes) = true := hsz0
  rw [Try.params5] at hA hval hsz
  obtain ⟨v0, vs0, d0, ds0, p0, q0, hargs, rfl, rfl, h0, r0⟩ := trodAll_cons hA
  obtain ⟨v1, vs1, d1, ds1, p1, q1, rfl, rfl, rfl, h1, r1⟩ := trodAll_cons r0
  obtain ⟨v2, vs2, d2, ds2, p2, q2, rfl, rfl, rfl, h2, r2⟩ := trodAll_cons r1
  obtain ⟨rfl, rfl, rfl⟩ := trodAll_nil r2
  obtain rfl : args = #[v0, v1, v2] := by cases args; simp_all
  obtain ⟨rfl, rfl⟩ := trodVars_none hV
  obtain ⟨a0, rfl, rfl, rfl, w0⟩ := open_int Try.underlying3 (hval 0 3 v0 rfl rfl) h0
  obtain ⟨a1, rfl, rfl, rfl, w1⟩ := open_int Try.underlying3 (hval 1 3 v1 rfl rfl) h1
  have k2 := h2
  have lt2 : ∀ x ∈ p2, x.block < W.heap.size := by obtain ⟨m, hm⟩ := k2; exact DataW.trod_lt m _ _ _ hm
  obtain ⟨a2, len2, cap2, rfl⟩ := okWide_slice Try.underlying25 (hval 2 25 v2 rfl rfl)
  obtain ⟨fuel2, hf2⟩ := h2
  obtain ⟨u2, l2, hcs2, wf2, ok2, hd2⟩ := open_hits hf2
  obtain rfl : u2 = .slice a2 len2 cap2 := by have hc := hcs2; simp [Value.cells] at hc; exact hc.symm
  have s2 := sized_hits hsz (j := 2) rfl rfl hd2
  clear hA0 hval0
  refine (walk a0 a1 (.slice a2 len2 cap2) l2 W w0 w1 wf2 s2 ok2).mono fun e W' ⟨he, bel⟩ => ?_
  subst he
  exact ⟨_, rfl, _, _, _, [], _, [], hW', trodAll_mk1 (shut_bool Try.underlying4 _), (trodAll_cons_mk (shut_int Try.underlying3 w0) (trodAll_cons_mk (shut_int Try.underlying3 w1) (trodAll_cons_mk (Below.trod laidOut (by kernel_rfl) (of_decide_eq_true (by kernel_rfl)) k2 bel lt2) trodAll_mk0))), rfl, bel.frame _, fun h => by cases h⟩

theorem over : Rows.topkBestRow.holds Try.pinned (OpenSpec.ofChange Rows.topkBestSpec) :=
  OpenClaim.holds_of_wide 5 Try.f5 rfl rfl rfl rfl rfl rfl rfl ⟨rfl, rfl, rfl, rfl, rfl⟩ rfl rfl rfl rfl rfl (by kernel_rfl) Try.func5 (by kernel_rfl)
    (of_decide_eq_true (by kernel_rfl)) (by unfold Func.isWrapper; first | (rw [if_pos (by decide +kernel)]; kernel_rfl) | (rw [if_neg (by decide +kernel)]; exact ⟨rfl, rfl⟩))
    (fun os started H enc _ => lifted os started H enc)

/-- The statement. -/
theorem proved : Rows.TopkBestSaid := over
#print axioms proved
end Go.Proofs.Ytbgminlajcmomab.topkBest
