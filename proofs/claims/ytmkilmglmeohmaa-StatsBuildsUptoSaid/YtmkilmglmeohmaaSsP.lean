/- The walk of the law StatsBuilds. Conditions: those that each theorem names. -/
import Derived.Test.YtmkilmglmeohmaaSsN
import Derived.Test.YtmkilmglmeohmaaSsO
import Derived.Deep.RegionHeld3
namespace Go.Proofs.Ytmkilmglmeohmaa
set_option linter.unusedVariables false
open Go Go.RowKit Go.Sort
namespace Ss
theorem cell_below {w w' : World} {g o : Nat} {v : Value} (h : w.cell? ⟨g, o, none⟩ = some v) (hb : Below w.heap.size w w') : w'.cell? ⟨g, o, none⟩ = some v := by
  rw [← h]
  refine World.cell?_of_block (hb.block g ?_)
  rcases Nat.lt_or_ge g w.heap.size with hlt | hge
  · exact hlt
  · simp [World.cell?, Array.getElem?_eq_none hge] at h
abbrev OwnT (w : World) (base : Nat) (v : Value) (L : List ByteArray) : Prop := Rk.Own encT 1 9 w base v L
def spare : ByteArray := ⟨#[115, 112, 97, 114, 101]⟩
/-- A copy with one more behind it. -/
theorem copy_ints (L : List Int) (v : Value) (w : World) (h : IntsAt w v L) (hl : L.length ≤ 1048576) :
    ∃ v1 w1 g cap w2, (∀ ty, (Builtin.append_ #[22, 22] ty #[.slice none 0 0, v]).run Try.prog w = .ok v1 w1) ∧
      (∀ ty, (Builtin.append_ #[22, 22] ty #[v1, .slice (some ⟨w1.heap.size, 0, none⟩) 1 1]).run Try.prog (w1.alloc (.cells #[.int .i64 77] 3)) = .ok (.slice (some ⟨g, 0, none⟩) (L.length + 1) cap) w2) ∧
      Own w2 w.heap.size (.slice (some ⟨g, 0, none⟩) (L.length + 1) cap) (L ++ [77]) ∧ Below w.heap.size w w2 ∧ L.length + 1 ≤ cap := by
  obtain ⟨v1, w1, hr1, ho1, hg1⟩ := append_ints (Rx.own_nil w w.heap.size) h (by simp; omega) (Nat.le_refl _)
  have hb1 : Below w.heap.size w w1 := (Below.refl _ _).grown hg1 (Nat.le_refl _) (fun j hj => by simp [Value.ownBlock] at hj)
  rw [List.nil_append] at ho1
  obtain ⟨v2, w2, hr2, ho2, hb2⟩ := Rx.append_one 77 ho1 (by omega) hb1.size
  obtain ⟨g, cap, rfl, _, _⟩ := own_form ho2 (by simp)
  have hc : L.length + 1 ≤ cap := by
    rcases ho2.2 with ⟨e, _⟩ | ⟨_, _, _, e, _, _, h1, _⟩
    · cases e
    · injection e with _ _ e3
      simp at h1; omega
  rw [List.length_append] at hr2 ho2
  exact ⟨v1, w1, g, cap, w2, hr1, hr2, ho2, hb1.trans hb2, hc⟩
theorem copy_txts (M : List ByteArray) (v : Value) (w : World) (h : TxtsAt w v M) (hl : M.length ≤ 1048576) :
    ∃ v1 w1 g cap w2, (∀ ty, (Builtin.append_ #[23, 23] ty #[.slice none 0 0, v]).run Try.prog w = .ok v1 w1) ∧
      (∀ ty, (Builtin.append_ #[23, 23] ty #[v1, .slice (some ⟨w1.heap.size, 0, none⟩) 1 1]).run Try.prog (w1.alloc (.cells #[.string spare] 9)) = .ok (.slice (some ⟨g, 0, none⟩) (M.length + 1) cap) w2) ∧
      OwnT w2 w.heap.size (.slice (some ⟨g, 0, none⟩) (M.length + 1) cap) (M ++ [spare]) ∧ Below w.heap.size w w2 ∧ M.length + 1 ≤ cap := by
  obtain ⟨v1, w1, hr1, ho1, hg1, _⟩ := Rk.append_row flatT (Rk.own_none w w.heap.size) h (by simp; omega) (by simp; unfold maxLen; omega) (Nat.le_refl _)
  have hb1 : Below w.heap.size w w1 := (Below.refl _ _).grown hg1 (Nat.le_refl _) (fun j hj => by simp [Value.ownBlock] at hj)
  rw [List.nil_append] at ho1
  have ho := Rk.own_below ho1 (Rk.fresh_alloc w1 (.cells #[.string spare] 9))
  obtain ⟨v2, w2, hr2, ho2, hg2, _, g, cap, rfl, _, _⟩ := Rk.append_el flatT (x := spare) ho (Rk.heap_last w1 (.cells #[.string spare] 9)) (by omega) (by unfold maxLen; omega) (by have := hb1.size; simp; omega)
  have hc : M.length + 1 ≤ cap := by
    rcases ho2.2 with ⟨e, _⟩ | ⟨_, _, _, e, _, _, h1, _⟩
    · cases e
    · injection e with _ _ e3
      simp at h1; omega
  exact ⟨v1, w1, g, cap, w2, hr1, hr2, ho2, hb1.trans (((Below.refl w.heap.size w1).alloc hb1.size _).grown hg2 (by have := hb1.size; simp; omega) (fun j hj => (Rk.own_block ho1 j hj).1)), hc⟩
theorem ints_front {w : World} {g n1 c : Nat} {L : List Int} {x : Int} (h : IntsAt w (.slice (some ⟨g, 0, none⟩) n1 c) (L ++ [x])) : IntsAt w (.slice (some ⟨g, 0, none⟩) L.length c) L := by
  rcases h with ⟨e, _⟩ | ⟨b, off, c2, e, hb, hc⟩
  · simp at e
  · injection e with e1 e2 e3
    injection e1 with e1
    injection e1 with e1 e4
    subst e1; subst e3; subst e4
    refine .inr ⟨g, 0, c, rfl, hb, fun W hW j hj => ?_⟩
    rw [hc W hW j (by simp; omega)]
    simp [List.getElem_append_left, hj]
theorem txts_front {w : World} {g n1 c : Nat} {L : List ByteArray} {x : ByteArray} (h : TxtsAt w (.slice (some ⟨g, 0, none⟩) n1 c) (L ++ [x])) : TxtsAt w (.slice (some ⟨g, 0, none⟩) L.length c) L := by
  rcases h with ⟨e, _⟩ | ⟨b, off, c2, e, hb, hc⟩
  · simp at e
  · injection e with e1 e2 e3
    injection e1 with e1
    injection e1 with e1 e4
    subst e1; subst e3; subst e4
    have := Rk.row_take (c := c) (n := L.length) hb hc (by simp)
    simpa using this
/-- What the law has built: the counts in a block of their own, their rows. -/
def BuiltS (sm : Int) (B : List Bk) (E : List En) (w4 : World) (SB : Nat) (wx : World) : Prop :=
  ∃ p1 c1 p2 c2, wx.heap[SB]? = some (.cells #[.int .i64 sm, .slice p1 B.length c1, .slice p2 E.length c2] 27 (0, 0)) ∧ BksAt wx (.slice p1 B.length c1) B ∧ EnsAt wx (.slice p2 E.length c2) E ∧ Below w4.heap.size w4 wx
theorem zero_kept {w w5 : World} (h : Below (w.alloc zS).drew.heap.size (w.alloc zS).drew w5) : w5.heap[w.heap.size]? = some (.cells #[.int .i64 0, .slice none 0 0, .slice none 0 0] 27 (0, 0)) :=
  (h.block w.heap.size (by show w.heap.size < (w.alloc zS).heap.size; simp)).trans (Rk.heap_last w zS)
theorem zero_cells {w : World} {g : Nat} (hz : w.heap[g]? = some (.cells #[.int .i64 0, .slice none 0 0, .slice none 0 0] 27 (0, 0))) : (w.cell? ⟨g, 0, none⟩ = some (.int .i64 0) ∧ w.cell? ⟨g, 1, none⟩ = some (.slice none 0 0) ∧ w.cell? ⟨g, 2, none⟩ = some (.slice none 0 0)) ∧ w.frozen? ⟨g, 0, none⟩ = false ∧ w.frozen? ⟨g, 1, none⟩ = false ∧ w.frozen? ⟨g, 2, none⟩ = false :=
  ⟨⟨by rw [Lib.cell_of_heap hz]; rfl, by rw [Lib.cell_of_heap hz]; rfl, by rw [Lib.cell_of_heap hz]; rfl⟩, Lib.frozen_of_heap hz 0, Lib.frozen_of_heap hz 1, Lib.frozen_of_heap hz 2⟩
theorem built_late {sm : Int} {B : List Bk} {E : List En} {w4 W w5 : World} {p1 p2 : Option Addr} {c1 c2 : Nat} (hW : Below w4.heap.size w4 W) (ob : OwnB w5 W.heap.size (.slice p1 B.length c1) B) (oe : OwnE w5 W.heap.size (.slice p2 E.length c2) E) (hb5 : Below W.heap.size W w5) :
    BuiltS sm B E w4 w5.heap.size (w5.alloc (sO sm (.slice p1 B.length c1) (.slice p2 E.length c2))) :=
  ⟨p1, c1, p2, c2, Rk.heap_last _ _, (Rk.own_row flatB ob).below (Rk.fresh_alloc _ _), (Rk.own_row flatE oe).below (Rk.fresh_alloc _ _), (hW.trans (hb5.mono hW.size)).alloc (Nat.le_trans hW.size hb5.size) _⟩
theorem built_early {sm : Int} {B : List Bk} {E : List En} {w4 w5 : World} {p1 p2 : Option Addr} {c1 c2 : Nat} (hW : Below w4.heap.size w4 (w4.alloc zS).drew) (hz : w5.heap[w4.heap.size]? = some (.cells #[.int .i64 0, .slice none 0 0, .slice none 0 0] 27 (0, 0)))
    (ob : OwnB w5 (w4.alloc zS).drew.heap.size (.slice p1 B.length c1) B) (oe : OwnE w5 (w4.alloc zS).drew.heap.size (.slice p2 E.length c2) E) (hb5 : Below (w4.alloc zS).drew.heap.size (w4.alloc zS).drew w5) :
    BuiltS sm B E w4 w4.heap.size (((w5.setCell ⟨w4.heap.size, 0, none⟩ (.int .i64 sm)).setCell ⟨w4.heap.size, 1, none⟩ (.slice p1 B.length c1)).setCell ⟨w4.heap.size, 2, none⟩ (.slice p2 E.length c2)) := by
  have hs : (w4.alloc zS).drew.heap.size = w4.heap.size + 1 := by show (w4.alloc zS).heap.size = _; simp
  have hne : ∀ g, w4.heap.size + 1 ≤ g → (((w5.setCell ⟨w4.heap.size, 0, none⟩ (.int .i64 sm)).setCell ⟨w4.heap.size, 1, none⟩ (.slice p1 B.length c1)).setCell ⟨w4.heap.size, 2, none⟩ (.slice p2 E.length c2)).heap[g]? = w5.heap[g]? := fun g hg => by
    rw [heap_setCell_other _ _ _ _ (by simp; omega), heap_setCell_other _ _ _ _ (by simp; omega), heap_setCell_other _ _ _ _ (by simp; omega)]
  refine ⟨p1, c1, p2, c2, ?_, Rk.own_row flatB (Rk.own_keep ob fun g hg _ => hne g (by have := (Rk.own_block ob g hg).1; omega)), Rk.own_row flatE (Rk.own_keep oe fun g hg _ => hne g (by have := (Rk.own_block oe g hg).1; omega)), ?_⟩
  · rw [heap_setCell_same _ _ _ _ _ _ (heap_setCell_same _ _ _ _ _ _ (heap_setCell_same _ _ _ _ _ _ hz))]
    rfl
  · exact (((hW.trans (hb5.mono hW.size)).setCell (p := ⟨w4.heap.size, 0, none⟩) (Nat.le_refl _) _).setCell (p := ⟨w4.heap.size, 1, none⟩) (Nat.le_refl _) _).setCell (p := ⟨w4.heap.size, 2, none⟩) (Nat.le_refl _) _
theorem runs_le (T : List Int) : (runs T).length ≤ T.length := by
  have h1 := runs_len_step (L := T ++ [0]) (k := T.length) (by simp)
  simpa using h1
theorem spare_list : spare.toList = [115, 112, 97, 114, 101] := by rw [Go.ByteArray.toList_eq]; rfl
set_option maxHeartbeats 8000000 in
set_option maxRecDepth 100000 in
theorem builds_any (L : List Int) (M : List ByteArray) (v u : Value) (q : Int) (w : World) (hv : IntsAt w v L) (hu : TxtsAt w u M) (hl : L.length ≤ 1048576) (hm : M.length ≤ 1048576) (hmm : ∀ s ∈ M, s.size ≤ maxLen) :
    Calls Try.prog 3 #[v, u, .int .i64 q] w fun e w' => e = .returned (.bool true) ∧ Below w.heap.size w w' := by
  obtain ⟨pv, cv, rfl⟩ := hv.form
  obtain ⟨pu, cu, rfl⟩ := hu.form
  obtain ⟨v1, w1, g1, cap1, w2, hr1, hr2, ho2, hb2, hc1⟩ := copy_ints L _ w hv hl
  obtain ⟨v3, w3, g2, cap2, w4, hr3, hr4, ho4, hb4, hc2⟩ := copy_txts M _ w2 (hu.below hb2) hm
  obtain ⟨n, hn⟩ : ∃ n, n = L.length := ⟨_, rfl⟩
  obtain ⟨m, hmn⟩ : ∃ m, m = M.length := ⟨_, rfl⟩
  have hbw : Below w.heap.size w w4 := hb2.trans (hb4.mono hb2.size)
  have HO2 := Lib.hid (own_below ho2 hb4)
  have HO4 := Lib.hid ho4
  have HBW := Lib.hid hbw
  have HV := Lib.hid (hv.below hbw)
  have HU := Lib.hid (hu.below hbw)
  have HNL := Lib.hid hl
  have HML := Lib.hid hm
  have HMM := Lib.hid hmm
  have HN := Lib.hid hn
  have HM := Lib.hid hmn
  obtain ⟨n1, hn1⟩ : ∃ n1, n1 = L.length + 1 := ⟨_, rfl⟩
  obtain ⟨m1, hm1⟩ : ∃ m1, m1 = M.length + 1 := ⟨_, rfl⟩
  rw [← hn1] at hr2 HO2 hc1
  rw [← hm1] at hr4 HO4 hc2
  have hnn : (n : Int) < n1 := by omega
  have hmm1 : (m : Int) < m1 := by omega
  have hnc : (n : Int) ≤ cap1 := by omega
  have hmc : (m : Int) ≤ cap2 := by omega
  have HN1 := Lib.hid hn1
  have HM1 := Lib.hid hm1
  rw [← hn] at hr1 HV ⊢
  rw [← hmn] at hr3 HU ⊢
  clear hv hu ho2 hb2 ho4 hb4 hbw hl hm hmm hn1 hm1 hc1 hc2 hn hmn
  go_enter Try.func3, Try.ntmps3
  go_wp2_with (first
    | (at_builtin; refine wpList_append_run rfl _ _ _ _ rfl _ _ _ _ rfl rfl hr1 ?_; clear hr1)
    | (at_builtin; refine wpList_append_run rfl _ _ _ _ rfl _ _ _ _ rfl rfl hr2 ?_; clear hr2)
    | (at_builtin; refine wpList_append_run rfl _ _ _ _ rfl _ _ _ _ rfl rfl hr3 ?_; clear hr3)
    | (at_builtin; refine wpList_append_run rfl _ _ _ _ rfl _ _ _ _ rfl rfl hr4 ?_; clear hr4))
  obtain ⟨sm, hsm⟩ : ∃ sm : Int, sm = ((L.length + M.length : Nat) : Int) := ⟨_, rfl⟩
  obtain ⟨B, hB⟩ : ∃ B, B = bks (srt L) (many q L.length) := ⟨_, rfl⟩
  obtain ⟨E, hE⟩ : ∃ E, E = runs (srt (hs M)) := ⟨_, rfl⟩
  have hC1 := fun W (hW : Below w4.heap.size w4 W) => build_any L M (.slice (some ⟨g1, 0, none⟩) n cap1) (.slice (some ⟨g2, 0, none⟩) m cap2) q W (by rw [HN.out]; exact (ints_front HO2.out.at).below hW) (by rw [HM.out]; exact Rk.RowAt.below (txts_front (Rk.own_row flatT HO4.out)) hW) (by have := HNL.out; omega) (by have := HML.out; omega) HMM.out
  have hC2 := fun W (hW : Below w4.heap.size w4 W) => rbuild_any L M (.slice pv n cv) (.slice pu m cu) q W (HV.out.below hW) (Rk.RowAt.below HU.out hW) HNL.out (by have := HML.out; omega) HMM.out
  have HBLM : Hid (B.length ≤ maxLen) := Lib.hid (by rw [hB, bks_len]; have := many_le q L.length; have := HNL.out; unfold maxLen; omega)
  have HELM : Hid (E.length ≤ maxLen) := Lib.hid (by rw [hE]; have := runs_le (srt (hs M)); rw [srt_len, hs_len] at this; have := HML.out; unfold maxLen; omega)
  rw [← hB, ← hE, ← hsm] at hC1 hC2
  have C1 := Lib.hid hC1
  have C2 := Lib.hid hC2
  clear hC1 hC2 hB hE hsm
  have HBE4 : Hid (∀ W, Below w4.heap.size w4 W → Below w4.heap.size w4 W.drew) := Lib.hid (fun W h => h.drew)
  go_upto_region 2 with fail
  go_cut [9] (fun s wx => ∃ SB, s = .pointer (some ⟨SB, 0, none⟩) ∧ BuiltS sm B E w4 SB wx)
  case first =>
    have hbd := (Below.refl w4.heap.size w4).drew
    have hbd2 := fun o => ((Below.refl w4.heap.size w4).alloc (Nat.le_refl _) o).drew
    go_region_with (go_at_call 7; refine (C1.out _ (by first | exact hbd | exact hbd2 _ | assumption)).mono ?_; rintro e w5 ⟨p1, c1, p2, c2, rfl, ob, oe, hb5⟩; (first | (have hz := zero_kept hb5; obtain ⟨⟨d0, d1, d2⟩, f0, f1, f2⟩ := zero_cells hz) | skip))
    · go_wp2_with fail
      go_meet
      case rel => exact ⟨_, rfl, built_late hbd ob oe hb5⟩
    · go_wp2_with fail
      go_meet
      case rel => exact ⟨_, rfl, built_early (hbd2 _) hz ob oe hb5⟩
  case rest =>
    obtain ⟨SB, rfl, p1, c1, p2, c2, hz, hbk, hen, hbx⟩ := hcut
    obtain ⟨w5, rfl⟩ : ∃ w5 : World, w5 = wc := ⟨_, rfl⟩
    have HBX := Lib.hid hbx
    have HBK := Lib.hid hbk
    have HEN := Lib.hid hen
    have s0 : w5.cell? ⟨SB, 0, none⟩ = some (.int .i64 sm) := by rw [Lib.cell_of_heap hz]; rfl
    have s1 : w5.cell? ⟨SB, 1, none⟩ = some (.slice p1 B.length c1) := by rw [Lib.cell_of_heap hz]; rfl
    have s2 : w5.cell? ⟨SB, 2, none⟩ = some (.slice p2 E.length c2) := by rw [Lib.cell_of_heap hz]; rfl
    have y1 := (own_cell HO2.out n 77 (by rw [HN.out]; simp)).1
    have hsp : (M ++ [spare])[m]'(by rw [HM.out]; simp) = spare := by simp [HM.out]
    have z1 := (Rk.own_cell flatT HO4.out m (by rw [HM.out]; simp) (i := 0) (u := .string spare) (by rw [hsp]; rfl)).1
    rw [Nat.mul_one, Nat.add_zero] at z1
    have y2 := cell_below y1 hbx
    have z2 := cell_below z1 hbx
    have HYZ : Hid (∀ W, Below w5.heap.size w5 W → W.cell? ⟨g1, n, none⟩ = some (.int .i64 77) ∧ W.cell? ⟨g2, m, none⟩ = some (.string spare)) := Lib.hid (fun W hW => ⟨cell_below y2 hW, cell_below z2 hW⟩)
    have BEL : Hid (∀ W, Below w5.heap.size w5 W → Below w4.heap.size w4 W) := Lib.hid (fun W hW => hbx.trans (hW.mono hbx.size))
    have hBm := HBLM.out
    have hEm := HELM.out
    have CS := Lib.hid (fun W p3 c3 p4 c4 (h3 : BksAt W (.slice p3 B.length c3) B) (h4 : EnsAt W (.slice p4 E.length c4) E) (hW : Below w5.heap.size w5 W) => same_yes sm B E p1 p3 p2 p4 c1 c3 c2 c4 W (Rk.RowAt.below hbk hW) h3 (Rk.RowAt.below hen hW) h4 hBm hEm)
    clear hz hbk hen hbx y1 z1
    go_upto_region 3 with fail
    go_cut [52] (fun r wx => r = .bool false ∧ Below w5.heap.size w5 wx)
    case first =>
      have HK := Lib.hid (fun (y z : World) (b1 : Below w5.heap.size w5 y) (b2 : Below y.heap.size y z) => show (z.cell? ⟨SB, 0, none⟩ = some (.int .i64 sm) ∧ z.cell? ⟨SB, 1, none⟩ = some (.slice p1 B.length c1) ∧ z.cell? ⟨SB, 2, none⟩ = some (.slice p2 E.length c2) ∧ z.cell? ⟨g1, n, none⟩ = some (.int .i64 77) ∧ z.cell? ⟨g2, m, none⟩ = some (.string spare) ∧ Below w5.heap.size w5 z) from by
        have b4 := b1.trans (b2.mono b1.size)
        exact ⟨cell_below s0 b4, cell_below s1 b4, cell_below s2 b4, cell_below y2 b4, cell_below z2 b4, b4⟩)
      have HBEL := Lib.hid (fun (z : World) (h : (z.cell? ⟨SB, 0, none⟩ = some (.int .i64 sm) ∧ z.cell? ⟨SB, 1, none⟩ = some (.slice p1 B.length c1) ∧ z.cell? ⟨SB, 2, none⟩ = some (.slice p2 E.length c2) ∧ z.cell? ⟨g1, n, none⟩ = some (.int .i64 77) ∧ z.cell? ⟨g2, m, none⟩ = some (.string spare) ∧ Below w5.heap.size w5 z)) => h.2.2.2.2.2)
      have t1 : ((77 : Int) != 77) = false := by decide
      have t2 : (spare.toList == spare.toList) = true := beq_self_eq_true _
      have hS : (w5.drew.cell? ⟨SB, 0, none⟩ = some (.int .i64 sm) ∧ w5.drew.cell? ⟨SB, 1, none⟩ = some (.slice p1 B.length c1) ∧ w5.drew.cell? ⟨SB, 2, none⟩ = some (.slice p2 E.length c2) ∧ w5.drew.cell? ⟨g1, n, none⟩ = some (.int .i64 77) ∧ w5.drew.cell? ⟨g2, m, none⟩ = some (.string spare) ∧ Below w5.heap.size w5 w5.drew) := ⟨s0, s1, s2, y2, z2, (Below.refl w5.heap.size w5).drew⟩
      go_region_held3 (fun x => x.cell? ⟨SB, 0, none⟩ = some (.int .i64 sm) ∧ x.cell? ⟨SB, 1, none⟩ = some (.slice p1 B.length c1) ∧ x.cell? ⟨SB, 2, none⟩ = some (.slice p2 E.length c2) ∧ x.cell? ⟨g1, n, none⟩ = some (.int .i64 77) ∧ x.cell? ⟨g2, m, none⟩ = some (.string spare) ∧ Below w5.heap.size w5 x) (first | assumption | exact HK.out _ _ (HBEL.out _ (by assumption)) hb3)
        (first
          | (go_at_call 9; refine (C2.out _ (BEL.out _ (HBEL.out _ (by assumption)))).mono ?_; rintro e wk ⟨p3, c3, p4, c4, rfl, ob, oe, hb3⟩; have o1 := Rk.own_row flatB ob; have o2 := Rk.own_row flatE oe)
          | (go_at_call 8; refine (CS.out _ _ _ _ _ (by assumption) (by assumption) (HBEL.out _ (by assumption))).mono ?_; rintro e wk ⟨rfl, hb3⟩))
      go_wp2_with fail
      go_meet
      case rel => exact ⟨by rw [spare_list]; rfl, HBEL.out _ (by assumption)⟩
    case rest =>
      obtain ⟨rfl, hbx2⟩ := hcut
      obtain ⟨w6, rfl⟩ : ∃ w6 : World, w6 = wc := ⟨_, rfl⟩
      have HB6 := Lib.hid (BEL.out _ hbx2)
      have HVC : Hid (∀ k (hk : k < L.length), ∃ b off, pv = some ⟨b, off, none⟩ ∧ ∀ W, Below w4.heap.size w4 W → W.cell? ⟨b, off + k, none⟩ = some (.int .i64 L[k]) ∧ W.cell? ⟨g1, k, none⟩ = some (.int .i64 L[k])) := Lib.hid (fun k hk => by
        have hv := HV.out
        rw [HN.out] at hv
        obtain ⟨b, off, e, _, hc⟩ := Rx.row_cells hv k hk
        refine ⟨b, off, e, fun W hW => ⟨hc W hW, ?_⟩⟩
        have h1 := (own_cell HO2.out k L[k] (by rw [List.getElem?_append_left hk]; exact List.getElem?_eq_getElem hk)).1
        exact cell_below h1 hW)
      have HUC : Hid (∀ k (hk : k < M.length), ∃ b off, pu = some ⟨b, off, none⟩ ∧ ∀ W, Below w4.heap.size w4 W → W.cell? ⟨b, off + k, none⟩ = some (.string M[k]) ∧ W.cell? ⟨g2, k, none⟩ = some (.string M[k])) := Lib.hid (fun k hk => by
        have hu := HU.out
        rw [HM.out] at hu
        obtain ⟨b, off, e, _, hc⟩ := txt_cells hu k hk
        refine ⟨b, off, e, fun W hW => ⟨hc W hW, ?_⟩⟩
        have hlt : k < (M ++ [spare]).length := by simp; omega
        have h1 := (Rk.own_cell flatT HO4.out k hlt (i := 0) (u := .string M[k]) (by rw [List.getElem_append_left hk]; rfl)).1
        rw [Nat.mul_one, Nat.add_zero] at h1
        exact cell_below h1 hW)
      have HNM : Hid (n ≤ maxLen) := Lib.hid (by have := HNL.out; have := HN.out; unfold maxLen; omega)
      have HMM2 : Hid (m ≤ maxLen) := Lib.hid (by have := HML.out; have := HM.out; unfold maxLen; omega)
      clear C1 C2 CS BEL HYZ s0 s1 s2 y2 z2 hbx2 HV HU HO2 HO4 HBK HEN HBX HBE4 hnc hmc HMM hsp
      go_wp2_with fail
      go_loopw [10] (fun i wr => ∃ k : Nat, k ≤ n ∧ i = .int .i64 k ∧ ∃ nq, wr = w6.drewN nq) (fun i _ => n - (intOf i).toNat)
      case atStart => exact ⟨0, Nat.zero_le _, rfl, 0, rfl⟩
      case round =>
        obtain ⟨k, hk, rfl, nq, rfl⟩ := hrel
        have HD : Hid (Below w4.heap.size w4 (w6.drewN nq)) := Lib.hid (HB6.out.trans ((below_drewN w6 nq).mono HB6.out.size))
        have HNQ : Hid (∀ n, ∃ nq', (w6.drewN nq).drewN n = w6.drewN nq') := Lib.hid (fun n => ⟨nq + n, World.drewN_drewN ..⟩)
        by_cases hlt : k < n
        · obtain ⟨b, off, rfl, hc⟩ := HVC.out k (by rw [← HN.out]; exact hlt)
          obtain ⟨c0, c1⟩ := hc _ HD.out
          have hlt' : (k : Int) < (n : Int) := by omega
          have hlt2 : (k : Int) < (n1 : Int) := by omega
          generalize L[k]'(by rw [← HN.out]; exact hlt) = x at c0 c1
          have hx : (x != x) = false := by simp
          clear hc
          generalize w6.drewN nq = wo at *
          go_wp2_with fail
          go_quiet (fail)
          go_wp2_with fail
          go_roundw
          case rel => exact ⟨k + 1, by omega, congrArg _ (wrap_s HNM.out hlt), HNQ.out _⟩
          case measure =>
            rw [wrap_s HNM.out hlt]
            exact int_less hlt
        · obtain rfl : k = n := by omega
          clear hlt hk HVC HNQ HD
          go_wp2_with fail
          go_loopw [11] (fun i wr => ∃ k : Nat, k ≤ m ∧ i = .int .i64 k ∧ ∃ nq, wr = w6.drewN nq) (fun i _ => m - (intOf i).toNat)
          case atStart => exact ⟨0, Nat.zero_le _, rfl, nq, rfl⟩
          case round =>
            obtain ⟨j, hj, rfl, nq2, rfl⟩ := hrel
            have HD : Hid (Below w4.heap.size w4 (w6.drewN nq2)) := Lib.hid (HB6.out.trans ((below_drewN w6 nq2).mono HB6.out.size))
            have HNQ : Hid (∀ n, ∃ nq', (w6.drewN nq2).drewN n = w6.drewN nq') := Lib.hid (fun n => ⟨nq2 + n, World.drewN_drewN ..⟩)
            by_cases hlt : j < m
            · obtain ⟨b, off, rfl, hc⟩ := HUC.out j (by rw [← HM.out]; exact hlt)
              obtain ⟨c0, c1⟩ := hc _ HD.out
              have hlt' : (j : Int) < (m : Int) := by omega
              have hlt2 : (j : Int) < (m1 : Int) := by omega
              generalize M[j]'(by rw [← HM.out]; exact hlt) = x at c0 c1
              have hx : (x.toList == x.toList) = true := beq_self_eq_true _
              clear hc
              generalize w6.drewN nq2 = wo at *
              go_wp2_with fail
              go_quiet (fail)
              go_wp2_with fail
              go_roundw
              case rel => exact ⟨j + 1, by omega, congrArg _ (wrap_s HMM2.out hlt), HNQ.out _⟩
              case measure =>
                rw [wrap_s HMM2.out hlt]
                exact int_less hlt
            · obtain rfl : j = m := by omega
              have HA := Lib.hid (awake_yes (w6.drewN nq2))
              have HDW : Hid (Below w.heap.size w (w6.drewN nq2)) := Lib.hid (HBW.out.trans (HD.out.mono HBW.out.size))
              clear hlt hj HUC HNQ
              generalize w6.drewN nq2 = wo at *
              go_wp2_with fail
              refine HA.out.mono ?_
              clear HA
              rintro e w7 ⟨rfl, hb7⟩
              have HB7 := Lib.hid (HDW.out.trans (hb7.mono HDW.out.size))
              clear hb7
              go_wp2_with fail
              go_ret
              exact ⟨rfl, HB7.out⟩
end Ss
end Go.Proofs.Ytmkilmglmeohmaa
