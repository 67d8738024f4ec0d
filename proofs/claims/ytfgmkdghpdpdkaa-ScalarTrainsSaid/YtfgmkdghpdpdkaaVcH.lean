/- The document's own Score; rows of whole numbers of one's own: what twin and fit of the laws of chapter 6 make. Conditions: those that each theorem names. -/
import Derived.Test.YtfgmkdghpdpdkaaVcG
import Derived.Test.YtfgmkdghpdpdkaaRun
import Derived.OwnWalk
import Derived.Maps.AppendAt
namespace Go.Proofs.Ytfgmkdghpdpdkaa
set_option linter.unusedVariables false
open Go Go.RowKit Vc
set_option maxHeartbeats 1000000 in
theorem scoreRef_no (a b : List Int) (u v : Value) (m : Int) (w : World) (hu : IntsAt w u a) (hv : IntsAt w v b) (ha : a.length ≤ maxLen) (hb : b.length ≤ maxLen) (h : ¬ scoreOk a b m) :
    Calls Try.prog 19 #[.int .i64 m, u, v] w fun e w' => e = .returned (.tuple #[.int .i64 0, .int .i64 60]) ∧ Below w.heap.size w w' := by
  have C1 := Lib.hid (checkRef_any a u a.length m w hu ha)
  have C2 := Lib.hid (checkRef_any b v a.length m w hv hb)
  have k1 := chk_or a a.length m
  have k2 := chk_or b a.length m
  unfold scoreOk at h
  obtain ⟨p1, c1, rfl⟩ := hu.form
  obtain ⟨p2, c2, rfl⟩ := hv.form
  clear hu hv ha hb
  generalize chk a a.length m = x at *
  generalize chk b a.length m = y at *
  generalize a.length = n at *
  rcases k1 with rfl | rfl
  · rcases k2 with rfl | rfl
    · exact absurd ⟨rfl, rfl⟩ h
    · go_enter Try.func19, Try.ntmps19
      go_wp2_with (first
        | (go_at_call 33; (with_reducible refine C1.out.mono ?_); rintro e w' ⟨rfl, rfl⟩)
        | (go_at_call 33; (with_reducible refine C2.out.mono ?_); rintro e w' ⟨rfl, rfl⟩))
      go_ret2
      exact ⟨rfl, Below.refl _ _⟩
  · go_enter Try.func19, Try.ntmps19
    go_wp2_with (first
      | (go_at_call 33; (with_reducible refine C1.out.mono ?_); rintro e w' ⟨rfl, rfl⟩))
    go_ret2
    exact ⟨rfl, Below.refl _ _⟩
set_option maxHeartbeats 2000000 in
theorem scoreRef_yes (a b : List Int) (u v : Value) (m : Int) (w : World) (hu : IntsAt w u a) (hv : IntsAt w v b) (h : scoreOk a b m) :
    Calls Try.prog 19 #[.int .i64 m, u, v] w fun e w' => e = .returned (.tuple #[.int .i64 (scoreV a b m), .int .i64 0]) ∧ Below w.heap.size w w' := by
  have hal := score_alike h
  obtain ⟨hl, hva, hvb⟩ := alike_is hal
  have hm : m = 1 ∨ m = 2 ∨ m = 3 := by simpa [metB] using (chk_zero h.1).2.2
  obtain ⟨h1, h2⟩ := h
  have C1 := Lib.hid (checkRef_any a u a.length m w hu (vec_len hva))
  have C2 := Lib.hid (checkRef_any b v a.length m w hv (vec_len hvb))
  rw [h1] at C1
  rw [h2] at C2
  have L1 := Lib.hid (l2Ref_yes a b u v w hu hv hal)
  have L2 := Lib.hid (dotRef_yes a b u v w hu hv hal)
  have L3 := Lib.hid (cosRef_any a b u v w hu hv (vec_len hva) (vec_len hvb))
  simp only [hal, if_true] at L3
  unfold scoreV
  obtain ⟨p1, c1, rfl⟩ := hu.form
  obtain ⟨p2, c2, rfl⟩ := hv.form
  clear hu hv h1 h2 hva hvb hal hl
  generalize sq a b = r at *
  generalize dot a b = d at *
  generalize cosN a b = q at *
  generalize a.length = n at *
  generalize b.length = n2 at *
  rcases hm with rfl | rfl | rfl
  · go_enter Try.func19, Try.ntmps19
    go_wp2_with (first
      | (go_at_call 33; (with_reducible refine C1.out.mono ?_); rintro e w' ⟨rfl, rfl⟩)
      | (go_at_call 33; (with_reducible refine C2.out.mono ?_); rintro e w' ⟨rfl, rfl⟩)
      | (go_at_call 34; refine L1.out.mono ?_; rintro e w' ⟨rfl, hb⟩))
    go_ret2
    exact ⟨rfl, hb⟩
  · go_enter Try.func19, Try.ntmps19
    go_wp2_with (first
      | (go_at_call 33; (with_reducible refine C1.out.mono ?_); rintro e w' ⟨rfl, rfl⟩)
      | (go_at_call 33; (with_reducible refine C2.out.mono ?_); rintro e w' ⟨rfl, rfl⟩)
      | (go_at_call 35; refine L2.out.mono ?_; rintro e w' ⟨rfl, hb⟩))
    go_ret2
    exact ⟨rfl, hb⟩
  · go_enter Try.func19, Try.ntmps19
    go_wp2_with (first
      | (go_at_call 33; (with_reducible refine C1.out.mono ?_); rintro e w' ⟨rfl, rfl⟩)
      | (go_at_call 33; (with_reducible refine C2.out.mono ?_); rintro e w' ⟨rfl, rfl⟩)
      | (go_at_call 36; refine L3.out.mono ?_; rintro e w' ⟨rfl, hb⟩))
    go_ret2
    exact ⟨rfl, hb⟩
/-! ### rows of one's own -/
def ints (L : List Int) : List Value := L.map fun n => .int .i64 n
theorem ints_length (L : List Int) : (ints L).length = L.length := by simp [ints]
theorem infoI : (Try.prog.info? 3).map (fun i => (i.zero, i.size, i.bytes)) = some (some (.int .i64 0), 1, 8) := by kernel_rfl
abbrev Own (w : World) (base : Nat) (v : Value) (L : List Int) : Prop := w.ownsRow base 3 1 v L.length (ints L)
theorem Own.at {w : World} {base : Nat} {v : Value} {L : List Int} (h : Own w base v L) : IntsAt w v L := by
  rcases h.2 with ⟨rfl, h0⟩ | ⟨g, cap, cur, rfl, hb, hg, h1, h2, h3, h4⟩
  · exact .inl ⟨List.length_eq_zero_iff.mp h0, none, 0, rfl⟩
  · refine .inr ⟨g, 0, cap, rfl, ?_, fun W hW j hj => ?_⟩
    · rcases Nat.lt_or_ge g w.heap.size with c | c
      · exact c
      · rw [Array.getElem?_eq_none c] at hg; cases hg
    · rw [cell_of_row _ _ _ _ _ _ (hW.trans hg), Nat.zero_add]
      have hj1 : j < L.length * 1 := by omega
      have e : (cur.toList.take (L.length * 1))[j]? = (ints L)[j]? := by rw [h4]
      rw [List.getElem?_take, if_pos hj1] at e
      rw [Array.getElem?_toList] at e
      rw [e]
      simp [ints, hj]
theorem Own.block {w : World} {base : Nat} {v : Value} {L : List Int} (h : Own w base v L) (g : Nat) (hg : v.ownBlock = some g) : base ≤ g ∧ g < w.heap.size := by
  rcases h.2 with ⟨rfl, h0⟩ | ⟨k, cap, cur, rfl, hb, hk, _⟩
  · cases hg
  · simp [Value.ownBlock] at hg
    subst hg
    refine ⟨hb, ?_⟩
    rcases Nat.lt_or_ge k w.heap.size with c | c
    · exact c
    · rw [Array.getElem?_eq_none c] at hk; cases hk
/-- A row behind an own one. -/
theorem append_ints {w : World} {base : Nat} {v src : Value} {A B : List Int} (hown : Own w base v A) (hs : IntsAt w src B) (hb : (A.length + B.length) * 8 ≤ 140737488355328) (hbase : base ≤ w.heap.size) :
    ∃ v' w', (∀ ty, (Builtin.append_ #[23, 23] ty #[v, src]).run Try.prog w = .ok v' w') ∧ Own w' base v' (A ++ B) ∧ w.grownBy w' v.ownBlock := by
  obtain ⟨i0, hi, hz0, hz1, hz2⟩ := info_parts infoI
  have hfrom : ∀ (ad : Addr) (c : Nat), (∀ j u, (ints B)[j]? = some u → w.cell? (ad.add j) = some u) → ∃ v' w', (∀ ty, (Builtin.append_ #[23, 23] ty #[v, .slice (some ad) B.length c]).run Try.prog w = .ok v' w') ∧ Own w' base v' (A ++ B) ∧ w.grownBy w' v.ownBlock := by
    intro ad c hc
    obtain ⟨v', w', hr, h2, h3, _⟩ := run_append_own_at (P := Try.prog) w base 23 23 3 i0 _ 1 8 Try.underlying23 hi hz0 hz1 hz2 rfl (by decide) v A.length (ints A) hown ad B.length c (ints B) (by rw [ints_length]; omega) hc
      (fun u hu => by
        simp only [ints, List.mem_map] at hu
        obtain ⟨n, _, rfl⟩ := hu
        rfl) (by unfold maxLen; omega) (by omega) hbase
    have e : ints (A ++ B) = ints A ++ ints B := by simp [ints]
    exact ⟨v', w', fun _ => hr, by unfold Own; rw [e, List.length_append]; exact h2, h3⟩
  rcases hs with ⟨rfl, q, c, rfl⟩ | ⟨g, off, c, rfl, hg, hc⟩
  · cases q with
    | none =>
      refine ⟨v, w, fun ty => ?_, by simpa using hown, ⟨rfl, rfl, rfl, Nat.le_refl _, fun _ _ _ => rfl⟩⟩
      have ht := Try.underlying23
      rcases hown.2 with ⟨rfl, h0⟩ | ⟨g, cap, cur, rfl, _, hg, h1, _⟩
      · simp [Builtin.append_, run_underlying ht, sizeOf, typeInfo, hi, Builtin.lenOf, Builtin.firstCells]
      · simp [Builtin.append_, run_underlying ht, sizeOf, typeInfo, hi, Builtin.lenOf, Builtin.firstCells, storeCells, h1]
    | some ad => exact hfrom ad c (fun j u hj => by simp [ints] at hj)
  · refine hfrom ⟨g, off, none⟩ c (fun j u hj => ?_)
    have hjl : j < B.length := by
      rcases Nat.lt_or_ge j B.length with c | c
      · exact c
      · rw [List.getElem?_eq_none (by rw [ints_length]; exact c)] at hj; cases hj
    have h1 := hc w rfl j hjl
    have ha : (⟨g, off, none⟩ : Addr).add j = ⟨g, off + j, none⟩ := by unfold Addr.add; split <;> simp_all
    rw [ha, h1]
    simp [ints, hjl] at hj
    rw [hj]
end Go.Proofs.Ytfgmkdghpdpdkaa
