/- The document's own Set, Union, Inter, Diff, All, Of over any rows. Conditions: those that each theorem names. -/
import Derived.Test.YtbfaoelgbfhjdaaIdF
namespace Go.Proofs.Ytbfaoelgbfhjdaa
set_option linter.unusedVariables false
open Go Go.RowKit Ids
/-- Where the numbers of a row lie, in every world that keeps it. -/
theorem row_cells {w : World} {p : Option Addr} {c : Nat} {L : List Int} (h : IntsAt w (.slice p L.length c) L) : ∀ k (hk : k < L.length), ∃ b off, p = some ⟨b, off, none⟩ ∧ ∀ wr, Below w.heap.size w wr → wr.cell? ⟨b, off + k, none⟩ = some (.int .i64 L[k]) := by
  intro k hk
  rcases h with ⟨h0, _⟩ | ⟨b, off, c2, e, hb, hc⟩
  · subst h0; simp at hk
  · injection e with e1
    exact ⟨b, off, e1, fun wr hw => hc wr (hw.block b hb) k hk⟩
set_option maxHeartbeats 1000000 in
theorem set_any (L : List Int) (v : Value) (w : World) (h : IntsAt w v L) (hl : L.length ≤ 17592186044416) :
    Calls Try.prog 31 #[v] w fun e w' => ∃ u, e = .returned u ∧ Own w' w.heap.size u (setL L) ∧ Below w.heap.size w w' := by
  obtain ⟨p, c, rfl⟩ := h.form
  have HC := Lib.hid (row_cells h)
  have HS := Lib.hid hl
  have HML : Hid (L.length ≤ maxLen) := Lib.hid (by unfold maxLen; omega)
  clear h hl
  go_enter Try.func31, Try.ntmps31
  go_wp2
  go_loopw [3, 4] (fun s i wr => ∃ k : Nat, k ≤ L.length ∧ i = .int .i64 k ∧ Own wr w.heap.size s (putAll (L.take k) []) ∧ Below w.heap.size w wr) (fun _ i _ => L.length - (intOf i).toNat)
  case atStart => exact ⟨0, Nat.zero_le _, rfl, own_nil _ _, Below.refl _ _⟩
  case round =>
    obtain ⟨k, hk, rfl, ho, hb⟩ := hrel
    have HB := Lib.hid hb
    have HO := Lib.hid ho
    clear ho hb
    obtain ⟨wo, rfl⟩ : ∃ wo : World, wo = wr := ⟨_, rfl⟩
    by_cases hlt : k < L.length
    · obtain ⟨b, off, rfl, hc⟩ := HC.out k hlt
      have hcell := hc wo HB.out
      have hlt' : (k : Int) < (L.length : Int) := by omega
      have hsn := putAll_snoc L [] k hlt
      generalize L[k] = x at hcell hsn
      have CP := Lib.hid (put_any (putAll (L.take k) []) _ x w.heap.size wo HO.out (by have h1 := (putAll_length (L.take k) []).2; have h2 := HS.out; rw [List.length_take] at h1; simp only [List.length_nil] at h1; omega) (ris_putAll _ _ ris_nil) HB.out.size)
      have HSN := Lib.hid hsn
      clear hc hsn
      go_wp2_with (go_at_call 35; refine CP.out.mono ?_; rintro e w2 ⟨u, rfl, ho2, hb2⟩)
      rw [← HSN.out] at ho2
      go_roundw
      case rel => exact ⟨k + 1, by omega, congrArg _ (wrap_s HML.out hlt), ho2, HB.out.trans hb2⟩
      case measure =>
        rw [wrap_s HML.out hlt]
        exact int_less hlt
    · obtain rfl : k = L.length := by omega
      have ho := HO.out
      rw [List.take_length] at ho
      have HOE := Lib.hid ho
      clear ho HO
      go_wp2_with fail
      go_ret
      exact ⟨_, rfl, HOE.out, HB.out⟩
set_option maxHeartbeats 1000000 in
theorem unionRef_any (a b : List Int) (u v : Value) (w : World) (hu : IntsAt w u a) (hv : IntsAt w v b) (hl : a.length + b.length ≤ 17592186044416) :
    Calls Try.prog 19 #[u, v] w fun e w' => ∃ x, e = .returned x ∧ Own w' w.heap.size x (uniL a b) ∧ Below w.heap.size w w' := by
  have C1 := Lib.hid (set_any a u w hu (by omega))
  obtain ⟨p, c, rfl⟩ := hv.form
  have HC := Lib.hid (row_cells hv)
  have HS := Lib.hid hl
  have HML : Hid (b.length ≤ maxLen) := Lib.hid (by unfold maxLen; omega)
  clear hu hv hl
  go_enter Try.func19, Try.ntmps19
  go_wp2_with (go_at_call 31; refine C1.out.mono ?_; rintro e w1 ⟨s0, rfl, ho0, hb0⟩; have HO0 := Lib.hid ho0; have HB0 := Lib.hid hb0; clear ho0 hb0)
  go_loopw [5, 6] (fun s i wr => ∃ k : Nat, k ≤ b.length ∧ i = .int .i64 k ∧ Own wr w.heap.size s (putAll (b.take k) (setL a)) ∧ Below w.heap.size w wr) (fun _ i _ => b.length - (intOf i).toNat)
  case atStart => exact ⟨0, Nat.zero_le _, rfl, HO0.out, HB0.out⟩
  case round =>
    obtain ⟨k, hk, rfl, ho, hb⟩ := hrel
    have HB := Lib.hid hb
    have HO := Lib.hid ho
    clear ho hb
    obtain ⟨wo, rfl⟩ : ∃ wo : World, wo = wr := ⟨_, rfl⟩
    by_cases hlt : k < b.length
    · obtain ⟨b1, off, rfl, hc⟩ := HC.out k hlt
      have hcell := hc wo HB.out
      have hlt' : (k : Int) < (b.length : Int) := by omega
      have hsn := putAll_snoc b (setL a) k hlt
      generalize b[k] = x at hcell hsn
      have CP := Lib.hid (put_any (putAll (b.take k) (setL a)) _ x w.heap.size wo HO.out (by have h1 := (putAll_length (b.take k) (setL a)).2; have h2 := HS.out; have h3 := setL_length a; rw [List.length_take] at h1; omega) (ris_putAll _ _ (ris_setL a)) HB.out.size)
      have HSN := Lib.hid hsn
      clear hc hsn
      go_wp2_with (go_at_call 35; refine CP.out.mono ?_; rintro e w2 ⟨u, rfl, ho2, hb2⟩)
      rw [← HSN.out] at ho2
      go_roundw
      case rel => exact ⟨k + 1, by omega, congrArg _ (wrap_s HML.out hlt), ho2, HB.out.trans hb2⟩
      case measure =>
        rw [wrap_s HML.out hlt]
        exact int_less hlt
    · obtain rfl : k = b.length := by omega
      have ho := HO.out
      rw [List.take_length] at ho
      have HOE := Lib.hid ho
      clear ho HO
      go_wp2_with fail
      go_ret
      exact ⟨_, rfl, HOE.out, HB.out⟩
/-- One number behind an own row. -/
theorem append_one {w : World} {base : Nat} {v : Value} {A : List Int} (x : Int) (h : Own w base v A) (hb : (A.length + 1) * 8 ≤ 140737488355328) (hbase : base ≤ w.heap.size) :
    ∃ v' w', (∀ ty, (Builtin.append_ #[22, 22] ty #[v, .slice (some ⟨w.heap.size, 0, none⟩) 1 1]).run Try.prog (w.alloc (.cells #[.int .i64 x] 3)) = .ok v' w') ∧ Own w' base v' (A ++ [x]) ∧ Below base w w' := by
  obtain ⟨v', w', hr, ho, hg⟩ := append_ints (own_below h (below_new w (.cells #[.int .i64 x] 3))) (one_int w x) (by simpa using hb) (by simp; omega)
  exact ⟨v', w', hr, ho, ((Below.refl base w).alloc hbase _).grown hg (by simp; omega) (fun j hj => (h.block j hj).1)⟩
theorem filter_snoc {p : Int → Bool} {S : List Int} {k : Nat} {x : Int} (h : S[k]? = some x) : (S.take (k + 1)).filter p = (S.take k).filter p ++ (if p x then [x] else []) := by
  rw [take_snoc h, List.filter_append]; simp only [List.filter_cons, List.filter_nil]
set_option maxHeartbeats 1000000 in
theorem interRef_any (a b : List Int) (u v : Value) (w : World) (hu : IntsAt w u a) (hv : IntsAt w v b) (hl : a.length ≤ 17592186044416) (hl2 : b.length ≤ 17592186044416) :
    Calls Try.prog 21 #[u, v] w fun e w' => ∃ x, e = .returned x ∧ Own w' w.heap.size x (interL a b) ∧ Below w.heap.size w w' := by
  have C1 := Lib.hid (set_any a u w hu hl)
  have C2 := Lib.hid fun wx (hq : Below w.heap.size w wx) => set_any b v wx (hv.below hq) hl2
  have HS1 := Lib.hid (show (setL a).length ≤ 17592186044416 by have := setL_length a; omega)
  have HS2 := Lib.hid (show (setL b).length ≤ 17592186044416 by have := setL_length b; omega)
  have HML : Hid ((setL a).length ≤ maxLen) := Lib.hid (by have := HS1.out; unfold maxLen; omega)
  clear hu hv hl hl2
  go_enter Try.func21, Try.ntmps21
  go_wp2_with (first
    | (go_at_call 31; refine C1.out.mono ?_; clear C1; rintro e w1 ⟨s0, rfl, ho0, hb0⟩; obtain ⟨p0, c0, hs0⟩ := ho0.at.form; subst hs0; have HO0 := Lib.hid ho0; have HB0 := Lib.hid hb0; clear ho0 hb0)
    | (go_at_call 31; refine (C2.out _ HB0.out).mono ?_; clear C2; rintro e w2 ⟨s1, rfl, ho1, hb1⟩; obtain ⟨p1, c1, hs1⟩ := ho1.at.form; subst hs1; have HO1 := Lib.hid ho1; have HB1 := Lib.hid hb1; clear ho1 hb1))
  have HB2 : Hid (Below w.heap.size w w2) := Lib.hid (HB0.out.trans (HB1.out.mono HB0.out.size))
  have HI0 : Hid (IntsAt w2 (.slice p0 (setL a).length c0) (setL a)) := Lib.hid (HO0.out.at.below HB1.out)
  have HI1 : Hid (IntsAt w2 (.slice p1 (setL b).length c1) (setL b)) := Lib.hid HO1.out.at
  have HC := Lib.hid (row_cells HI0.out)
  clear HO0 HO1 HB0 HB1
  go_loopw [5, 6] (fun s i wr => ∃ k : Nat, k ≤ (setL a).length ∧ i = .int .i64 k ∧ Own wr w2.heap.size s (((setL a).take k).filter (fun n => decide (n ∈ setL b))) ∧ Below w2.heap.size w2 wr) (fun _ i _ => (setL a).length - (intOf i).toNat)
  case atStart => exact ⟨0, Nat.zero_le _, rfl, own_nil _ _, Below.refl _ _⟩
  case round =>
    obtain ⟨k, hk, rfl, ho, hb⟩ := hrel
    have HB := Lib.hid hb
    have HO := Lib.hid ho
    clear ho hb
    obtain ⟨wo, rfl⟩ : ∃ wo : World, wo = wr := ⟨_, rfl⟩
    by_cases hlt : k < (setL a).length
    · obtain ⟨b1, off, rfl, hc⟩ := HC.out k hlt
      have hcell := hc wo HB.out
      have hlt' : (k : Int) < ((setL a).length : Int) := by omega
      have hx : (setL a)[k]? = some (setL a)[k] := List.getElem?_eq_getElem hlt
      generalize (setL a)[k] = x at hcell hx
      have HF := Lib.hid (filter_snoc (p := (fun n => decide (n ∈ setL b))) hx)
      have CI := Lib.hid (in_any (setL b) _ x wo (HI1.out.below HB.out) HS2.out (ris_setL b))
      have hin : (fun n => decide (n ∈ setL b)) x = hasB (setL b) x := by simp [hasB]
      obtain ⟨v3, w3, hr3, ho3, hb3⟩ := append_one x HO.out (by have h1 := List.length_filter_le (fun n => decide (n ∈ setL b)) ((setL a).take k); have h2 := HS1.out; rw [List.length_take] at h1; omega) HB.out.size
      have HO3 := Lib.hid ho3
      have HB3 := Lib.hid (HB.out.trans hb3)
      have HR3 := Lib.hid hr3
      clear hc hx ho3 hb3 hr3
      cases hbx : hasB (setL b) x with
      | true =>
        rw [hbx] at CI hin
        have HFX : Hid (((setL a).take (k + 1)).filter (fun n => decide (n ∈ setL b)) = ((setL a).take k).filter (fun n => decide (n ∈ setL b)) ++ [x]) := Lib.hid (by rw [HF.out, if_pos (by simpa using hin)])
        clear HF hin hbx
        have hr := HR3.out
        go_wp2_with (first
          | (go_at_call 36; refine CI.out.mono ?_; rintro e w4 ⟨rfl, rfl⟩)
          | (at_builtin; refine wpList_append_run rfl _ _ _ _ rfl _ _ _ _ rfl rfl hr ?_))
        go_roundw
        case rel => exact ⟨k + 1, by omega, congrArg _ (wrap_s HML.out hlt), by rw [HFX.out]; exact HO3.out, HB3.out⟩
        case measure =>
          rw [wrap_s HML.out hlt]
          exact int_less hlt
      | false =>
        rw [hbx] at CI hin
        have HFX : Hid (((setL a).take (k + 1)).filter (fun n => decide (n ∈ setL b)) = ((setL a).take k).filter (fun n => decide (n ∈ setL b))) := Lib.hid (by rw [HF.out, if_neg (by simpa using hin), List.append_nil])
        clear HF hin hbx HR3 HO3 HB3
        go_wp2_with (go_at_call 36; refine CI.out.mono ?_; rintro e w4 ⟨rfl, rfl⟩)
        go_roundw
        case rel => exact ⟨k + 1, by omega, congrArg _ (wrap_s HML.out hlt), by rw [HFX.out]; exact HO.out, HB.out⟩
        case measure =>
          rw [wrap_s HML.out hlt]
          exact int_less hlt
    · obtain rfl : k = (setL a).length := by omega
      have ho := HO.out
      rw [List.take_length] at ho
      have HOE : Hid (Own wo w2.heap.size _ (interL a b)) := Lib.hid ho
      clear ho HO
      go_wp2_with fail
      go_ret
      exact ⟨_, rfl, own_base HOE.out HB2.out.size, HB2.out.trans (HB.out.mono HB2.out.size)⟩
set_option maxHeartbeats 1000000 in
theorem diffRef_any (a b : List Int) (u v : Value) (w : World) (hu : IntsAt w u a) (hv : IntsAt w v b) (hl : a.length ≤ 17592186044416) (hl2 : b.length ≤ 17592186044416) :
    Calls Try.prog 23 #[u, v] w fun e w' => ∃ x, e = .returned x ∧ Own w' w.heap.size x (diffL a b) ∧ Below w.heap.size w w' := by
  have C1 := Lib.hid (set_any a u w hu hl)
  have C2 := Lib.hid fun wx (hq : Below w.heap.size w wx) => set_any b v wx (hv.below hq) hl2
  have HS1 := Lib.hid (show (setL a).length ≤ 17592186044416 by have := setL_length a; omega)
  have HS2 := Lib.hid (show (setL b).length ≤ 17592186044416 by have := setL_length b; omega)
  have HML : Hid ((setL a).length ≤ maxLen) := Lib.hid (by have := HS1.out; unfold maxLen; omega)
  clear hu hv hl hl2
  go_enter Try.func23, Try.ntmps23
  go_wp2_with (first
    | (go_at_call 31; refine C1.out.mono ?_; clear C1; rintro e w1 ⟨s0, rfl, ho0, hb0⟩; obtain ⟨p0, c0, hs0⟩ := ho0.at.form; subst hs0; have HO0 := Lib.hid ho0; have HB0 := Lib.hid hb0; clear ho0 hb0)
    | (go_at_call 31; refine (C2.out _ HB0.out).mono ?_; clear C2; rintro e w2 ⟨s1, rfl, ho1, hb1⟩; obtain ⟨p1, c1, hs1⟩ := ho1.at.form; subst hs1; have HO1 := Lib.hid ho1; have HB1 := Lib.hid hb1; clear ho1 hb1))
  have HB2 : Hid (Below w.heap.size w w2) := Lib.hid (HB0.out.trans (HB1.out.mono HB0.out.size))
  have HI0 : Hid (IntsAt w2 (.slice p0 (setL a).length c0) (setL a)) := Lib.hid (HO0.out.at.below HB1.out)
  have HI1 : Hid (IntsAt w2 (.slice p1 (setL b).length c1) (setL b)) := Lib.hid HO1.out.at
  have HC := Lib.hid (row_cells HI0.out)
  clear HO0 HO1 HB0 HB1
  go_loopw [5, 6] (fun s i wr => ∃ k : Nat, k ≤ (setL a).length ∧ i = .int .i64 k ∧ Own wr w2.heap.size s (((setL a).take k).filter (fun n => !decide (n ∈ setL b))) ∧ Below w2.heap.size w2 wr) (fun _ i _ => (setL a).length - (intOf i).toNat)
  case atStart => exact ⟨0, Nat.zero_le _, rfl, own_nil _ _, Below.refl _ _⟩
  case round =>
    obtain ⟨k, hk, rfl, ho, hb⟩ := hrel
    have HB := Lib.hid hb
    have HO := Lib.hid ho
    clear ho hb
    obtain ⟨wo, rfl⟩ : ∃ wo : World, wo = wr := ⟨_, rfl⟩
    by_cases hlt : k < (setL a).length
    · obtain ⟨b1, off, rfl, hc⟩ := HC.out k hlt
      have hcell := hc wo HB.out
      have hlt' : (k : Int) < ((setL a).length : Int) := by omega
      have hx : (setL a)[k]? = some (setL a)[k] := List.getElem?_eq_getElem hlt
      generalize (setL a)[k] = x at hcell hx
      have HF := Lib.hid (filter_snoc (p := (fun n => !decide (n ∈ setL b))) hx)
      have CI := Lib.hid (in_any (setL b) _ x wo (HI1.out.below HB.out) HS2.out (ris_setL b))
      have hin : (fun n => !decide (n ∈ setL b)) x = !hasB (setL b) x := by simp [hasB]
      obtain ⟨v3, w3, hr3, ho3, hb3⟩ := append_one x HO.out (by have h1 := List.length_filter_le (fun n => !decide (n ∈ setL b)) ((setL a).take k); have h2 := HS1.out; rw [List.length_take] at h1; omega) HB.out.size
      have HO3 := Lib.hid ho3
      have HB3 := Lib.hid (HB.out.trans hb3)
      have HR3 := Lib.hid hr3
      clear hc hx ho3 hb3 hr3
      cases hbx : hasB (setL b) x with
      | false =>
        rw [hbx] at CI hin
        have HFX : Hid (((setL a).take (k + 1)).filter (fun n => !decide (n ∈ setL b)) = ((setL a).take k).filter (fun n => !decide (n ∈ setL b)) ++ [x]) := Lib.hid (by rw [HF.out, if_pos (by simpa using hin)])
        clear HF hin hbx
        have hr := HR3.out
        go_wp2_with (first
          | (go_at_call 36; refine CI.out.mono ?_; rintro e w4 ⟨rfl, rfl⟩)
          | (at_builtin; refine wpList_append_run rfl _ _ _ _ rfl _ _ _ _ rfl rfl hr ?_))
        go_roundw
        case rel => exact ⟨k + 1, by omega, congrArg _ (wrap_s HML.out hlt), by rw [HFX.out]; exact HO3.out, HB3.out⟩
        case measure =>
          rw [wrap_s HML.out hlt]
          exact int_less hlt
      | true =>
        rw [hbx] at CI hin
        have HFX : Hid (((setL a).take (k + 1)).filter (fun n => !decide (n ∈ setL b)) = ((setL a).take k).filter (fun n => !decide (n ∈ setL b))) := Lib.hid (by rw [HF.out, if_neg (by simpa using hin), List.append_nil])
        clear HF hin hbx HR3 HO3 HB3
        go_wp2_with (go_at_call 36; refine CI.out.mono ?_; rintro e w4 ⟨rfl, rfl⟩)
        go_roundw
        case rel => exact ⟨k + 1, by omega, congrArg _ (wrap_s HML.out hlt), by rw [HFX.out]; exact HO.out, HB.out⟩
        case measure =>
          rw [wrap_s HML.out hlt]
          exact int_less hlt
    · obtain rfl : k = (setL a).length := by omega
      have ho := HO.out
      rw [List.take_length] at ho
      have HOE : Hid (Own wo w2.heap.size _ (diffL a b)) := Lib.hid ho
      clear ho HO
      go_wp2_with fail
      go_ret
      exact ⟨_, rfl, own_base HOE.out HB2.out.size, HB2.out.trans (HB.out.mono HB2.out.size)⟩
end Go.Proofs.Ytbfaoelgbfhjdaa
