/- Whether a row of conditions holds one that a point passes, or does not pass: as the library's ContainsFunc asks it. Conditions: those that each theorem names. -/
import Derived.Test.YtclmalaomofahaaGreatDoorFtG
namespace Go.Proofs.YtclmalaomofahaaGreatDoor
set_option linter.unusedVariables false
namespace Ft
open Go Go.RowKit Go.Shelf Pq Pq.Pl Rk Px
theorem ge_zero (k : Nat) : decide ((0 : Int) ≤ (k : Int)) = true := by simp
set_option maxHeartbeats 1000000 in
set_option maxRecDepth 100000 in
theorem clo_and (c : Cd) (ih : PassOk 8 c) (F : List Fld) (r : Rc) (p : Rp) (B : Nat) (w : World) (h : CdW (fun _ => True) w c r) (hbig : Big c) (hf : FldsAt w (.slice p.f.p p.f.n p.f.c) F) (hok : FldsOk F) (hB : w.heap[B]? = some (pbox p)) :
    Calls Tryz.prog 39 #[cv r, .pointer (some ⟨B, 0, none⟩)] w fun e w' => e = .returned (.bool (!pass F c)) ∧ Below w.heap.size w w' := by
  have HB := Lib.hid (Rk.fresh_alloc w (cobj r))
  have HC := Lib.hid (ih F r p (w.alloc (cobj r)) (h.below HB.out) hbig (hf.below HB.out) hok)
  obtain ⟨b0, b1, b2⟩ := cells3 ((Rk.heap_old w (cobj r) (Rk.lt_of_block hB)).trans hB)
  clear h ih hbig hf hok hB
  obtain ⟨k0, k1, ⟨k2, k3, k4⟩, k5, k6, ⟨k7, k8, k9⟩⟩ := r
  obtain ⟨pid, ⟨vp, vn, vc⟩, ⟨fp, fn, fc⟩⟩ := p
  simp only at b0 b1 b2
  generalize pass F c = b at *
  go_enter Tryz.func39, Tryz.ntmps39
  go_wp2_with fail
  refine HC.out.mono ?_
  clear HC
  rintro e w5 ⟨rfl, hb5⟩
  have HB5 := Lib.hid (HB.out.trans (hb5.mono HB.out.size))
  clear hb5
  go_wp2_with fail
  go_ret
  exact ⟨rfl, HB5.out⟩
theorem ent_and : ∀ args w, (callFunc 39 args).run Tryz.prog w = .ok (.enter 39 args) w := enters_of Tryz.func39 (by kernel_rfl) rfl
set_option maxHeartbeats 2000000 in
set_option maxRecDepth 100000 in
theorem index_and (c : Cd) (ih : ∀ x ∈ c.list, PassOk 8 x) (F : List Fld) (r : Rc) (p : Rp) (B : Nat) (w : World) (h : CdW (fun _ => True) w c r) (hbig : Big c) (hf : FldsAt w (.slice p.f.p p.f.n p.f.c) F) (hok : FldsOk F) (hB : w.heap[B]? = some (pbox p)) :
    Calls Tryz.prog 53 #[.slice r.l.p r.l.n r.l.c, .func (.func 39) #[] #[.pointer (some ⟨B, 0, none⟩)]] w fun e w' => ∃ z : Int, e = .returned (.int .i64 z) ∧ decide (0 ≤ z) = (!passAll F c.list) ∧ Below w.heap.size w w' := by
  have hg := ent_and
  have HL := Lib.hid h.len
  have HK := Lib.hid h.kid
  have HBG := Lib.hid hbig.parts
  have HX := Lib.hid (fun W (hW : Below w.heap.size w W) (x : Cd) (hx : x ∈ c.list) r' (h' : CdW (fun _ => True) w x r') => clo_and x (ih x hx) F r' p B W (h'.below hW) (hbig.parts.2.2.2 x hx) (hf.below hW) hok ((hW.block B (Rk.lt_of_block hB)).trans hB))
  have hln := HL.out
  clear h ih hbig hf hok hB
  obtain ⟨rk, rn, rv, rlo, rhi, ⟨rp, rl, rcap⟩⟩ := r
  simp only at hln
  subst hln
  go_enter Tryz.func53, Tryz.ntmps53
  go_wp2
  go_loopw [5, 8] (fun ii i wr => ∃ q : Nat, q ≤ c.list.length ∧ i = .int .i64 q ∧ Hid (∀ i (h : i < c.list.length), i < q → pass F c.list[i] = true) ∧ Below w.heap.size w wr) (fun _ i _ => c.list.length - (intOf i).toNat)
  case atStart => exact ⟨0, Nat.zero_le _, rfl, Lib.hid (fun i _ h => absurd h (by omega)), Below.refl _ _⟩
  case round =>
    obtain ⟨q, hq, rfl, HS, hb⟩ := hrel
    have HBW := Lib.hid hb
    clear hb
    obtain ⟨wo, rfl⟩ : ∃ wo : World, wo = wr := ⟨_, rfl⟩
    by_cases hlt : q < c.list.length
    · obtain ⟨g, off, cp, er, hgl, r', hw', hc⟩ := HK.out q hlt
      simp only [Sl.mk.injEq] at er
      obtain ⟨rfl, _, rfl⟩ := er
      obtain ⟨x0, x1, x2, x3, x4, x5, x6, x7⟩ := hc wo (HBW.out.block g hgl)
      have HC := Lib.hid (HX.out wo HBW.out _ (List.getElem_mem hlt) r' hw')
      have hqn : (q : Int) < (c.list.length : Int) := by omega
      have HLT := Lib.hid hlt
      obtain ⟨b, hbb⟩ : ∃ b, b = pass F c.list[q] := ⟨_, rfl⟩
      change Hid (Calls _ _ _ _ fun e w' => e = Ending.returned (Value.bool (!pass F c.list[q])) ∧ _) at HC
      rw [← hbb] at HC
      have HBB := Lib.hid hbb
      obtain ⟨k0, k1, ⟨k2, k3, k4⟩, k5, k6, ⟨k7, k8, k9⟩⟩ := r'
      simp only at x0 x1 x2 x3 x4 x5 x6 x7
      clear hbb hc hw' hgl
      cases hbv : b
      · rw [hbv] at HC HBB
        have HE := Lib.hid (all_no HLT.out HBB.out.symm)
        go_wp2_with fail
        refine HC.out.mono ?_
        clear HC
        rintro e w5 ⟨rfl, hb5⟩
        have HB5 := Lib.hid (HBW.out.trans (hb5.mono HBW.out.size))
        clear hb5
        go_wp2_with fail
        go_ret
        exact ⟨_, rfl, by rw [HE.out]; exact ge_zero q, HB5.out⟩
      · rw [hbv] at HC HBB
        have HSN : Hid (∀ i (h : i < c.list.length), i < q + 1 → pass F c.list[i] = true) := Lib.hid (fun i h hi => by
          rcases Nat.lt_or_ge i q with c' | c'
          · exact HS.out i h c'
          · obtain rfl : i = q := by omega
            exact HBB.out.symm)
        go_wp2_with fail
        refine HC.out.mono ?_
        clear HC
        rintro e w5 ⟨rfl, hb5⟩
        have HB5 := Lib.hid (HBW.out.trans (hb5.mono HBW.out.size))
        clear hb5
        go_wp2_with fail
        go_roundw
        case rel => exact ⟨q + 1, HLT.out, congrArg _ (wrap_q HBG.out.2.2.1 HLT.out), HSN, HB5.out⟩
        case measure =>
          rw [wrap_q HBG.out.2.2.1 HLT.out]
          exact less_q HLT.out
    · obtain rfl : q = c.list.length := by omega
      have HE := Lib.hid (all_yes (F := F) (l := c.list) fun i h => HS.out i h h)
      go_wp2_with fail
      go_ret
      exact ⟨_, rfl, by rw [HE.out]; rfl, HBW.out⟩
set_option maxHeartbeats 1000000 in
set_option maxRecDepth 100000 in
theorem contains_and (c : Cd) (ih : ∀ x ∈ c.list, PassOk 8 x) (F : List Fld) (r : Rc) (p : Rp) (B : Nat) (w : World) (h : CdW (fun _ => True) w c r) (hbig : Big c) (hf : FldsAt w (.slice p.f.p p.f.n p.f.c) F) (hok : FldsOk F) (hB : w.heap[B]? = some (pbox p)) :
    Calls Tryz.prog 38 #[.slice r.l.p r.l.n r.l.c, .func (.func 39) #[] #[.pointer (some ⟨B, 0, none⟩)]] w fun e w' => e = .returned (.bool (!passAll F c.list)) ∧ Below w.heap.size w w' := by
  have HC := Lib.hid (index_and c ih F r p B w h hbig hf hok hB)
  clear h ih hbig hf hok hB
  go_enter Tryz.func38, Tryz.ntmps38
  go_wp2_with fail
  refine HC.out.mono ?_
  clear HC
  rintro e w5 ⟨z, rfl, hz, hb5⟩
  have HZ := Lib.hid hz
  have HB5 := Lib.hid hb5
  clear hz hb5
  go_wp2_with fail
  go_ret
  exact ⟨retb HZ.out.symm, HB5.out⟩
set_option maxHeartbeats 1000000 in
set_option maxRecDepth 100000 in
theorem clo_or (c : Cd) (ih : PassOk 8 c) (F : List Fld) (r : Rc) (p : Rp) (B : Nat) (w : World) (h : CdW (fun _ => True) w c r) (hbig : Big c) (hf : FldsAt w (.slice p.f.p p.f.n p.f.c) F) (hok : FldsOk F) (hB : w.heap[B]? = some (pbox p)) :
    Calls Tryz.prog 41 #[cv r, .pointer (some ⟨B, 0, none⟩)] w fun e w' => e = .returned (.bool (pass F c)) ∧ Below w.heap.size w w' := by
  have HB := Lib.hid (Rk.fresh_alloc w (cobj r))
  have HC := Lib.hid (ih F r p (w.alloc (cobj r)) (h.below HB.out) hbig (hf.below HB.out) hok)
  obtain ⟨b0, b1, b2⟩ := cells3 ((Rk.heap_old w (cobj r) (Rk.lt_of_block hB)).trans hB)
  clear h ih hbig hf hok hB
  obtain ⟨k0, k1, ⟨k2, k3, k4⟩, k5, k6, ⟨k7, k8, k9⟩⟩ := r
  obtain ⟨pid, ⟨vp, vn, vc⟩, ⟨fp, fn, fc⟩⟩ := p
  simp only at b0 b1 b2
  generalize pass F c = b at *
  go_enter Tryz.func41, Tryz.ntmps41
  go_wp2_with fail
  refine HC.out.mono ?_
  clear HC
  rintro e w5 ⟨rfl, hb5⟩
  have HB5 := Lib.hid (HB.out.trans (hb5.mono HB.out.size))
  clear hb5
  go_wp2_with fail
  go_ret
  exact ⟨rfl, HB5.out⟩
theorem ent_or : ∀ args w, (callFunc 41 args).run Tryz.prog w = .ok (.enter 41 args) w := enters_of Tryz.func41 (by kernel_rfl) rfl
set_option maxHeartbeats 2000000 in
set_option maxRecDepth 100000 in
theorem index_or (c : Cd) (ih : ∀ x ∈ c.list, PassOk 8 x) (F : List Fld) (r : Rc) (p : Rp) (B : Nat) (w : World) (h : CdW (fun _ => True) w c r) (hbig : Big c) (hf : FldsAt w (.slice p.f.p p.f.n p.f.c) F) (hok : FldsOk F) (hB : w.heap[B]? = some (pbox p)) :
    Calls Tryz.prog 54 #[.slice r.l.p r.l.n r.l.c, .func (.func 41) #[] #[.pointer (some ⟨B, 0, none⟩)]] w fun e w' => ∃ z : Int, e = .returned (.int .i64 z) ∧ decide (0 ≤ z) = (passAny F c.list) ∧ Below w.heap.size w w' := by
  have hg := ent_or
  have HL := Lib.hid h.len
  have HK := Lib.hid h.kid
  have HBG := Lib.hid hbig.parts
  have HX := Lib.hid (fun W (hW : Below w.heap.size w W) (x : Cd) (hx : x ∈ c.list) r' (h' : CdW (fun _ => True) w x r') => clo_or x (ih x hx) F r' p B W (h'.below hW) (hbig.parts.2.2.2 x hx) (hf.below hW) hok ((hW.block B (Rk.lt_of_block hB)).trans hB))
  have hln := HL.out
  clear h ih hbig hf hok hB
  obtain ⟨rk, rn, rv, rlo, rhi, ⟨rp, rl, rcap⟩⟩ := r
  simp only at hln
  subst hln
  go_enter Tryz.func54, Tryz.ntmps54
  go_wp2
  go_loopw [5, 8] (fun ii i wr => ∃ q : Nat, q ≤ c.list.length ∧ i = .int .i64 q ∧ Hid (∀ i (h : i < c.list.length), i < q → pass F c.list[i] = false) ∧ Below w.heap.size w wr) (fun _ i _ => c.list.length - (intOf i).toNat)
  case atStart => exact ⟨0, Nat.zero_le _, rfl, Lib.hid (fun i _ h => absurd h (by omega)), Below.refl _ _⟩
  case round =>
    obtain ⟨q, hq, rfl, HS, hb⟩ := hrel
    have HBW := Lib.hid hb
    clear hb
    obtain ⟨wo, rfl⟩ : ∃ wo : World, wo = wr := ⟨_, rfl⟩
    by_cases hlt : q < c.list.length
    · obtain ⟨g, off, cp, er, hgl, r', hw', hc⟩ := HK.out q hlt
      simp only [Sl.mk.injEq] at er
      obtain ⟨rfl, _, rfl⟩ := er
      obtain ⟨x0, x1, x2, x3, x4, x5, x6, x7⟩ := hc wo (HBW.out.block g hgl)
      have HC := Lib.hid (HX.out wo HBW.out _ (List.getElem_mem hlt) r' hw')
      have hqn : (q : Int) < (c.list.length : Int) := by omega
      have HLT := Lib.hid hlt
      obtain ⟨b, hbb⟩ : ∃ b, b = pass F c.list[q] := ⟨_, rfl⟩
      change Hid (Calls _ _ _ _ fun e w' => e = Ending.returned (Value.bool (pass F c.list[q])) ∧ _) at HC
      rw [← hbb] at HC
      have HBB := Lib.hid hbb
      obtain ⟨k0, k1, ⟨k2, k3, k4⟩, k5, k6, ⟨k7, k8, k9⟩⟩ := r'
      simp only at x0 x1 x2 x3 x4 x5 x6 x7
      clear hbb hc hw' hgl
      cases hbv : b
      · rw [hbv] at HC HBB
        have HSN : Hid (∀ i (h : i < c.list.length), i < q + 1 → pass F c.list[i] = false) := Lib.hid (fun i h hi => by
          rcases Nat.lt_or_ge i q with c' | c'
          · exact HS.out i h c'
          · obtain rfl : i = q := by omega
            exact HBB.out.symm)
        go_wp2_with fail
        refine HC.out.mono ?_
        clear HC
        rintro e w5 ⟨rfl, hb5⟩
        have HB5 := Lib.hid (HBW.out.trans (hb5.mono HBW.out.size))
        clear hb5
        go_wp2_with fail
        go_roundw
        case rel => exact ⟨q + 1, HLT.out, congrArg _ (wrap_q HBG.out.2.2.1 HLT.out), HSN, HB5.out⟩
        case measure =>
          rw [wrap_q HBG.out.2.2.1 HLT.out]
          exact less_q HLT.out
      · rw [hbv] at HC HBB
        have HE := Lib.hid (any_yes HLT.out HBB.out.symm)
        go_wp2_with fail
        refine HC.out.mono ?_
        clear HC
        rintro e w5 ⟨rfl, hb5⟩
        have HB5 := Lib.hid (HBW.out.trans (hb5.mono HBW.out.size))
        clear hb5
        go_wp2_with fail
        go_ret
        exact ⟨_, rfl, by rw [HE.out]; exact ge_zero q, HB5.out⟩
    · obtain rfl : q = c.list.length := by omega
      have HE := Lib.hid (any_no (F := F) (l := c.list) fun i h => HS.out i h h)
      go_wp2_with fail
      go_ret
      exact ⟨_, rfl, by rw [HE.out]; rfl, HBW.out⟩
set_option maxHeartbeats 1000000 in
set_option maxRecDepth 100000 in
theorem contains_or (c : Cd) (ih : ∀ x ∈ c.list, PassOk 8 x) (F : List Fld) (r : Rc) (p : Rp) (B : Nat) (w : World) (h : CdW (fun _ => True) w c r) (hbig : Big c) (hf : FldsAt w (.slice p.f.p p.f.n p.f.c) F) (hok : FldsOk F) (hB : w.heap[B]? = some (pbox p)) :
    Calls Tryz.prog 40 #[.slice r.l.p r.l.n r.l.c, .func (.func 41) #[] #[.pointer (some ⟨B, 0, none⟩)]] w fun e w' => e = .returned (.bool (passAny F c.list)) ∧ Below w.heap.size w w' := by
  have HC := Lib.hid (index_or c ih F r p B w h hbig hf hok hB)
  clear h ih hbig hf hok hB
  go_enter Tryz.func40, Tryz.ntmps40
  go_wp2_with fail
  refine HC.out.mono ?_
  clear HC
  rintro e w5 ⟨z, rfl, hz, hb5⟩
  have HZ := Lib.hid hz
  have HB5 := Lib.hid hb5
  clear hz hb5
  go_wp2_with fail
  go_ret
  exact ⟨retb HZ.out.symm, HB5.out⟩
end Ft
end Go.Proofs.YtclmalaomofahaaGreatDoor
