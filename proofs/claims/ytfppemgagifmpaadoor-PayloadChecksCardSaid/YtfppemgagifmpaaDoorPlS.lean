/- payload's vecMayBe, all over vectors. Conditions: those that each theorem names. -/
import Derived.Test.YtfppemgagifmpaaDoorPlR
namespace Go.Proofs.YtfppemgagifmpaaDoor
set_option linter.unusedVariables false
open Go Go.RowKit Go.Shelf Pl
def vecB (L : List Int) : Bool := decide (1 ≤ (L.length : Int)) && (decide ((L.length : Int) ≤ 64) && L.all partB)
set_option maxHeartbeats 1000000 in
set_option maxRecDepth 100000 in
theorem vecMay_any (nm : ByteArray) (v : Value) (L : List Int) (w : World) (h : IntsAt w v L) (hl : L.length ≤ Room) :
    Calls Tryd.prog 56 #[.agg #[.string nm, v]] w fun e w' => e = .returned (.bool (vecB L)) ∧ Below w.heap.size w w' := by
  have HI := Lib.hid (fun W (g : Below w.heap.size w W) => allInts_any _ _ tells_part L v W (h.below g) (room_len hl))
  obtain ⟨p, c, rfl, -⟩ := h.form
  clear h hl
  obtain ⟨r, hr⟩ : ∃ r, r = vecB L := ⟨_, rfl⟩
  rw [← hr]
  unfold vecB at hr
  have HR := Lib.hid hr
  generalize L.all partB = a at *
  clear hr
  have z := heap_last w (.cells #[.string nm, .slice p L.length c] 43)
  have d0 : (w.alloc (.cells #[.string nm, .slice p L.length c] 43)).cell? ⟨w.heap.size, 0, none⟩ = some (.string nm) := by rw [Lib.cell_of_heap z]; rfl
  have d1 : (w.alloc (.cells #[.string nm, .slice p L.length c] 43)).cell? ⟨w.heap.size, 1, none⟩ = some (.slice p L.length c) := by rw [Lib.cell_of_heap z]; rfl
  have HB := Lib.hid (Below.alloc (Below.refl _ w) (Nat.le_refl _) (.cells #[.string nm, .slice p L.length c] 43))
  clear z
  generalize L.length = m at *
  go_enter Tryd.func56, Tryd.ntmps56
  by_cases h1 : (1 : Int) ≤ m
  · by_cases h2 : (m : Int) ≤ 64
    · go_wp2_with fail
      refine (HI.out _ HB.out).mono ?_
      rintro e w2 ⟨rfl, rfl⟩
      go_wp2_with fail
      go_ret
      exact ⟨by rw [HR.out]; simp [h1, h2], HB.out⟩
    · go_wp2_with fail
      go_ret
      exact ⟨by rw [HR.out]; simp [h1]; intros; omega, HB.out⟩
  · go_wp2_with fail
    go_ret
    exact ⟨by rw [HR.out]; simp; intros; omega, HB.out⟩
theorem vec_enters : ∀ args w, (callFunc 56 args).run Tryd.prog w = .ok (.enter 56 args) w := enters_of Tryd.func56 (by kernel_rfl) rfl
set_option maxHeartbeats 1000000 in
set_option maxRecDepth 100000 in
theorem allVecs_any (L : List Vec) (v : Value) (w : World) (h : VecsAt w v L) (hl : VecsOk L) :
    Calls Tryd.prog 23 #[v, .func (.func 56) #[] #[]] w fun e w' => e = .returned (.bool (L.all fun x => vecB x.v)) ∧ Below w.heap.size w w' := by
  have hg := vec_enters
  have HS := Lib.hid (room_len hl.1)
  have HL := Lib.hid hl
  clear hl
  rcases h with ⟨rfl, q, c, rfl⟩ | ⟨b, off, c, S, rfl, hb, hc, hi⟩
  · go_enter Tryd.func23, Tryd.ntmps23
    go_wp2
    go_loop [9] (fun i => i = .int .i64 0) (fun _ => 0)
    case atStart => rfl
    case round =>
      subst hrel
      go_wp2
      go_ret
      exact ⟨rfl, Below.refl _ _⟩
  · go_enter Tryd.func23, Tryd.ntmps23
    have HC := Lib.hid hc
    have HB := Lib.hid hb
    have HI := Lib.hid hi
    clear hc hb hi
    go_wp2
    go_loopw [9] (fun i wr => ∃ k : Nat, k ≤ L.length ∧ i = .int .i64 k ∧ Below w.heap.size w wr ∧ Hid ((L.take k).all (fun x => vecB x.v) = true)) (fun i _ => L.length - (intOf i).toNat)
    case atStart => exact ⟨0, Nat.zero_le _, rfl, Below.refl _ _, Lib.hid (by simp)⟩
    case round =>
      obtain ⟨k, hk, rfl, hbw, HA⟩ := hrel
      have HBW := Lib.hid hbw
      clear hbw
      by_cases hlt : k < L.length
      · obtain ⟨c0, c1⟩ := HC.out wr (HBW.out.block b HB.out) k hlt
        have hx : L[k]? = some L[k] := List.getElem?_eq_getElem hlt
        have hsz := (HL.out.2 _ (List.getElem_mem hlt)).2
        have hin := ((HI.out k hlt).below HBW.out)
        generalize hcc : L[k] = x at hx c0 c1 hsz hin
        obtain ⟨nm, ns⟩ := x
        simp only at c0 c1 hsz hin
        generalize S k = sv at *
        obtain ⟨p, cp, rfl, -⟩ := hin.form
        have z := heap_last wr (.cells #[.string nm, .slice p ns.length cp] 43)
        have ba : Below wr.heap.size wr (wr.alloc (.cells #[.string nm, .slice p ns.length cp] 43)) := Below.alloc (Below.refl _ wr) (Nat.le_refl _) _
        have HX := Lib.hid (vecMay_any nm _ ns _ (hin.below ba) hsz)
        obtain ⟨r, hr⟩ : ∃ r, r = vecB ns := ⟨_, rfl⟩
        rw [← hr] at HX
        have d0 : (wr.alloc (.cells #[.string nm, .slice p ns.length cp] 43)).cell? ⟨wr.heap.size, 0, none⟩ = some (.string nm) := by rw [Lib.cell_of_heap z]; rfl
        have d1 : (wr.alloc (.cells #[.string nm, .slice p ns.length cp] 43)).cell? ⟨wr.heap.size, 1, none⟩ = some (.slice p ns.length cp) := by rw [Lib.cell_of_heap z]; rfl
        cases r with
        | true =>
          have HN := Lib.hid (all_next' (p := fun x => vecB x.v) hx HA.out hr.symm)
          clear hx HA hr hcc z hsz hin ba
          go_wp2_with fail
          refine HX.out.mono ?_
          rintro e w2 ⟨rfl, b2⟩
          have HB2 := Lib.hid (HBW.out.trans ((Below.alloc (Below.refl _ wr) (Nat.le_refl _) _).mono HBW.out.size |>.trans (b2.mono (by simp; exact Nat.le_succ_of_le HBW.out.size))))
          clear b2 d0 d1 c0 c1
          go_wp2_with fail
          go_roundw
          case rel => exact ⟨k + 1, by omega, congrArg _ (wrap_s HS.out hlt), HB2.out, HN⟩
          case measure =>
            rw [wrap_s HS.out hlt]
            exact int_less hlt
        | false =>
          have HN : Hid (L.all (fun x => vecB x.v) = false) := Lib.hid (all_no' hx hr.symm)
          clear hx HA hr hcc z hsz hin ba
          go_wp2_with fail
          refine HX.out.mono ?_
          rintro e w2 ⟨rfl, b2⟩
          have HB2 := Lib.hid (HBW.out.trans ((Below.alloc (Below.refl _ wr) (Nat.le_refl _) _).mono HBW.out.size |>.trans (b2.mono (by simp; exact Nat.le_succ_of_le HBW.out.size))))
          clear b2 d0 d1 c0 c1
          go_wp2_with fail
          go_ret
          rw [HN.out]
          exact ⟨rfl, HB2.out⟩
      · obtain rfl : k = L.length := by omega
        have hx : L.all (fun x => vecB x.v) = true := by have := HA.out; rwa [List.take_length] at this
        have HE := Lib.hid hx
        clear hx
        go_wp2_with fail
        go_ret
        rw [HE.out]
        exact ⟨rfl, HBW.out⟩
end Go.Proofs.YtfppemgagifmpaaDoor
