/- Rows of fields and of vectors in memory; payload's all over them, vecMayBe. Conditions: those that each theorem names. -/
import Derived.Test.YtfppemgagifmpaaDoorPlF
namespace Go.Proofs.YtfppemgagifmpaaDoor
set_option linter.unusedVariables false
open Go Go.RowKit Go.Shelf Pl
/-- A row of fields. -/
def FldsAt (w : World) (v : Value) (L : List Fld) : Prop :=
  (L = [] ∧ ∃ p c, v = .slice p 0 c) ∨ ∃ g off c, v = .slice (some ⟨g, off, none⟩) L.length c ∧ g < w.heap.size ∧
    ∀ W : World, W.heap[g]? = w.heap[g]? → ∀ j (h : j < L.length), W.cell? ⟨g, off + j * 4, none⟩ = some (.string (L[j]).name) ∧ W.cell? ⟨g, off + j * 4 + 1, none⟩ = some (.int .i64 (L[j]).val.kind) ∧
      W.cell? ⟨g, off + j * 4 + 2, none⟩ = some (.int .i64 (L[j]).val.n) ∧ W.cell? ⟨g, off + j * 4 + 3, none⟩ = some (.string (L[j]).val.text)
/-- A row of vectors: where each one's numbers lie, S tells. -/
def VecsAt (w : World) (v : Value) (L : List Vec) : Prop :=
  (L = [] ∧ ∃ p c, v = .slice p 0 c) ∨ ∃ (g off c : Nat) (S : Nat → Value), v = .slice (some ⟨g, off, none⟩) L.length c ∧ g < w.heap.size ∧
    (∀ W : World, W.heap[g]? = w.heap[g]? → ∀ j (h : j < L.length), W.cell? ⟨g, off + j * 2, none⟩ = some (.string (L[j]).name) ∧ W.cell? ⟨g, off + j * 2 + 1, none⟩ = some (S j)) ∧
    ∀ j (h : j < L.length), IntsAt w (S j) (L[j]).v
theorem IntsAt.form {w : World} {v : Value} {L : List Int} (h : IntsAt w v L) : ∃ p c, v = .slice p L.length c ∧ ∀ g, v.ownBlock = some g → L ≠ [] → g < w.heap.size := by
  rcases h with ⟨rfl, p, c, rfl⟩ | ⟨g, off, c, rfl, hg, _⟩
  · exact ⟨p, c, rfl, fun g _ h => absurd rfl h⟩
  · exact ⟨_, c, rfl, fun k hk _ => by simp [Value.ownBlock] at hk; subst hk; exact hg⟩
theorem IntsAt.below {w w' : World} {v : Value} {L : List Int} (h : IntsAt w v L) (g : Below w.heap.size w w') : IntsAt w' v L := by
  rcases h with h | ⟨b, off, c, rfl, hb, hc⟩
  · exact .inl h
  · exact .inr ⟨b, off, c, rfl, Nat.lt_of_lt_of_le hb g.size, fun W hW => hc W (hW.trans (g.block b hb))⟩
theorem FldsAt.below {w w' : World} {v : Value} {L : List Fld} (h : FldsAt w v L) (g : Below w.heap.size w w') : FldsAt w' v L := by
  rcases h with h | ⟨b, off, c, rfl, hb, hc⟩
  · exact .inl h
  · exact .inr ⟨b, off, c, rfl, Nat.lt_of_lt_of_le hb g.size, fun W hW => hc W (hW.trans (g.block b hb))⟩
theorem VecsAt.below {w w' : World} {v : Value} {L : List Vec} (h : VecsAt w v L) (g : Below w.heap.size w w') : VecsAt w' v L := by
  rcases h with h | ⟨b, off, c, S, rfl, hb, hc, hi⟩
  · exact .inl h
  · exact .inr ⟨b, off, c, S, rfl, Nat.lt_of_lt_of_le hb g.size, fun W hW => hc W (hW.trans (g.block b hb)), fun j h => (hi j h).below g⟩
theorem FldsAt.form {w : World} {v : Value} {L : List Fld} (h : FldsAt w v L) : ∃ p c, v = .slice p L.length c := by
  rcases h with ⟨rfl, p, c, rfl⟩ | ⟨g, off, c, rfl, hg, _⟩
  · exact ⟨p, c, rfl⟩
  · exact ⟨_, c, rfl⟩
theorem VecsAt.form {w : World} {v : Value} {L : List Vec} (h : VecsAt w v L) : ∃ p c, v = .slice p L.length c := by
  rcases h with ⟨rfl, p, c, rfl⟩ | ⟨g, off, c, S, rfl, hg, _⟩
  · exact ⟨p, c, rfl⟩
  · exact ⟨_, c, rfl⟩
/-- Room for every text. -/
def Room : Nat := 140737488355328
def FldsOk (L : List Fld) : Prop := L.length ≤ Room ∧ ∀ x ∈ L, x.name.size ≤ Room ∧ x.val.text.size ≤ Room
def VecsOk (L : List Vec) : Prop := L.length ≤ Room ∧ ∀ x ∈ L, x.name.size ≤ Room ∧ x.v.length ≤ Room
theorem room_len {n : Nat} (h : n ≤ Room) : n ≤ maxLen := by unfold Room at h; unfold maxLen; omega
theorem field_enters : ∀ args w, (callFunc 54 args).run Tryd.prog w = .ok (.enter 54 args) w := enters_of Tryd.func54 (by kernel_rfl) rfl
set_option maxHeartbeats 1000000 in
set_option maxRecDepth 100000 in
theorem allFields_any (L : List Fld) (v : Value) (w : World) (G : Gp w) (h : FldsAt w v L) (hl : FldsOk L) :
    Calls Tryd.prog 26 #[v, .func (.func 54) #[] #[]] w fun e w' => e = .returned (.bool (L.all fun x => valB x.val)) ∧ Below w.heap.size w w' := by
  have hg := field_enters
  have HS := Lib.hid (room_len hl.1)
  have HL := Lib.hid hl
  have HG := Lib.hid G
  clear hl G
  rcases h with ⟨rfl, q, c, rfl⟩ | ⟨b, off, c, rfl, hb, hc⟩
  · go_enter Tryd.func26, Tryd.ntmps26
    go_wp2
    go_loop [9] (fun i => i = .int .i64 0) (fun _ => 0)
    case atStart => rfl
    case round =>
      subst hrel
      go_wp2
      go_ret
      exact ⟨rfl, Below.refl _ _⟩
  · go_enter Tryd.func26, Tryd.ntmps26
    have HC := Lib.hid hc
    have HB := Lib.hid hb
    clear hc hb
    go_wp2
    go_loopw [9] (fun i wr => ∃ k : Nat, k ≤ L.length ∧ i = .int .i64 k ∧ Below w.heap.size w wr ∧ Hid ((L.take k).all (fun x => valB x.val) = true)) (fun i _ => L.length - (intOf i).toNat)
    case atStart => exact ⟨0, Nat.zero_le _, rfl, Below.refl _ _, Lib.hid (by simp)⟩
    case round =>
      obtain ⟨k, hk, rfl, hbw, HA⟩ := hrel
      have HBW := Lib.hid hbw
      clear hbw
      by_cases hlt : k < L.length
      · obtain ⟨c0, c1, c2, c3⟩ := HC.out wr (HBW.out.block b HB.out) k hlt
        have hx : L[k]? = some L[k] := List.getElem?_eq_getElem hlt
        have hsz := (HL.out.2 _ (List.getElem_mem hlt)).2
        generalize hcc : L[k] = x at hx c0 c1 c2 c3 hsz
        obtain ⟨nm, ⟨kd, n, t⟩⟩ := x
        simp only at c0 c1 c2 c3 hsz
        have HX := Lib.hid (fun W (G : Gp W) => fieldMay_any nm kd n t hsz W G)
        obtain ⟨r, hr⟩ : ∃ r, r = valB ⟨kd, n, t⟩ := ⟨_, rfl⟩
        rw [← hr] at HX
        have z := heap_last wr (.cells #[.string nm, .int .i64 kd, .int .i64 n, .string t] 47)
        obtain ⟨d0, d1, d2, d3⟩ := cells4_of z
        have GW := Lib.hid (HG.out.fresh HBW.out)
        cases r with
        | true =>
          have HN := Lib.hid (all_next' (p := fun x => valB x.val) hx HA.out hr.symm)
          clear hx HA hr hcc z hsz
          go_wp2_with fail
          refine (HX.out _ (GW.out.alloc _)).mono ?_
          rintro e w2 ⟨rfl, b2⟩
          have HB2 := Lib.hid (HBW.out.trans ((Below.alloc (Below.refl _ wr) (Nat.le_refl _) _).mono HBW.out.size |>.trans (b2.mono (by simp; exact Nat.le_succ_of_le HBW.out.size))))
          clear b2 d0 d1 d2 d3 c0 c1 c2 c3
          go_wp2_with fail
          go_roundw
          case rel => exact ⟨k + 1, by omega, congrArg _ (wrap_s HS.out hlt), HB2.out, HN⟩
          case measure =>
            rw [wrap_s HS.out hlt]
            exact int_less hlt
        | false =>
          have HN : Hid (L.all (fun x => valB x.val) = false) := Lib.hid (all_no' hx hr.symm)
          clear hx HA hr hcc z hsz
          go_wp2_with fail
          refine (HX.out _ (GW.out.alloc _)).mono ?_
          rintro e w2 ⟨rfl, b2⟩
          have HB2 := Lib.hid (HBW.out.trans ((Below.alloc (Below.refl _ wr) (Nat.le_refl _) _).mono HBW.out.size |>.trans (b2.mono (by simp; exact Nat.le_succ_of_le HBW.out.size))))
          clear b2 d0 d1 d2 d3 c0 c1 c2 c3
          go_wp2_with fail
          go_ret
          rw [HN.out]
          exact ⟨rfl, HB2.out⟩
      · obtain rfl : k = L.length := by omega
        have hx : L.all (fun x => valB x.val) = true := by have := HA.out; rwa [List.take_length] at this
        have HE := Lib.hid hx
        clear hx
        go_wp2_with fail
        go_ret
        rw [HE.out]
        exact ⟨rfl, HBW.out⟩
end Go.Proofs.YtfppemgagifmpaaDoor
