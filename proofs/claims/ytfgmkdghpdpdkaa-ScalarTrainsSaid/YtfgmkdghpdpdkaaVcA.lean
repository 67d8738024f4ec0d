/- vector's small predicates, and those of the document's own answers for it. Conditions: those that each theorem names. -/
import Derived.Test.YtfgmkdghpdpdkaaVcPlain
import Derived.Test.YtfgmkdghpdpdkaaShelf
import Derived.WalkKit
import Derived.WalkSpells
import Derived.WalkLawsBesides
import Derived.Laws.Rows
import Derived.Lib.Hide
namespace Go.Proofs.Ytfgmkdghpdpdkaa
set_option linter.unusedVariables false
open Go Go.RowKit Vc
theorem wrap_s {n k : Nat} (h : n ≤ maxLen) (hk : k < n) : wrap64 ((k : Int) + 1) = ((k + 1 : Nat) : Int) := by
  unfold maxLen at h; unfold wrap64; omega
theorem int_less {n k : Nat} (h : k < n) : n - (intOf (.int .i64 ((k + 1 : Nat) : Int))).toNat < n - (intOf (.int .i64 (k : Int))).toNat := by
  simp only [intOf, Int.toNat_natCast]; omega
theorem all_no' {α} {L : List α} {p : α → Bool} {k : Nat} {c : α} (h : L[k]? = some c) (hp : p c = false) : L.all p = false := by
  rw [← Bool.not_eq_true, List.all_eq_true]
  intro h'
  rw [h' c (List.mem_of_getElem? h)] at hp
  cases hp
theorem all_next' {α} {L : List α} {p : α → Bool} {k : Nat} {c : α} (h : L[k]? = some c) (ha : (L.take k).all p = true) (hp : p c = true) : (L.take (k + 1)).all p = true := by
  rw [List.take_add_one, h, List.all_append, ha]; simp [hp]
/-- A row of whole numbers of one kind. -/
def KAt (K : IntKind) (w : World) (v : Value) (L : List Int) : Prop :=
  (L = [] ∧ ∃ p c, v = .slice p 0 c) ∨ ∃ g off c, v = .slice (some ⟨g, off, none⟩) L.length c ∧ g < w.heap.size ∧
    ∀ W : World, W.heap[g]? = w.heap[g]? → ∀ j (h : j < L.length), W.cell? ⟨g, off + j, none⟩ = some (.int K L[j])
abbrev IntsAt (w : World) (v : Value) (L : List Int) : Prop := KAt .i64 w v L
theorem KAt.below {K : IntKind} {w w' : World} {v : Value} {L : List Int} (h : KAt K w v L) (g : Below w.heap.size w w') : KAt K w' v L := by
  rcases h with h | ⟨b, off, c, rfl, hb, hc⟩
  · exact .inl h
  · exact .inr ⟨b, off, c, rfl, Nat.lt_of_lt_of_le hb g.size, fun W hW => hc W (hW.trans (g.block b hb))⟩
theorem KAt.form {K : IntKind} {w : World} {v : Value} {L : List Int} (h : KAt K w v L) : ∃ p c, v = .slice p L.length c := by
  rcases h with ⟨rfl, p, c, rfl⟩ | ⟨g, off, c, rfl, hg, _⟩
  · exact ⟨p, c, rfl⟩
  · exact ⟨_, c, rfl⟩
/-! ### vector's -/
theorem metric_any (m : Int) (w : World) :
    Calls Try.prog 51 #[.int .i64 m] w fun e w' => e = .returned (.bool (metB m)) ∧ w' = w := by
  unfold metB
  go_enter Try.func51, Try.ntmps51
  by_cases h1 : m = 1
  · subst h1
    go_wp2_with fail
    go_ret
    exact ⟨rfl, rfl⟩
  · by_cases h2 : m = 2
    · subst h2
      go_wp2_with fail
      go_ret
      exact ⟨rfl, rfl⟩
    · by_cases h3 : m = 3
      · subst h3
        go_wp2_with fail
        go_ret
        exact ⟨rfl, rfl⟩
      · go_wp2_with fail
        go_ret
        exact ⟨by simp [h1, h2, h3], rfl⟩
set_option maxHeartbeats 1000000 in
theorem isZero_any (L : List Int) (v : Value) (w : World) (h : IntsAt w v L) (hl : L.length ≤ maxLen) :
    Calls Try.prog 52 #[v] w fun e w' => e = .returned (.bool (zeroL L)) ∧ w' = w := by
  unfold zeroL
  have HS := Lib.hid hl
  clear hl
  rcases h with ⟨rfl, q, c, rfl⟩ | ⟨b, off, c, rfl, hb, hc⟩
  · go_enter Try.func52, Try.ntmps52
    go_wp2
    go_loop [7] (fun i => i = .int .i64 0) (fun _ => 0)
    case atStart => rfl
    case round =>
      subst hrel
      go_wp2
      go_ret
      exact ⟨rfl, rfl⟩
  · go_enter Try.func52, Try.ntmps52
    have HC := Lib.hid hc
    clear hc
    go_wp2
    go_loop [7] (fun i => ∃ k : Nat, k ≤ L.length ∧ i = .int .i64 k ∧ Hid ((L.take k).all (fun n => n == 0) = true)) (fun i => L.length - (intOf i).toNat)
    case atStart => exact ⟨0, Nat.zero_le _, rfl, Lib.hid (by simp)⟩
    case round =>
      obtain ⟨k, hk, rfl, HA⟩ := hrel
      by_cases hlt : k < L.length
      · have hcell := HC.out w rfl k hlt
        have hx : L[k]? = some L[k] := List.getElem?_eq_getElem hlt
        generalize hcc : L[k] = n at hx hcell
        have HXX := Lib.hid hx
        by_cases hn : n = 0
        · have HN := Lib.hid (all_next' hx HA.out (p := fun n => n == 0) (by simp [hn]))
          clear hx HA hcc
          subst hn
          go_wp2_with fail
          go_round
          case rel => exact ⟨k + 1, by omega, congrArg _ (wrap_s HS.out hlt), HN⟩
          case measure =>
            rw [wrap_s HS.out hlt]
            exact int_less hlt
        · have HN : Hid (L.all (fun n => n == 0) = false) := Lib.hid (all_no' hx (by simp [hn]))
          clear hx HA hcc
          go_wp2_with fail
          go_ret
          rw [HN.out]
          exact ⟨rfl, rfl⟩
      · obtain rfl : k = L.length := by omega
        have hx : L.all (fun n => n == 0) = true := by have := HA.out; rwa [List.take_length] at this
        have HE := Lib.hid hx
        clear hx
        go_wp2_with fail
        go_ret
        rw [HE.out]
        exact ⟨rfl, rfl⟩
set_option maxHeartbeats 1000000 in
theorem isVector_any (L : List Int) (v : Value) (w : World) (h : IntsAt w v L) (hl : L.length ≤ maxLen) :
    Calls Try.prog 50 #[v] w fun e w' => e = .returned (.bool (vecB L)) ∧ w' = w := by
  unfold vecB
  by_cases h1 : 1 ≤ L.length
  · by_cases h2 : L.length ≤ 64
    · simp only [h1, h2, decide_true, Bool.true_and]
      rcases h with ⟨rfl, q, c, rfl⟩ | ⟨b, off, c, rfl, hb, hc⟩
      · simp at h1
      · have HS := Lib.hid hl
        have HC := Lib.hid hc
        clear hc hl
        go_enter Try.func50, Try.ntmps50
        go_wp2_with fail
        go_loop [15] (fun i => ∃ k : Nat, k ≤ L.length ∧ i = .int .i64 k ∧ Hid ((L.take k).all partB = true)) (fun i => L.length - (intOf i).toNat)
        case atStart => exact ⟨0, Nat.zero_le _, rfl, Lib.hid (by simp)⟩
        case round =>
          obtain ⟨k, hk, rfl, HA⟩ := hrel
          by_cases hlt : k < L.length
          · have hcell := HC.out w rfl k hlt
            have hx : L[k]? = some L[k] := List.getElem?_eq_getElem hlt
            generalize hcc : L[k] = n at hx hcell
            have HXX := Lib.hid hx
            by_cases hn1 : n < -32768
            · have HN : Hid (L.all partB = false) := Lib.hid (all_no' hx (by simp [partB]; omega))
              clear hx HA hcc
              go_wp2_with fail
              go_ret
              rw [HN.out]
              exact ⟨rfl, rfl⟩
            · by_cases hn2 : 32767 < n
              · have HN : Hid (L.all partB = false) := Lib.hid (all_no' hx (by simp [partB]; omega))
                clear hx HA hcc
                go_wp2_with fail
                go_ret
                rw [HN.out]
                exact ⟨rfl, rfl⟩
              · have HN := Lib.hid (all_next' hx HA.out (p := partB) (by simp [partB]; omega))
                clear hx HA hcc
                go_wp2_with fail
                go_round
                case rel => exact ⟨k + 1, by omega, by go_num, HN⟩
                case measure =>
                  simp [intOf]; omega
          · obtain rfl : k = L.length := by omega
            have hx : L.all partB = true := by have := HA.out; rwa [List.take_length] at this
            have HE := Lib.hid hx
            clear hx
            go_wp2_with fail
            go_ret
            rw [HE.out]
            exact ⟨rfl, rfl⟩
    · obtain ⟨p, c, rfl⟩ := h.form
      have e : (decide (1 ≤ L.length) && decide (L.length ≤ 64) && L.all partB) = false := by simp [h2]
      rw [e]
      clear e h
      generalize L.length = n at *
      go_enter Try.func50, Try.ntmps50
      go_wp2_with fail
      go_ret
      exact ⟨rfl, rfl⟩
  · obtain ⟨p, c, rfl⟩ := h.form
    have e : (decide (1 ≤ L.length) && decide (L.length ≤ 64) && L.all partB) = false := by simp; omega
    rw [e]
    clear e h
    generalize L.length = n at *
    go_enter Try.func50, Try.ntmps50
    go_wp2_with fail
    go_ret
    exact ⟨rfl, rfl⟩
end Go.Proofs.Ytfgmkdghpdpdkaa
