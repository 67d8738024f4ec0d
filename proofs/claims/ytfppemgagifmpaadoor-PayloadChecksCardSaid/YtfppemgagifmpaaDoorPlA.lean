/- payload's small predicates, all over bytes and whole numbers, isName. Conditions: those that each theorem names. -/
import Derived.Test.YtfppemgagifmpaaDoorPlPlain
import Derived.Test.YtfppemgagifmpaaDoorShelf
import Derived.WalkKit
import Derived.Lib.LaidU8
namespace Go.Proofs.YtfppemgagifmpaaDoor
set_option linter.unusedVariables false
open Go Go.RowKit Go.Shelf Pl
theorem wrap_s {n k : Nat} (h : n ≤ maxLen) (hk : k < n) : wrap64 ((k : Int) + 1) = ((k + 1 : Nat) : Int) := by
  unfold maxLen at h; unfold wrap64; omega
theorem int_less {n k : Nat} (h : k < n) : n - (intOf (.int .i64 ((k + 1 : Nat) : Int))).toNat < n - (intOf (.int .i64 (k : Int))).toNat := by
  simp only [intOf, Int.toNat_natCast]; omega
theorem digit_any (c : UInt8) (w : World) :
    Calls Tryd.prog 59 #[.int .u8 c.toNat] w fun e w' => e = .returned (.bool (digitB c)) ∧ w' = w := by
  unfold digitB
  generalize (c.toNat : Int) = z
  go_enter Tryd.func59, Tryd.ntmps59
  by_cases h1 : (48 : Int) ≤ z
  · by_cases h2 : z ≤ 57
    · go_wp2_with fail
      go_ret
      exact ⟨by simp [h1, h2], rfl⟩
    · go_wp2_with fail
      go_ret
      exact ⟨by simp [h1, h2], rfl⟩
  · go_wp2_with fail
    go_ret
    exact ⟨by simp; omega, rfl⟩
theorem part_any (n : Int) (w : World) :
    Calls Tryd.prog 51 #[.int .i64 n] w fun e w' => e = .returned (.bool (partB n)) ∧ w' = w := by
  unfold partB
  go_enter Tryd.func51, Tryd.ntmps51
  by_cases h1 : (-32768 : Int) ≤ n
  · by_cases h2 : n ≤ 32767
    · go_wp2_with fail
      go_ret
      exact ⟨by simp [h1, h2], rfl⟩
    · go_wp2_with fail
      go_ret
      exact ⟨by simp [h1, h2], rfl⟩
  · go_wp2_with fail
    go_ret
    exact ⟨by simp; omega, rfl⟩
theorem zero_any (n : Int) (w : World) :
    Calls Tryd.prog 52 #[.int .i64 n] w fun e w' => e = .returned (.bool (zeroB n)) ∧ w' = w := by
  unfold zeroB
  go_enter Tryd.func52, Tryd.ntmps52
  go_wp2_with fail
  go_ret
  exact ⟨by by_cases h : n = 0 <;> simp [h], rfl⟩
set_option maxHeartbeats 1000000 in
theorem inname_any (c : UInt8) (w : World) :
    Calls Tryd.prog 61 #[.int .u8 c.toNat] w fun e w' => e = .returned (.bool (nameB c)) ∧ w' = w := by
  have HD := Lib.hid (digit_any c)
  unfold nameB
  generalize digitB c = d at *
  generalize (c.toNat : Int) = z at *
  go_enter Tryd.func61, Tryd.ntmps61
  rcases (by omega : (97 ≤ z ∧ z ≤ 122) ∨ (97 ≤ z ∧ 122 < z) ∨ (z < 97 ∧ 65 ≤ z ∧ z ≤ 90) ∨ (z < 97 ∧ 65 ≤ z ∧ 90 < z ∧ z ≠ 95) ∨ (z = 95) ∨ (z < 97 ∧ z < 65)) with ⟨h1, h2⟩ | ⟨h1, h2⟩ | ⟨h1, h2, h3⟩ | ⟨h1, h2, h3, h4⟩ | h1 | ⟨h1, h2⟩
  · go_wp2_with fail
    go_ret
    exact ⟨by simp [h1, h2], rfl⟩
  · go_wp2_with fail
    refine (HD.out w).mono ?_
    rintro e w' ⟨rfl, rfl⟩
    cases d with
    | true =>
      go_wp2_with fail
      go_ret
      exact ⟨by simp, rfl⟩
    | false =>
      have h3 : ¬ z = 95 := by omega
      go_wp2_with fail
      go_ret
      exact ⟨by simp [show ¬ z ≤ 122 by omega, show ¬ z ≤ 90 by omega, h3], rfl⟩
  · go_wp2_with fail
    go_ret
    exact ⟨by simp [h2, h3], rfl⟩
  · go_wp2_with fail
    refine (HD.out w).mono ?_
    rintro e w' ⟨rfl, rfl⟩
    cases d with
    | true =>
      go_wp2_with fail
      go_ret
      exact ⟨by simp, rfl⟩
    | false =>
      go_wp2_with fail
      go_ret
      exact ⟨by simp [show ¬ 97 ≤ z by omega, show ¬ z ≤ 90 by omega, h4], rfl⟩
  · subst h1
    go_wp2_with fail
    refine (HD.out w).mono ?_
    rintro e w' ⟨rfl, rfl⟩
    cases d with
    | true =>
      go_wp2_with fail
      go_ret
      exact ⟨by simp, rfl⟩
    | false =>
      go_wp2_with fail
      go_ret
      exact ⟨by simp, rfl⟩
  · go_wp2_with fail
    refine (HD.out w).mono ?_
    rintro e w' ⟨rfl, rfl⟩
    cases d with
    | true =>
      go_wp2_with fail
      go_ret
      exact ⟨by simp, rfl⟩
    | false =>
      have h3 : ¬ z = 95 := by omega
      go_wp2_with fail
      go_ret
      exact ⟨by simp [show ¬ 97 ≤ z by omega, show ¬ 65 ≤ z by omega, h3], rfl⟩
/-- A function value that tells p of a byte, of a whole number. -/
def TellsB (g : Nat) (p : UInt8 → Bool) : Prop := (∀ args w, (callFunc g args).run Tryd.prog w = .ok (.enter g args) w) ∧ ∀ (c : UInt8) (w : World), Calls Tryd.prog g #[.int .u8 c.toNat] w fun e w' => e = .returned (.bool (p c)) ∧ w' = w
def TellsI (g : Nat) (p : Int → Bool) : Prop := (∀ args w, (callFunc g args).run Tryd.prog w = .ok (.enter g args) w) ∧ ∀ (n : Int) (w : World), Calls Tryd.prog g #[.int .i64 n] w fun e w' => e = .returned (.bool (p n)) ∧ w' = w
theorem tells_part : TellsI 51 partB := ⟨enters_of Tryd.func51 (by kernel_rfl) rfl, part_any⟩
theorem tells_zero : TellsI 52 zeroB := ⟨enters_of Tryd.func52 (by kernel_rfl) rfl, zero_any⟩
theorem tells_name : TellsB 61 nameB := ⟨enters_of Tryd.func61 (by kernel_rfl) rfl, inname_any⟩
/-- A row of whole numbers. -/
def IntsAt (w : World) (v : Value) (L : List Int) : Prop :=
  (L = [] ∧ ∃ p c, v = .slice p 0 c) ∨ ∃ g off c, v = .slice (some ⟨g, off, none⟩) L.length c ∧ g < w.heap.size ∧
    ∀ W : World, W.heap[g]? = w.heap[g]? → ∀ j (h : j < L.length), W.cell? ⟨g, off + j, none⟩ = some (.int .i64 L[j])
theorem IntsAt.kept {w w' : World} {v : Value} {L : List Int} (h : IntsAt w v L) (hb : ∀ g, v.ownBlock = some g → w'.heap[g]? = w.heap[g]?) (hs : w.heap.size ≤ w'.heap.size) : IntsAt w' v L := by
  rcases h with h | ⟨g, off, c, rfl, hg, hc⟩
  · exact .inl h
  · have e := hb g rfl
    exact .inr ⟨g, off, c, rfl, by omega, fun W hW => hc W (hW.trans e)⟩
theorem all_no' {α} {L : List α} {p : α → Bool} {k : Nat} {c : α} (h : L[k]? = some c) (hp : p c = false) : L.all p = false := by
  rw [← Bool.not_eq_true, List.all_eq_true]
  intro h'
  rw [h' c (List.mem_of_getElem? h)] at hp
  cases hp
theorem all_next' {α} {L : List α} {p : α → Bool} {k : Nat} {c : α} (h : L[k]? = some c) (ha : (L.take k).all p = true) (hp : p c = true) : (L.take (k + 1)).all p = true := by
  rw [List.take_add_one, h, List.all_append, ha]; simp [hp]
set_option maxHeartbeats 1000000 in
theorem allInts_any (g : Nat) (p : Int → Bool) (hp : TellsI g p) (L : List Int) (v : Value) (w : World) (h : IntsAt w v L) (hl : L.length ≤ maxLen) :
    Calls Tryd.prog 50 #[v, .func (.func g) #[] #[]] w fun e w' => e = .returned (.bool (L.all p)) ∧ w' = w := by
  obtain ⟨hg, hq⟩ := hp
  have HQ := Lib.hid hq
  have HS := Lib.hid hl
  clear hq hl
  rcases h with ⟨rfl, q, c, rfl⟩ | ⟨b, off, c, rfl, hb, hc⟩
  · go_enter Tryd.func50, Tryd.ntmps50
    go_wp2
    go_loop [9] (fun i => i = .int .i64 0) (fun _ => 0)
    case atStart => rfl
    case round =>
      subst hrel
      go_wp2
      go_ret
      exact ⟨rfl, rfl⟩
  · go_enter Tryd.func50, Tryd.ntmps50
    have HC := Lib.hid hc
    clear hc
    go_wp2
    go_loop [9] (fun i => ∃ k : Nat, k ≤ L.length ∧ i = .int .i64 k ∧ Hid ((L.take k).all p = true)) (fun i => L.length - (intOf i).toNat)
    case atStart => exact ⟨0, Nat.zero_le _, rfl, Lib.hid (by simp)⟩
    case round =>
      obtain ⟨k, hk, rfl, HA⟩ := hrel
      by_cases hlt : k < L.length
      · have hcell := HC.out w rfl k hlt
        have HX := HQ.out L[k]
        have hx : L[k]? = some L[k] := List.getElem?_eq_getElem hlt
        generalize hcc : L[k] = n at HX hx hcell
        have HX2 := Lib.hid HX
        have HXX := Lib.hid hx
        cases hpc : p n with
        | true =>
          rw [hpc] at HX2
          have HN := Lib.hid (all_next' hx HA.out hpc)
          clear HX hx HA hpc hcc
          go_wp2_with fail
          refine (HX2.out w).mono ?_
          rintro e w' ⟨rfl, rfl⟩
          go_wp2_with fail
          go_round
          case rel => exact ⟨k + 1, by omega, congrArg _ (wrap_s HS.out hlt), HN⟩
          case measure =>
            rw [wrap_s HS.out hlt]
            exact int_less hlt
        | false =>
          rw [hpc] at HX2
          have HN : Hid (L.all p = false) := Lib.hid (all_no' hx hpc)
          clear HX hx HA hpc hcc
          go_wp2_with fail
          refine (HX2.out w).mono ?_
          rintro e w' ⟨rfl, rfl⟩
          go_wp2_with fail
          go_ret
          rw [HN.out]
          exact ⟨rfl, rfl⟩
      · obtain rfl : k = L.length := by omega
        have hx : L.all p = true := by have := HA.out; rwa [List.take_length] at this
        have HE := Lib.hid hx
        clear hx
        go_wp2_with fail
        go_ret
        rw [HE.out]
        exact ⟨rfl, rfl⟩
end Go.Proofs.YtfppemgagifmpaaDoor
