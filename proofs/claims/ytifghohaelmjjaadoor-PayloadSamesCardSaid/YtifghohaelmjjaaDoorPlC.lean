/- The order of values: payload's Compare, the document's own. Conditions: those that each theorem names. -/
import Derived.Test.YtifghohaelmjjaaDoorPlAw
namespace Go.Proofs.YtifghohaelmjjaaDoor
set_option linter.unusedVariables false
open Go Go.RowKit Go.Shelf Pl
def lessT (a b : Nm) : Bool := Op.bytesLess a.toList b.toList
def eqT (a b : Nm) : Bool := a.toList == b.toList
def cmpV (a b : Val) : Int := if a.kind < b.kind then -1 else if b.kind < a.kind then 1 else if a.n < b.n then -1 else if b.n < a.n then 1 else if lessT a.text b.text = true then -1 else if eqT a.text b.text = true then 0 else 1
set_option maxHeartbeats 1000000 in
set_option maxRecDepth 100000 in
theorem rcompare_any (k n k' n' : Int) (t t' : ByteArray) (w : World) :
    Calls Tryd.prog 22 #[.agg #[.int .i64 k, .int .i64 n, .string t], .agg #[.int .i64 k', .int .i64 n', .string t']] w fun e w' => e = .returned (.int .i64 (cmpV ⟨k, n, t⟩ ⟨k', n', t'⟩)) ∧ Below w.heap.size w w' := by
  obtain ⟨r, hr⟩ : ∃ r, r = cmpV ⟨k, n, t⟩ ⟨k', n', t'⟩ := ⟨_, rfl⟩
  rw [← hr]
  unfold cmpV lessT eqT at hr
  simp only at hr
  have HR := Lib.hid hr
  clear hr
  have z := heap_last w (.cells #[.int .i64 k, .int .i64 n, .string t] 51)
  obtain ⟨a0, a1, a2⟩ := cells3_new z (.cells #[.int .i64 k', .int .i64 n', .string t'] 51)
  have z2 := heap_last (w.alloc (.cells #[.int .i64 k, .int .i64 n, .string t] 51)) (.cells #[.int .i64 k', .int .i64 n', .string t'] 51)
  rw [show (w.alloc (.cells #[.int .i64 k, .int .i64 n, .string t] 51)).heap.size = w.heap.size + 1 by simp] at z2
  obtain ⟨b0, b1, b2⟩ := cells3_of z2
  have HB := Lib.hid ((fresh_alloc w (.cells #[.int .i64 k, .int .i64 n, .string t] 51)).alloc (by simp) (.cells #[.int .i64 k', .int .i64 n', .string t'] 51))
  clear z z2
  go_enter Tryd.func22, Tryd.ntmps22
  rcases Int.lt_trichotomy k k' with h1 | h1 | h1
  · go_wp2_with fail
    go_ret
    exact ⟨by rw [HR.out, if_pos h1]; rfl, HB.out⟩
  · subst h1
    rcases Int.lt_trichotomy n n' with h2 | h2 | h2
    · go_wp2_with fail
      go_ret
      exact ⟨by rw [HR.out]; simp [h2], HB.out⟩
    · subst h2
      cases h3 : Op.bytesLess t.toList t'.toList with
      | true =>
        go_wp2_with fail
        go_ret
        exact ⟨by rw [HR.out]; simp [h3], HB.out⟩
      | false =>
        cases h4 : t.toList == t'.toList with
        | true =>
          go_wp2_with fail
          go_ret
          exact ⟨by rw [HR.out]; simp [h3, h4], HB.out⟩
        | false =>
          go_wp2_with fail
          go_ret
          exact ⟨by rw [HR.out]; simp [h3, h4], HB.out⟩
    · have h3 : ¬ n < n' := by omega
      go_wp2_with fail
      go_ret
      exact ⟨by rw [HR.out]; simp [h2]; omega, HB.out⟩
  · have h3 : ¬ k < k' := by omega
    go_wp2_with fail
    go_ret
    exact ⟨by rw [HR.out]; simp [h1]; omega, HB.out⟩
def orL : List Int → Int
  | [] => 0
  | x :: r => if x = 0 then orL r else x
theorem orL_at {L : List Int} {k : Nat} {n : Int} (h : L[k]? = some n) : orL (L.drop k) = if n = 0 then orL (L.drop (k + 1)) else n := by
  have hk : k < L.length := (List.getElem?_eq_some_iff.1 h).1
  have e := (List.getElem?_eq_some_iff.1 h).2
  rw [List.drop_eq_getElem_cons hk, e]
  rfl
set_option maxHeartbeats 1000000 in
theorem or_any (L : List Int) (g c : Nat) (w : World) (hc : ∀ j (h : j < L.length), w.cell? ⟨g, j, none⟩ = some (.int .i64 L[j])) (hl : L.length ≤ 1000) :
    Calls Tryd.prog 61 #[.slice (some ⟨g, 0, none⟩) L.length c] w fun e w' => e = .returned (.int .i64 (orL L)) ∧ w' = w := by
  obtain ⟨r, hr⟩ : ∃ r, r = orL L := ⟨_, rfl⟩
  rw [← hr]
  have HC := Lib.hid hc
  have HS : Hid (L.length ≤ maxLen) := Lib.hid (by unfold maxLen; omega)
  have HR := Lib.hid hr
  clear hc hl hr
  go_enter Tryd.func61, Tryd.ntmps61
  go_wp2
  go_loop [8] (fun i => ∃ k : Nat, k ≤ L.length ∧ i = .int .i64 k ∧ Hid (r = orL (L.drop k))) (fun i => L.length - (intOf i).toNat)
  case atStart => exact ⟨0, Nat.zero_le _, rfl, HR⟩
  case round =>
    obtain ⟨k, hk, rfl, HA⟩ := hrel
    by_cases hlt : k < L.length
    · have hcell := HC.out k hlt
      have hx : L[k]? = some L[k] := List.getElem?_eq_getElem hlt
      generalize hcc : L[k] = n at hx hcell
      have HA2 := Lib.hid (HA.out.trans (orL_at hx))
      clear hx HA hcc
      by_cases h0 : n = 0
      · subst h0
        have HN := Lib.hid (HA2.out.trans (if_pos rfl))
        go_wp2_with fail
        go_round
        case rel => exact ⟨k + 1, by omega, congrArg _ (wrap_s HS.out hlt), HN⟩
        case measure =>
          rw [wrap_s HS.out hlt]
          exact int_less hlt
      · have HN := Lib.hid (HA2.out.trans (if_neg h0))
        go_wp2_with fail
        go_ret
        rw [HN.out]
        exact ⟨rfl, rfl⟩
    · obtain rfl : k = L.length := by omega
      have HE : Hid (r = 0) := Lib.hid (by rw [HA.out, List.drop_length]; rfl)
      go_wp2_with fail
      go_ret
      rw [HE.out]
      exact ⟨rfl, rfl⟩
end Go.Proofs.YtifghohaelmjjaaDoor
