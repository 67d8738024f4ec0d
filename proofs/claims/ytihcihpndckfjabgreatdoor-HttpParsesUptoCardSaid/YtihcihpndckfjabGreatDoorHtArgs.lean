/- How a request and a response that come in as arguments are read. Conditions: those that each theorem names. -/
import Derived.Test.YtihcihpndckfjabGreatDoorHtLaid
import Derived.OpenShut
import Derived.SizedLaws
import Derived.Lib.SmallJoins
import Derived.ChangeOld
namespace Go.Proofs.YtihcihpndckfjabGreatDoor
set_option linter.unusedVariables false
open Go.ChangeShapes Go.WideShapes Go.ChangeAt Go.RowKit Go.Joins

section
variable {H : Type} {enc : TypeId × Value → H} {W : World} {base : Nat} {b0 : Nat} {r : Reach}
set_option maxRecDepth 100000 in
theorem open_req {v : Value} {d : DataW H} {p : List MemPlace} (hv : Value.okWide Tryz.prog W r b0 23 v) (h : DataW.Trod enc Tryz.prog W base (fun _ => true) true 23 v d p) :
    ∃ a b c : ByteArray, v = .agg #[.string a, .string b, .string c] ∧ d = .agg [.lit (.string a.data.toList), .lit (.string b.data.toList), .lit (.string c.data.toList)] ∧ a.size ≤ maxLen ∧ b.size ≤ maxLen ∧ c.size ≤ maxLen := by
  obtain ⟨v0, v1, v2, y0, y1, y2, n, rfl, rfl, -, h0, h1, h2⟩ := open_agg3 Tryz.underlying23 (by kernel_rfl) (by kernel_rfl) hv h
  obtain ⟨a, ha, ha', ha''⟩ := DataW.trod_string Tryz.underlying9 h0
  obtain ⟨b, hb, hb', hb''⟩ := DataW.trod_string Tryz.underlying9 h1
  obtain ⟨c, hc, hc', hc''⟩ := DataW.trod_string Tryz.underlying9 h2
  obtain rfl : v0 = .string a := by simpa using ha
  obtain rfl : v1 = .string b := by simpa using hb
  obtain rfl : v2 = .string c := by simpa using hc
  subst ha' hb' hc'
  exact ⟨a, b, c, rfl, rfl, ha'', hb'', hc''⟩
set_option maxRecDepth 100000 in
theorem open_resp {v : Value} {d : DataW H} {p : List MemPlace} (hv : Value.okWide Tryz.prog W r b0 37 v) (h : DataW.Trod enc Tryz.prog W base (fun _ => true) true 37 v d p) :
    ∃ (n : Int) (b : ByteArray), v = .agg #[.int .i64 n, .string b] ∧ d = .agg [.lit (.int .i64 n), .lit (.string b.data.toList)] ∧ -9223372036854775808 ≤ n ∧ n ≤ 9223372036854775807 ∧ b.size ≤ maxLen := by
  obtain ⟨v0, v1, y0, y1, n, rfl, rfl, -, h0, h1⟩ := open_agg2 Tryz.underlying37 (by kernel_rfl) (by kernel_rfl) hv h
  obtain ⟨k, hk, hk', hw⟩ := DataW.trod_int Tryz.underlying3 h0
  obtain ⟨b, hb, hb', hb''⟩ := DataW.trod_string Tryz.underlying9 h1
  obtain rfl : v0 = .int .i64 k := by simpa using hk
  obtain rfl : v1 = .string b := by simpa using hb
  subst hk' hb'
  have : -9223372036854775808 ≤ k ∧ k ≤ 9223372036854775807 := by simpa [Lit.wf, show IntKind.i64.min = -9223372036854775808 from rfl] using hw
  exact ⟨k, b, rfl, rfl, this.1, this.2, hb''⟩
set_option maxRecDepth 100000 in
theorem sized_req {ts : List TypeId} {ds : List (DataW H)} {a b c : List UInt8} (h : (DataW.weightsEach Tryz.prog ts ds).all (· ≤ reachBytes) = true) {j : Nat} (ht : ts[j]? = some 23) (hd : ds[j]? = some (.agg [.lit (.string a), .lit (.string b), .lit (.string c)])) :
    a.length ≤ reachBytes ∧ b.length ≤ reachBytes ∧ c.length ≤ reachBytes := by
  have h1 := List.all_eq_true.1 h _ (DataW.weights_mem_each ht hd a.length (by simp [DataW.weights, DataW.weightsEach, Tryz.underlying23]))
  have h2 := List.all_eq_true.1 h _ (DataW.weights_mem_each ht hd b.length (by simp [DataW.weights, DataW.weightsEach, Tryz.underlying23]))
  have h3 := List.all_eq_true.1 h _ (DataW.weights_mem_each ht hd c.length (by simp [DataW.weights, DataW.weightsEach, Tryz.underlying23]))
  exact ⟨by simpa using h1, by simpa using h2, by simpa using h3⟩
set_option maxRecDepth 100000 in
theorem sized_resp {ts : List TypeId} {ds : List (DataW H)} {n : Int} {b : List UInt8} (h : (DataW.weightsEach Tryz.prog ts ds).all (· ≤ reachBytes) = true) {j : Nat} (ht : ts[j]? = some 37) (hd : ds[j]? = some (.agg [.lit (.int .i64 n), .lit (.string b)])) :
    b.length ≤ reachBytes := by
  have h2 := List.all_eq_true.1 h _ (DataW.weights_mem_each ht hd b.length (by simp [DataW.weights, DataW.weightsEach, Tryz.underlying37]))
  simpa using h2
end
end Go.Proofs.YtihcihpndckfjabGreatDoor
