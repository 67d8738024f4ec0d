/- Check of the conditions that the law's sure asks of: what it is made of. Conditions: those that each theorem names. -/
import Derived.Test.YtclmalaomofahaaGreatDoorFtK
import Derived.BigQuiet
namespace Go.Proofs.YtclmalaomofahaaGreatDoor
set_option linter.unusedVariables false
namespace Ft
open Go Go.RowKit Go.Shelf Pq Pq.Pl Rk Px
/-! ### The field of a name in the law's schema -/
abbrev fobj : Obj := .cells #[.string ⟨#[97]⟩, .int .i64 1, .string ⟨#[98]⟩, .int .i64 2, .string ⟨#[99]⟩, .int .i64 3] 81
theorem cells6 {w : World} {g : Nat} {a0 a1 a2 a3 a4 a5 : Value} {T : TypeId} {m : Nat × Nat} (h : w.heap[g]? = some (.cells #[a0, a1, a2, a3, a4, a5] T m)) :
    w.cell? ⟨g, 0, none⟩ = some a0 ∧ w.cell? ⟨g, 1, none⟩ = some a1 ∧ w.cell? ⟨g, 2, none⟩ = some a2 ∧ w.cell? ⟨g, 3, none⟩ = some a3 ∧ w.cell? ⟨g, 4, none⟩ = some a4 ∧ w.cell? ⟨g, 5, none⟩ = some a5 :=
  ⟨Lib.cell_of_heap h 0, Lib.cell_of_heap h 1, Lib.cell_of_heap h 2, Lib.cell_of_heap h 3, Lib.cell_of_heap h 4, Lib.cell_of_heap h 5⟩
set_option maxHeartbeats 1000000 in
set_option maxRecDepth 100000 in
theorem kclo_any (nm s : Nm) (k : Int) (B : Nat) (w : World) (hB : w.heap[B]? = some (.cells #[.string s] 9 (0, 0))) :
    Calls Tryz.prog 83 #[.agg #[.string nm, .int .i64 k], .pointer (some ⟨B, 0, none⟩)] w fun e w' => e = .returned (.bool (nm.toList == s.toList)) ∧ Below w.heap.size w w' := by
  have HB := Lib.hid (Rk.fresh_alloc w (.cells #[.string nm, .int .i64 k] 81))
  have c0 : (w.alloc (.cells #[.string nm, .int .i64 k] 81)).cell? ⟨B, 0, none⟩ = some (.string s) := Lib.cell_of_heap ((Rk.heap_old w _ (Rk.lt_of_block hB)).trans hB) 0
  clear hB
  go_enter Tryz.func83, Tryz.ntmps83
  go_wp2_with fail
  go_ret
  exact ⟨rfl, HB.out⟩
theorem kclo_enters : ∀ args w, (callFunc 83 args).run Tryz.prog w = .ok (.enter 83 args) w := enters_of Tryz.func83 (by kernel_rfl) rfl
set_option maxHeartbeats 1000000 in
set_option maxRecDepth 100000 in
theorem kidx_hit (g c B : Nat) (w : World) (hg : w.heap[g]? = some fobj) (hB : w.heap[B]? = some (.cells #[.string ⟨#[97]⟩] 9 (0, 0))) :
    Calls Tryz.prog 82 #[.slice (some ⟨g, 0, none⟩) 3 c, .func (.func 83) #[] #[.pointer (some ⟨B, 0, none⟩)]] w fun e w' => e = .returned (.int .i64 0) ∧ Below w.heap.size w w' := by
  have hgg := kclo_enters
  have HC := Lib.hid (kclo_any ⟨#[97]⟩ ⟨#[97]⟩ 1 B w hB)
  obtain ⟨c0, c1, _⟩ := cells6 hg
  clear hg hB
  go_enter Tryz.func82, Tryz.ntmps82
  go_wp2
  go_loopw [5, 8] (fun ii i wr => i = .int .i64 0 ∧ wr = w) (fun _ i _ => 3 - (intOf i).toNat)
  case atStart => exact ⟨rfl, rfl⟩
  case round =>
    obtain ⟨rfl, rfl⟩ := hrel
    go_wp2_with fail
    refine HC.out.mono ?_
    clear HC
    rintro e w5 ⟨rfl, hb5⟩
    have HB5 := Lib.hid hb5
    clear hb5
    go_wp2_with fail
    go_ret
    exact ⟨rfl, HB5.out⟩
theorem wrap_3 {k : Nat} (hk : k < 3) : wrap64 ((k : Int) + 1) = ((k + 1 : Nat) : Int) := by unfold wrap64; omega
set_option maxHeartbeats 1000000 in
set_option maxRecDepth 100000 in
theorem kidx_none (g c B : Nat) (w : World) (hg : w.heap[g]? = some fobj) (hB : w.heap[B]? = some (.cells #[.string ⟨#[122]⟩] 9 (0, 0))) :
    Calls Tryz.prog 82 #[.slice (some ⟨g, 0, none⟩) 3 c, .func (.func 83) #[] #[.pointer (some ⟨B, 0, none⟩)]] w fun e w' => e = .returned (.int .i64 (-1)) ∧ Below w.heap.size w w' := by
  have hgg := kclo_enters
  have HC := Lib.hid (fun (W : World) (hW : Below w.heap.size w W) nm k => kclo_any nm ⟨#[122]⟩ k B W ((hW.block _ (Rk.lt_of_block hB)).trans hB))
  have HGC : Hid (∀ W : World, Below w.heap.size w W → ∀ q : Nat, q < 3 → ∃ (nm : Nm) (k : Int), W.cell? ⟨g, 0 + q * 2, none⟩ = some (.string nm) ∧ W.cell? ⟨g, 0 + q * 2 + 1, none⟩ = some (.int .i64 k) ∧ (nm.toList == ByteArray.toList ⟨#[122]⟩) = false) := Lib.hid (fun W hW q hq => by
    obtain ⟨c0, c1, c2, c3, c4, c5⟩ := cells6 ((hW.block g (Rk.lt_of_block hg)).trans hg)
    match q, hq with
    | 0, _ => exact ⟨_, _, c0, c1, by decide +kernel⟩
    | 1, _ => exact ⟨_, _, c2, c3, by decide +kernel⟩
    | 2, _ => exact ⟨_, _, c4, c5, by decide +kernel⟩)
  obtain ⟨n3, hn3⟩ : ∃ n3, n3 = 3 := ⟨_, rfl⟩
  rw [← hn3]
  have HN3 := Lib.hid hn3
  clear hg hB hn3
  go_enter Tryz.func82, Tryz.ntmps82
  go_wp2
  go_loopw [5, 8] (fun ii i wr => ∃ q : Nat, q ≤ n3 ∧ i = .int .i64 q ∧ Below w.heap.size w wr) (fun _ i _ => n3 - (intOf i).toNat)
  case atStart => exact ⟨0, Nat.zero_le _, rfl, Below.refl _ _⟩
  case round =>
    obtain ⟨q, hq, rfl, hb⟩ := hrel
    have HBW := Lib.hid hb
    obtain ⟨wo, rfl⟩ : ∃ wo : World, wo = wr := ⟨_, rfl⟩
    by_cases hlt : q < n3
    · have HL3 : Hid (q < 3) := Lib.hid (by have := HN3.out; omega)
      obtain ⟨nm, k, c0, c1, hne⟩ := HGC.out wo hb q HL3.out
      have HCC := Lib.hid (HC.out wo hb nm k)
      rw [hne] at HCC
      have hqn : (q : Int) < (n3 : Int) := by omega
      have HLT := Lib.hid hlt
      simp only [Nat.zero_add] at c0 c1
      clear hne hb
      go_wp2_with fail
      refine HCC.out.mono ?_
      clear HCC
      rintro e w5 ⟨rfl, hb5⟩
      have HB5 := Lib.hid (HBW.out.trans (hb5.mono HBW.out.size))
      clear hb5
      go_wp2_with fail
      go_roundw
      case rel => exact ⟨q + 1, HLT.out, congrArg _ (wrap_3 HL3.out), HB5.out⟩
      case measure =>
        rw [wrap_3 HL3.out]
        exact less_q HLT.out
    · obtain rfl : q = n3 := by omega
      clear hb
      go_wp2_with fail
      go_ret
      exact ⟨rfl, HBW.out⟩
set_option maxHeartbeats 1000000 in
set_option maxRecDepth 100000 in
theorem kind_hit (g c : Nat) (w : World) (hg : w.heap[g]? = some fobj) :
    Calls Tryz.prog 73 #[.slice (some ⟨g, 0, none⟩) 3 c, .string ⟨#[97]⟩] w fun e w' => e = .returned (.tuple #[.int .i64 1, .bool true]) ∧ Below w.heap.size w w' := by
  have HA := Lib.hid (Rk.fresh_alloc w (.cells #[.string ⟨#[97]⟩] 9))
  have hg1 := (Rk.heap_old w (.cells #[.string ⟨#[97]⟩] 9) (Rk.lt_of_block hg)).trans hg
  have HG := Lib.hid hg1
  have HC := Lib.hid (kidx_hit g c w.heap.size _ hg1 (Rk.heap_last w _))
  clear hg hg1
  go_enter Tryz.func73, Tryz.ntmps73
  go_wp2_with fail
  refine HC.out.mono ?_
  clear HC
  rintro e w5 ⟨rfl, hb5⟩
  have HB5 := Lib.hid (HA.out.trans (hb5.mono HA.out.size))
  obtain ⟨_, c1, _⟩ := cells6 ((hb5.block _ (Rk.lt_of_block HG.out)).trans HG.out)
  clear hb5
  go_wp2_with fail
  go_ret2
  exact ⟨rfl, HB5.out⟩
set_option maxHeartbeats 1000000 in
set_option maxRecDepth 100000 in
theorem kind_none (g c : Nat) (w : World) (hg : w.heap[g]? = some fobj) :
    Calls Tryz.prog 73 #[.slice (some ⟨g, 0, none⟩) 3 c, .string ⟨#[122]⟩] w fun e w' => e = .returned (.tuple #[.int .i64 0, .bool false]) ∧ Below w.heap.size w w' := by
  have HA := Lib.hid (Rk.fresh_alloc w (.cells #[.string ⟨#[122]⟩] 9))
  have hg1 := (Rk.heap_old w (.cells #[.string ⟨#[122]⟩] 9) (Rk.lt_of_block hg)).trans hg
  have HC := Lib.hid (kidx_none g c w.heap.size _ hg1 (Rk.heap_last w _))
  clear hg hg1
  go_enter Tryz.func73, Tryz.ntmps73
  go_wp2_with fail
  refine HC.out.mono ?_
  clear HC
  rintro e w5 ⟨rfl, hb5⟩
  have HB5 := Lib.hid (HA.out.trans (hb5.mono HA.out.size))
  clear hb5
  go_wp2_with fail
  go_ret2
  exact ⟨rfl, HB5.out⟩
/-! ### What suits -/
set_option maxHeartbeats 1000000 in
set_option maxRecDepth 100000 in
theorem suits_has (g c : Nat) (w : World) (hg : w.heap[g]? = some fobj) :
    Calls Tryz.prog 56 #[.iface 66 (.string ⟨#[122]⟩), .slice (some ⟨g, 0, none⟩) 3 c] w fun e w' => e = .returned (.bool false) ∧ Below w.heap.size w w' := by
  have HC := Lib.hid (kind_none g c w hg)
  have t1 := ta_has_has
  clear hg
  go_enter Tryz.func56, Tryz.ntmps56
  go_wp2_with fail
  refine HC.out.mono ?_
  clear HC
  rintro e w5 ⟨rfl, hb5⟩
  have HB5 := Lib.hid hb5
  clear hb5
  go_wp2_with fail
  go_ret
  exact ⟨rfl, HB5.out⟩
set_option maxHeartbeats 1000000 in
set_option maxRecDepth 100000 in
theorem suits_in (g c : Nat) (w : World) (hg : w.heap[g]? = some fobj) :
    Calls Tryz.prog 56 #[.iface 70 (.agg #[.string ⟨#[97]⟩, .int .i64 5, .int .i64 9]), .slice (some ⟨g, 0, none⟩) 3 c] w fun e w' => e = .returned (.bool true) ∧ Below w.heap.size w w' := by
  have HA := Lib.hid (Rk.fresh_alloc w (.cells #[.string ⟨#[97]⟩, .int .i64 5, .int .i64 9] 70))
  have HC := Lib.hid (kind_hit g c _ ((Rk.heap_old w (.cells #[.string ⟨#[97]⟩, .int .i64 5, .int .i64 9] 70) (Rk.lt_of_block hg)).trans hg))
  have t1 := ta_has_in
  have t2 := ta_is_in
  have t3 := ta_in_in
  clear hg
  go_enter Tryz.func56, Tryz.ntmps56
  go_wp2_with fail
  refine HC.out.mono ?_
  clear HC
  rintro e w5 ⟨rfl, hb5⟩
  have HB5 := Lib.hid (HA.out.trans (hb5.mono HA.out.size))
  clear hb5
  go_wp2_with fail
  go_ret
  exact ⟨rfl, HB5.out⟩
end Ft
end Go.Proofs.YtclmalaomofahaaGreatDoor
