/- payload's fieldMayBe. Conditions: those that each theorem names. -/
import Derived.Test.YtfppemgagifmpaaDoorPlB
import Derived.Ground.NamesProg
import Derived.Shelf.Lay
namespace Go.Proofs
open Go Go.RowKit Go.Shelf Go.Lib
shelf_lay Lays.n196 Nm 196 at Tryd as Tryd.laysValid
end Go.Proofs
namespace Go.Proofs.YtfppemgagifmpaaDoor
set_option linter.unusedVariables false
open Go Go.RowKit Go.Shelf Pl
theorem valid_any (s : ByteArray) (w : World) (hs : s.size ≤ 16777215) (G : Gp w) :
    Calls Tryd.prog 63 #[.string s] w fun e w' => e = .returned (.bool (Lib.validD s.data.toList)) ∧ Below w.heap.size w w' :=
  Any.utf8_ValidString Tryd.laysValid s w (by omega) (G.utf w fun _ _ => rfl)
/-- May a value be? -/
def valB (v : Val) : Bool := if 1 ≤ v.kind ∧ v.kind < 4 then
    decide ((szT v.kind.toNat).2.1 ≤ v.n) && (decide (v.n ≤ (szT v.kind.toNat).2.2.1) && (decide ((v.text.size : Int) ≤ (szT v.kind.toNat).2.2.2) && Lib.validD v.text.data.toList))
  else false
theorem szT_text (k : Nat) : (szT k).2.2.2 ≤ 256 := by
  unfold szT
  split <;> decide
set_option maxHeartbeats 1000000 in
set_option maxRecDepth 100000 in
theorem fieldMay_any (nm : ByteArray) (k n : Int) (t : ByteArray) (ht : t.size ≤ 140737488355328) (w : World) (G : Gp w) :
    Calls Tryd.prog 54 #[.agg #[.string nm, .int .i64 k, .int .i64 n, .string t]] w fun e w' => e = .returned (.bool (valB ⟨k, n, t⟩)) ∧ Below w.heap.size w w' := by
  obtain ⟨r, hr⟩ : ∃ r, r = valB ⟨k, n, t⟩ := ⟨_, rfl⟩
  rw [← hr]
  have HW : Hid (∃ w2, (w.alloc (.cells #[.string nm, .int .i64 k, .int .i64 n, .string t] 47)).alloc (.cells #[.int .i64 k, .int .i64 n, .string t] 45) = w2 ∧
      w2.heap[w.heap.size + 1]? = some (.cells #[.int .i64 k, .int .i64 n, .string t] 45 (0, 0)) ∧ w2.heap.size = w.heap.size + 2 ∧ Below w.heap.size w w2) := Lib.hid (by
    refine ⟨_, rfl, ?_, by simp, (Below.alloc (Below.refl _ w) (Nat.le_refl _) _).alloc (by simp) _⟩
    have h := heap_last (w.alloc (.cells #[.string nm, .int .i64 k, .int .i64 n, .string t] 47)) (.cells #[.int .i64 k, .int .i64 n, .string t] 45)
    rw [show (w.alloc (.cells #[.string nm, .int .i64 k, .int .i64 n, .string t] 47)).heap.size = w.heap.size + 1 by simp] at h
    exact h)
  by_cases hk : 1 ≤ k ∧ k < 4
  · obtain ⟨q, hq⟩ : ∃ q : Nat, k = q := ⟨k.toNat, by omega⟩
    subst hq
    have HZ := Lib.hid (fun W (G : Gp W) => size_kind q (by omega) (by omega) W G)
    have HV := Lib.hid (fun w (h : t.size ≤ 256) (G : Gp w) => valid_any t w (by omega) G)
    have h256 := szT_text q
    have HR : Hid (r = (decide ((szT q).2.1 ≤ n) && (decide (n ≤ (szT q).2.2.1) && (decide ((t.size : Int) ≤ (szT q).2.2.2) && Lib.validD t.data.toList)))) := Lib.hid (by rw [hr]; unfold valB; rw [if_pos hk]; simp)
    generalize szT q = z at *
    obtain ⟨a, lo, hi, tx⟩ := z
    generalize Lib.validD t.data.toList = vd at *
    have HG := Lib.hid G
    clear hr hk G
    have H256 := Lib.hid h256
    clear h256
    go_enter Tryd.func54, Tryd.ntmps54
    go_wp2_with fail
    obtain ⟨w2, e2, x2, s2, b2⟩ := HW.out
    rw [e2]
    refine (HZ.out w2 (HG.out.fresh b2)).mono ?_
    rintro e w3 ⟨rfl, b3⟩
    have x3 := (b3.block _ (by omega)).trans x2
    have G3 := Lib.hid ((HG.out.fresh b2).fresh b3)
    have B3 := Lib.hid (b2.trans (b3.mono (by omega)))
    have c0 := fun o => (cells3_new x3 o).1
    have c1 := fun o => (cells3_new x3 o).2.1
    have c2 := fun o => (cells3_new x3 o).2.2
    obtain ⟨f0, f1, f2, f3⟩ := cells4 w3 (.int .i64 a) (.int .i64 lo) (.int .i64 hi) (.int .i64 tx) 87
    clear x3 x2 e2 s2 b2 b3
    by_cases h1 : lo ≤ n
    · by_cases h2 : n ≤ hi
      · by_cases h3 : (t.size : Int) ≤ tx
        · go_wp2_with fail
          refine (HV.out _ (by have := H256.out; omega) (G3.out.alloc _)).mono ?_
          rintro e w5 ⟨rfl, b5⟩
          go_wp2_with fail
          go_ret
          exact ⟨by rw [HR.out]; simp [h1, h2, h3], B3.out.trans ((Below.alloc (Below.refl _ w3) (Nat.le_refl _) _).mono B3.out.size |>.trans (b5.mono (by simp; exact Nat.le_succ_of_le B3.out.size)))⟩
        · go_wp2_with fail
          go_ret
          exact ⟨by rw [HR.out]; simp [h1, h2]; intros; omega, B3.out.alloc B3.out.size _⟩
      · go_wp2_with fail
        go_ret
        exact ⟨by rw [HR.out]; simp [h1]; intros; omega, B3.out.alloc B3.out.size _⟩
    · go_wp2_with fail
      go_ret
      exact ⟨by rw [HR.out]; simp; intros; omega, B3.out.alloc B3.out.size _⟩
  · have hk' : k < 1 ∨ 4 ≤ k := by omega
    have HR : Hid (r = false) := Lib.hid (by rw [hr]; unfold valB; rw [if_neg hk])
    have HZ := Lib.hid (fun W => size_none k hk' W)
    clear hr hk hk'
    go_enter Tryd.func54, Tryd.ntmps54
    go_wp2_with fail
    obtain ⟨w2, e2, x2, s2, b2⟩ := HW.out
    rw [e2]
    refine (HZ.out w2).mono ?_
    rintro e w3 ⟨rfl, b3⟩
    have B3 := Lib.hid (b2.trans (b3.mono (by omega)))
    clear x2 e2 s2 b2 b3
    go_wp2_with fail
    go_ret
    exact ⟨by rw [HR.out]; rfl, B3.out.alloc B3.out.size _⟩
end Go.Proofs.YtfppemgagifmpaaDoor
