/- The law's 'do' on both disks, whatever the deed is. Conditions: those that each theorem names. -/
import Derived.Test.YtblhbkhehddccaaRfDp
import Derived.Test.YtblhbkhehddccaaRfDl
import Derived.Test.YtblhbkhehddccaaRfLk
import Derived.Test.YtblhbkhehddccaaDkSure
namespace Go.Proofs.Ytblhbkhehddccaa
set_option linter.unusedVariables false
open Go.RowKit Dk
theorem planOk_may : ∀ (l : List (Int × Int × Int)) (z : Int), planOk z l = true → ∀ f ∈ l, mayB f = true
  | [], _, _, f, hf => nomatch hf
  | x :: r, z, h, f, hf => by
    unfold planOk at h
    simp only [Bool.and_eq_true] at h
    rcases List.mem_cons.1 hf with rfl | hf
    · exact h.1.2
    · exact planOk_may r _ h.2 f hf
section
variable {w0 : World} {A B : Nat} {D : DSt} {M : RSt} {k : Nat} {φ : Nat → Nat}
variable {w : World}
theorem kind_ne {z c : Int} (h : ¬ z = c) : (z == c) = false := by simp [h]
/-- Both disks, alike and within their bounds. -/
def Both (w0 : World) (A B k : Nat) (w : World) : Prop := ∃ φ D M, Dk.Twin φ D M ∧ DBd k D ∧ MBd k M ∧ Two w0 A B Y0 D M w
theorem do_any (h : Both w0 A B k w) (hk : k ≤ 1048577) (x : DeedC) (hx : DeedIn w0 x) (hsz : x.a.size + x.b.size + x.fl.length ≤ 1048576) :
    Calls Try.prog 5 #[.pointer (some ⟨A, 0, none⟩), .pointer (some ⟨B, 0, none⟩), .agg #[.int .i64 x.kind, .string x.a, .string x.b, .int .i64 x.n, x.fv, .int .i64 x.cn, x.cv]] w fun e w' => e = .returned (.bool true) ∧ Both w0 A B (k + 1) w' := by
  obtain ⟨φ, D, M, tw, b, m, h0⟩ := h
  obtain ⟨kd, s, t, z, fv, fl, cn, cv, cl⟩ := x
  obtain ⟨-, -, hrow, hfl, -, hcr, hcl, hco, hcw⟩ := hx
  simp only at hrow hfl hcr hcl hco hcw hsz ⊢
  obtain ⟨p, c, rfl⟩ := hrow.form
  obtain ⟨q, c2, rfl⟩ := ints_form hcr
  have hs : s.size ≤ 1048576 := by omega
  have ht : t.size ≤ 1048576 := by omega
  have hf : fl.length ≤ 1048576 := by omega
  by_cases k0 : kd = 0
  · subst k0
    obtain ⟨-, -, ψ, hψ⟩ := two_write tw b.plan s t
    obtain ⟨b', m'⟩ := bd_write b m tw s t ht
    exact (do_write h0 b m tw hk s t z p _ c cn q _ c2 hs ht).mono fun _ _ ⟨he, h⟩ => ⟨he, ψ, _, _, hψ, b', m', h⟩
  by_cases k1 : kd = 1
  · subst k1
    obtain ⟨b', m'⟩ := bd_cut b m tw s z (cutN M s z)
    exact (do_cut h0 b m tw hk s t z p _ c cn q _ c2 hs ht).mono fun _ _ ⟨he, h⟩ => ⟨he, φ, _, _, (two_cut tw s z _ (cutN_is M s z)).2, b', m', h⟩
  by_cases k2 : kd = 2
  · subst k2
    obtain ⟨b', m'⟩ := bd_sync b m tw s
    exact (do_sync h0 b m tw hk s t z p _ c cn q _ c2 hs ht).mono fun _ _ ⟨he, h⟩ => ⟨he, φ, _, _, (two_sync tw s).2, b', m', h⟩
  by_cases k3 : kd = 3
  · subst k3
    obtain ⟨b', m'⟩ := bd_rename b m s t
    exact (do_rename h0 b m tw hk s t z p _ c cn q _ c2 hs ht).mono fun _ _ ⟨he, h⟩ => ⟨he, φ, _, _, (two_rename tw s t).2, b', m', h⟩
  by_cases k4 : kd = 4
  · subst k4
    obtain ⟨b', m'⟩ := bd_remove b m s
    exact (do_remove h0 b m tw hk s t z p _ c cn q _ c2 hs ht).mono fun _ _ ⟨he, h⟩ => ⟨he, φ, _, _, (two_remove tw s).2, b', m', h⟩
  by_cases k5 : kd = 5
  · subst k5
    obtain ⟨b', m'⟩ := bd_syncNames b m
    exact (do_syncNames h0 b m tw hk s t z p _ c cn q _ c2 hs ht).mono fun _ _ ⟨he, h⟩ => ⟨he, φ, _, _, (two_syncNames tw).2, b', m', h⟩
  by_cases k6 : kd = 6
  · subst k6
    obtain ⟨b', m'⟩ := bd_plan b m (laterL M.made fl) (fun z h => planOk_may _ z h)
    exact (do_plan h0 b m tw hk s t z p _ c cn q _ c2 fl hrow hfl hf).mono fun _ _ ⟨he, h⟩ => ⟨he, φ, _, _, (two_plan tw _).2, b', m', h⟩
  by_cases k7 : kd = 7
  · subst k7
    obtain ⟨ψ, hψ⟩ := tw.crash (max cn 0).toNat cl
    obtain ⟨b', m'⟩ := bd_crash b m tw (max cn 0).toNat cl
    exact (do_crash h0 b m tw hk s t z p _ c cn q _ c2 cl hcr hcl hco hcw hs ht).mono fun _ _ ⟨he, h⟩ => ⟨he, ψ, _, _, hψ, b', m', h⟩
  · exact (do_read h0 b m tw hk kd s t z p _ c cn q _ c2 (kind_ne k0) (kind_ne k1) (kind_ne k2) (kind_ne k3) (kind_ne k4) (kind_ne k5) (kind_ne k6) (kind_ne k7) hs ht).mono fun _ _ ⟨he, h⟩ => ⟨he, φ, _, _, tw, b.more, m.more, h⟩
theorem Both.like (h : Both w0 A B k w) (hk : k ≤ 1048577) :
    Calls Try.prog 6 #[.pointer (some ⟨A, 0, none⟩), .pointer (some ⟨B, 0, none⟩)] w fun e w' => e = .returned (.bool true) ∧ Both w0 A B k w' :=
  let ⟨φ, D, M, tw, b, m, h0⟩ := h; (like_any h0 b m tw hk).mono fun _ _ ⟨he, h⟩ => ⟨he, φ, D, M, tw, b, m, h⟩
theorem Both.below (h : Both w0 A B k w) : Below w0.heap.size w0 w := let ⟨_, _, _, _, _, _, h⟩ := h; h.below
/-- Two new disks. -/
theorem both_new (w w1 : World) (h : At w w.heap.size Dk.new w1) :
    Both w w.heap.size w1.heap.size 0 (w1.alloc (.cells #[.slice none 0 0, .slice none 0 0, .slice none 0 0, .slice none 0 0, .slice none 0 0, .int .i64 0] 31)) := by
  have hb := belowNew w1 (.cells #[.slice none 0 0, .slice none 0 0, .slice none 0 0, .slice none 0 0, .slice none 0 0, .int .i64 0] 31)
  have hsz : (w1.alloc (.cells #[.slice none 0 0, .slice none 0 0, .slice none 0 0, .slice none 0 0, .slice none 0 0, .int .i64 0] 31)).heap.size = w1.heap.size + 1 := by show (w1.heap.push _).size = _; simp
  refine ⟨id, Dk.new, ⟨[], [], [], 0, []⟩, Twin.new, ⟨Nat.zero_le _, Nat.zero_le _, by decide, by decide, fun f hf => (by cases hf), fun f hf => (by cases hf)⟩, ⟨Nat.zero_le _, fun f hf => (by cases hf), Nat.zero_le _⟩, fun b => b = w1.heap.size, ?_, ?_, fun b hb => ⟨by rw [hb]; exact h.size, fun c => c⟩⟩
  · exact (AtB.of h).add hb (fun b hb => by
      rcases hb with rfl | hb
      · exact .inr ⟨Nat.le_refl _, by rw [hsz]; omega⟩
      · exact hb.elim)
  · refine ⟨_, _, _, _, _, [], heapLast w1 _, World.ownsRow_nil _ _ _ _, .inl ⟨rfl, none, 0, rfl⟩, .inl ⟨rfl, none, 0, rfl⟩, .inl ⟨rfl, none, 0, rfl⟩, rfl, .inl ⟨rfl, none, 0, rfl⟩, fun v hv g hg => ?_, fun g hg => (by cases hg), rfl, fun b hb => by rw [hb, hsz]; omega⟩
    rcases hv with rfl | rfl | rfl | rfl <;> cases hg
end
end Go.Proofs.Ytblhbkhehddccaa
