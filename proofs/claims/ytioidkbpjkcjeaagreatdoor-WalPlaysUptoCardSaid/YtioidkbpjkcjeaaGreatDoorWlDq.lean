/- The law's 'do' on both logs, whatever the deed is. Conditions: those that each theorem names. -/
import Derived.Test.YtioidkbpjkcjeaaGreatDoorWlDp
import Derived.Test.YtioidkbpjkcjeaaGreatDoorWlDs
namespace Go.Proofs.YtioidkbpjkcjeaaGreatDoor
set_option linter.unusedVariables false
open Go Go.RowKit Dk
namespace Wl
section
variable {w0 w : World} {A B P k : Nat}
theorem PairW.below (h : PairW w0 A B P k w) : Below w0.heap.size w0 w := by
  obtain ⟨φ, D, M, tw, b, bm, h0, h | ⟨L, R, sz, last, br, h1, h2, h3, h4, _⟩⟩ := h
  · exact h.2.below
  · exact h4.below
theorem PairW.others (h : PairW w0 A B P k w) {w' : World} (hb : Below w.heap.size w w') : PairW w0 A B P k w' := by
  obtain ⟨φ, D, M, tw, b, bm, h0, ⟨hP, h⟩ | ⟨L, R, sz, last, br, h1, h2, h3, h4, h5⟩⟩ := h
  · exact ⟨φ, D, M, tw, b, bm, h0, .inl ⟨(hb.block P (h.lt rfl)).trans hP, h.others hb⟩⟩
  · exact ⟨φ, D, M, tw, b, bm, h0, .inr ⟨L, R, sz, last, br, (hb.block P (h4.lt (.inl rfl))).trans h1, (hb.block L (h4.lt (.inr (.inl rfl)))).trans h2, (hb.block R (h4.lt (.inr (.inr rfl)))).trans h3, h4.others hb, h5⟩⟩
theorem PairW.more (h : PairW w0 A B P k w) : PairW w0 A B P (k + 1) w := by
  obtain ⟨φ, D, M, tw, b, bm, h0, h | ⟨L, R, sz, last, br, h1, h2, h3, h4, h5, h6, h7, h8, h9, h10, h11⟩⟩ := h
  · exact ⟨φ, D, M, tw, b.more, bm.more, h0, .inl h⟩
  · exact ⟨φ, D, M, tw, b.more, bm.more, h0, .inr ⟨L, R, sz, last, br, h1, h2, h3, h4, h5, h6, h7, h8, h9, h10, Nat.le_trans h11 (Nat.mul_le_mul (Nat.le_succ _) (Nat.le_refl _))⟩⟩
theorem PairW.more4 (h : PairW w0 A B P (k + 1) w) : PairW w0 A B P (k + 5) w := h.more.more.more.more
theorem kind_not {z c : Int} (h : ¬ z = c) : (z == c) = false := by simp [h]
/-- A deed's value. -/
def DeedC.value (x : DeedC) : Value := .agg #[.int .i64 x.kind, .string x.body, .int .i64 x.seq, .int .i64 x.step, .int .i64 x.flt.1, .int .i64 x.flt.2.1, .int .i64 x.flt.2.2, .int .i64 x.cn, x.cv]
theorem wdo_any (h : PairW w0 A B P k w) (hk : k + 5 ≤ 1048577) (G : Hd w0) (x : DeedC) (hx : DeedIn w0 x) (hsz : x.body.size ≤ 1048576) :
    Calls Tryz.prog 7 #[.pointer (some ⟨P, 0, none⟩), x.value] w fun e w' => e = .returned (.bool true) ∧ PairW w0 A B P (k + 5) w' := by
  obtain ⟨kd, s, sq, st, ⟨fs, fk, fn⟩, cn, cv, cl⟩ := x
  obtain ⟨-, hsq, hst, hfl, -, hcr, hcl, hco, hcw⟩ := hx
  simp only at hsq hst hfl hcr hcl hco hcw hsz
  obtain ⟨q, c2, rfl⟩ := ints_form hcr
  have hsb : s.size + 20 ≤ cW := by unfold cW; omega
  show Calls Tryz.prog 7 #[.pointer (some ⟨P, 0, none⟩), dV kd s sq st fs fk fn cn q cl.length c2] w _
  by_cases k2 : kd = 2
  · subst k2
    obtain ⟨φ, D, M, tw, b, bm, h0, ⟨hP, h⟩ | ⟨L, R, sz, last, br, h1, h2, h3, h4, h5, h6, h7, h8, h9, h10, h11⟩⟩ := h
    · refine (wdo_plan tw b bm hP (Y := fun b => b = P) rfl h (by omega) s sq st fs fk fn cn hst hfl q cl.length c2).mono fun e w' ⟨he, D', M', t', b', m', h', s'⟩ => ⟨he, PairW.more4 ⟨φ, D', M', t', b', m', h0, .inl ⟨(s'.2 P rfl).trans hP, h'⟩⟩⟩
    · refine (wdo_plan tw b bm h1 (Y := fun b => b = P ∨ b = L ∨ b = R) (.inl rfl) h4 (by omega) s sq st fs fk fn cn hst hfl q cl.length c2).mono fun e w' ⟨he, D', M', t', b', m', h', s'⟩ => ⟨he, PairW.more4 ⟨φ, D', M', t', b', m', h0, .inr ⟨L, R, sz, last, br, (s'.2 P (.inl rfl)).trans h1, (s'.2 L (.inr (.inl rfl))).trans h2, (s'.2 R (.inr (.inr rfl))).trans h3, h', h5, h6, h7, h8, h9, h10, Nat.le_trans h11 (Nat.mul_le_mul (Nat.le_succ _) (Nat.le_refl _))⟩⟩⟩
  by_cases k3 : kd = 3
  · subst k3
    exact wdo_crash h.disks (by omega) G s sq st fs fk fn cn q cl.length c2 cl hcr hcl hco hcw
  by_cases k0 : kd = 0
  · subst k0
    obtain ⟨φ, D, M, tw, b, bm, h0, ⟨hP, h⟩ | ⟨L, R, sz, last, br, h1, h2, h3, h4, h5, h6, h7, h8, h9, h10, h11⟩⟩ := h
    · exact (wdo_none hP 0 (.inl rfl) s sq st fs fk fn cn q cl.length c2).mono fun e w' ⟨he, hb⟩ => ⟨he, (PairW.others ⟨φ, D, M, tw, b, bm, h0, .inl ⟨hP, h⟩⟩ hb).more.more.more.more.more⟩
    · exact (wdo_append tw b bm h0 h1 h2 h3 h4 h5 h6 h7 h8 h9 h10 h11 (by omega) G s hsb sq st fs fk fn cn hsq q cl.length c2).mono fun e w' ⟨he, hw⟩ => ⟨he, hw.more4⟩
  by_cases k1 : kd = 1
  · subst k1
    obtain ⟨φ, D, M, tw, b, bm, h0, ⟨hP, h⟩ | ⟨L, R, sz, last, br, h1, h2, h3, h4, h5, h6, h7, h8, h9, h10, h11⟩⟩ := h
    · exact (wdo_none hP 1 (.inr rfl) s sq st fs fk fn cn q cl.length c2).mono fun e w' ⟨he, hb⟩ => ⟨he, (PairW.others ⟨φ, D, M, tw, b, bm, h0, .inl ⟨hP, h⟩⟩ hb).more.more.more.more.more⟩
    · exact (wdo_sync tw b bm h0 h1 h2 h3 h4 h5 h6 h7 h8 h9 h10 h11 (by omega) G s sq st fs fk fn cn q cl.length c2).mono fun e w' ⟨he, hw⟩ => ⟨he, hw.more4⟩
  · exact (wdo_open h.disks (by omega) G kd s sq st fs fk fn cn q cl.length c2 (kind_not k0) (kind_not k1) (kind_not k2) (kind_not k3)).mono fun e w' ⟨he, hw⟩ => ⟨he, hw.more⟩
end
end Wl
end Go.Proofs.YtioidkbpjkcjeaaGreatDoor
