/- The document's own disk: the names behind a change. Conditions: those that each theorem names. -/
import Derived.Test.YtblhbkhehddccaaRfWith
namespace Go.Proofs.Ytblhbkhehddccaa
set_option linter.unusedVariables false
open Go.RowKit Dk
/-- A change of names as the document's disk keeps it. -/
structure Chg where
  kind : Int
  a : Nm
  b : Nm
  f : Nat
def Chg.sets (c : Chg) : List (Nm × Option Nat) := if c.kind = 1 then [(c.a, some c.f)] else if c.kind = 2 then [(c.a, none), (c.b, some c.f)] else [(c.a, none)]
theorem Chg.one {c : Chg} (h : c.kind = 1) (L : List (Nm × Nat)) : c.sets.foldl nmSet L = nmPut L c.a c.f := by unfold Chg.sets; rw [if_pos h]; rfl
theorem Chg.two {c : Chg} (h : c.kind = 2) (L : List (Nm × Nat)) : c.sets.foldl nmSet L = nmPut (nmDel L c.a) c.b c.f := by unfold Chg.sets; rw [if_neg (by omega), if_pos h]; rfl
theorem Chg.more {c : Chg} (h1 : c.kind ≠ 1) (h2 : c.kind ≠ 2) (L : List (Nm × Nat)) : c.sets.foldl nmSet L = nmDel L c.a := by unfold Chg.sets; rw [if_neg h1, if_neg h2]; rfl
theorem WithoutR.from {w0 w w' : World} {L : List (Nm × Nat)} {v : Value} (h : WithoutR w L v w') (hb : Below w0.heap.size w0 w) : WithoutR w0 L v w' := ⟨ownsRow_base h.1 hb.size, hb.trans (h.2.mono hb.size)⟩
theorem RowN.below {w w' : World} {v : Value} {L : List (Nm × Nat)} (h : RowN w v L) (g : Below w.heap.size w w') : RowN w' v L := by
  rcases h with h | ⟨b, off, c, rfl, hb, hc⟩
  · exact .inl h
  · exact .inr ⟨b, off, c, rfl, Nat.lt_of_lt_of_le hb g.size, fun W hW => hc W (hW.trans (g.block b hb))⟩
theorem RowN.form {w : World} {v : Value} {L : List (Nm × Nat)} (h : RowN w v L) : ∃ p c, v = .slice p L.length c := by
  rcases h with ⟨rfl, p, c, rfl⟩ | ⟨g, off, c, rfl, _⟩
  · exact ⟨p, c, rfl⟩
  · exact ⟨_, c, rfl⟩
theorem cellsFour {w : World} {g : Nat} {a b c d : Value} {T : TypeId} {m : Nat × Nat} (h : w.heap[g]? = some (.cells #[a, b, c, d] T m)) : w.cell? ⟨g, 0, none⟩ = some a ∧ w.cell? ⟨g, 1, none⟩ = some b ∧ w.cell? ⟨g, 2, none⟩ = some c ∧ w.cell? ⟨g, 3, none⟩ = some d := by
  refine ⟨?_, ?_, ?_, ?_⟩ <;> simp [World.cell?, h]
theorem heapLast (w : World) (o : Obj) : (w.alloc o).heap[w.heap.size]? = some o := by show (w.heap.push o)[w.heap.size]? = some o; simp
theorem belowNew (w : World) (o : Obj) : Below w.heap.size w (w.alloc o) := Below.alloc (Below.refl _ w) (Nat.le_refl _) o
/-- What the region of a renaming reads. -/
def DnS (w : World) (a b : Nm) (f : Int) (y : World) : Prop :=
  y.cell? ⟨w.heap.size, 1, none⟩ = some (.string a) ∧ y.cell? ⟨w.heap.size, 2, none⟩ = some (.string b) ∧ y.cell? ⟨w.heap.size, 3, none⟩ = some (.int .i64 f) ∧ Below w.heap.size w y
theorem DnS.then {w y z : World} {a b : Nm} {f : Int} (h : DnS w a b f y) (hb : Below y.heap.size y z) : DnS w a b f z := by
  obtain ⟨h1, h2, h3, h4⟩ := h
  have c : ∀ g j v, y.cell? ⟨g, j, none⟩ = some v → z.cell? ⟨g, j, none⟩ = some v := fun g j v e => by
    rw [← e]; exact World.cell?_of_block (w := y) (hb.block g (World.block_lt_of_cell? y _ e))
  exact ⟨c _ _ _ h1, c _ _ _ h2, c _ _ _ h3, h4.trans (hb.mono h4.size)⟩
set_option maxHeartbeats 2000000 in
set_option maxRecDepth 100000 in
theorem done_any (L : List (Nm × Nat)) (v : Value) (c : Chg) (w : World) (h : RowN w v L) (hl : L.length ≤ 1099511627776) :
    Calls Try.prog 41 #[v, .agg #[.int .i64 c.kind, .string c.a, .string c.b, .int .i64 c.f]] w fun e w' => ∃ u, e = .returned u ∧ WithoutR w (c.sets.foldl nmSet L) u w' := by
  obtain ⟨kd, a, b, f⟩ := c
  have HD := Lib.hid (fun W (g : Below w.heap.size w W) => without_any L v a W (h.below g) hl)
  have HP := Lib.hid (fun W (g : Below w.heap.size w W) => with_any L v a f W (h.below g) hl)
  have HW2 := Lib.hid (fun u W W0 (g : WithoutR W0 (nmDel L a) u W) => with_any (nmDel L a) u b f W (row_names g.1) (Nat.le_trans (length_nmDel_le L a) hl))
  have H1 := Lib.hid (Chg.one (c := ⟨kd, a, b, f⟩))
  have H2 := Lib.hid (Chg.two (c := ⟨kd, a, b, f⟩))
  have H3 := Lib.hid (Chg.more (c := ⟨kd, a, b, f⟩))
  simp only at H1 H2 H3
  generalize hR : (Chg.mk kd a b f).sets.foldl nmSet L = R
  have HR := Lib.hid hR
  clear hR
  obtain ⟨q, cc, rfl⟩ := h.form
  clear h hl
  generalize L.length = n at *
  obtain ⟨d0, d1, d2, d3⟩ := cellsFour (heapLast w (.cells #[.int .i64 kd, .string a, .string b, .int .i64 f] 86))
  have HB := Lib.hid (belowNew w (.cells #[.int .i64 kd, .string a, .string b, .int .i64 f] 86))
  go_enter Try.func41, Try.ntmps41
  by_cases h1 : kd = 1
  · have HE : Hid (R = nmPut L a f) := Lib.hid (by rw [← HR.out]; exact H1.out h1 L)
    have h1' : (kd == 1) = true := by simp [h1]
    clear h1
    go_wp2_with fail
    refine (HP.out _ HB.out).mono ?_
    rintro e w2 ⟨u, rfl, hu⟩
    have HU := Lib.hid (hu.from HB.out)
    clear hu d0 d1 d2 d3
    go_wp2_with fail
    go_ret
    rw [HE.out]
    exact ⟨_, rfl, HU.out⟩
  · have h1' : (kd == 1) = false := by simp [h1]
    by_cases h2 : kd = 2
    · have HE : Hid (R = nmPut (nmDel L a) b f) := Lib.hid (by rw [← HR.out]; exact H2.out h2 L)
      have h2' : (kd == 2) = true := by simp [h2]
      clear h1 h2 H1 H2 H3
      go_wp2_with fail
      generalize w.alloc (.cells #[.int .i64 kd, .string a, .string b, .int .i64 f] 86) = W0 at *
      have hS0 : W0.drew.cell? ⟨w.heap.size, 1, none⟩ = some (.string a) ∧ W0.drew.cell? ⟨w.heap.size, 2, none⟩ = some (.string b) ∧ W0.drew.cell? ⟨w.heap.size, 3, none⟩ = some (.int .i64 f) ∧ Below w.heap.size w W0.drew := ⟨d1, d2, d3, HB.out.drew⟩
      clear d0 d1 d2 d3
      go_region_held3 (fun y => y.cell? ⟨w.heap.size, 1, none⟩ = some (.string a) ∧ y.cell? ⟨w.heap.size, 2, none⟩ = some (.string b) ∧ y.cell? ⟨w.heap.size, 3, none⟩ = some (.int .i64 f) ∧ Below w.heap.size w y) (first | assumption | exact DnS.then (by assumption) hb | go_keep)
        (first
          | (go_at_call 47; refine (HD.out _ HB.out.drew).mono ?_; rintro e w5 ⟨u5, rfl, hu5⟩; have hb := hu5.2)
          | (go_at_call 46; refine (HW2.out _ _ _ hu5).mono ?_; rintro e w6 ⟨u6, rfl, hu6⟩; have hb := hu6.2))
      have HU := Lib.hid (hu6.from (HB.out.drew.trans (hu5.2.mono HB.out.drew.size)))
      clear hu5 hu6
      go_wp2_with fail
      go_ret
      rw [HE.out]
      exact ⟨_, rfl, HU.out⟩
    · have HE : Hid (R = nmDel L a) := Lib.hid (by rw [← HR.out]; exact H3.out h1 h2 L)
      have h2' : (kd == 2) = false := by simp [h2]
      clear h1 h2
      go_wp2_with fail
      refine (HD.out _ HB.out).mono ?_
      rintro e w2 ⟨u, rfl, hu⟩
      have HU := Lib.hid (hu.from HB.out)
      clear hu d0 d1 d2 d3
      go_wp2_with fail
      go_ret
      rw [HE.out]
      exact ⟨_, rfl, HU.out⟩
end Go.Proofs.Ytblhbkhehddccaa
