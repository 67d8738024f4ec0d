/- The bytes of records that follow one another, as the law joins them. Conditions: those that each theorem names. -/
import Derived.Test.YtmfoihalganggaaWlPl2
import Derived.Test.YtmfoihalganggaaWlG
import Derived.Test.YtmfoihalganggaaWlArgs
import Derived.Test.YtmfoihalganggaaByt
namespace Go.Proofs.Ytmfoihalganggaa
set_option linter.unusedVariables false
open Go Go.RowKit Wl
theorem strC (s : ByteArray) : Lib.strCells s = u8s s.data.toList := by
  simp [Lib.strCells, u8s]
/-- The bytes so far, the ends so far. -/
def JR (w0 : World) (o e : Value) (F : List UInt8) (E : List Int) (wr : World) : Prop :=
  wr.ownsRow 0 5 1 o F.length (u8s F) ∧ Own wr w0.heap.size e E ∧ (∀ g, o.ownBlock = some g → w0.heap.size ≤ g ∧ e.ownBlock ≠ some g) ∧ Below w0.heap.size w0 wr
theorem JR.below {w0 wr w' : World} {o e : Value} {F : List UInt8} {E : List Int} (h : JR w0 o e F E wr) (hb : Below wr.heap.size wr w') : JR w0 o e F E w' := by
  obtain ⟨h1, h2, h3, h4⟩ := h
  exact ⟨ownsRow_kept h1 hb, own_below h2 hb, h3, h4.trans (hb.mono h4.size)⟩
where
  ownsRow_kept {w w' : World} {base n size : Nat} {e : TypeId} {v : Value} {xs : List Value} (h : w.ownsRow base e size v n xs) (hb : Below w.heap.size w w') : w'.ownsRow base e size v n xs := by
    refine ⟨h.1, ?_⟩
    rcases h.2 with h0 | ⟨g, cap, cur, rfl, h1, hg, h2⟩
    · exact .inl h0
    · have hlt : g < w.heap.size := by
        rcases Nat.lt_or_ge g w.heap.size with c | c
        · exact c
        · rw [Array.getElem?_eq_none c] at hg; cases hg
      exact .inr ⟨g, cap, cur, rfl, h1, (hb.block g hlt).trans hg, h2⟩
theorem JR.form {w0 wr : World} {o e : Value} {F : List UInt8} {E : List Int} (h : JR w0 o e F E wr) : (∃ p c, o = .slice p F.length c) ∧ ∃ p c, e = .slice p E.length c := by
  refine ⟨?_, h.2.1.at.form⟩
  rcases h.1.2 with ⟨rfl, h0⟩ | ⟨g, cap, cur, rfl, _⟩
  · exact ⟨none, 0, by rw [h0]⟩
  · exact ⟨_, _, rfl⟩
/-- A text behind the bytes. -/
theorem JR.text {w0 wr : World} {o e : Value} {F : List UInt8} {E : List Int} (h : JR w0 o e F E wr) (s : ByteArray) (hs : F.length + s.size ≤ 200000000000000) :
    ∃ o' w1, (∀ ty, (Builtin.append_ #[42, 9] ty #[o, .string s]).run Try.prog wr = .ok o' w1) ∧ JR w0 o' e (F ++ s.data.toList) E w1 := by
  obtain ⟨h1, h2, h3, h4⟩ := h
  obtain ⟨i0, hi, hz0, hz1, hz2⟩ := info_parts Try.infoU8
  have key : ∀ ty, ∃ p c w', (Builtin.append_ #[42, 9] ty #[o, .string s]).run Try.prog wr = .ok (.slice p (F.length + s.size) c) w' ∧ w'.ownsRow 0 5 1 (.slice p (F.length + s.size) c) (F.length + s.size) (u8s F ++ Lib.strCells s) ∧ wr.grownBy w' o.ownBlock ∧
      (∀ g, (Value.slice p (F.length + s.size) c).ownBlock = some g → o.ownBlock = some g ∨ wr.heap.size ≤ g) := fun ty =>
    run_append_string wr 42 9 ty 5 i0 Try.underlying42 Try.underlying9 hi hz0 hz1 hz2 o F.length (u8s F) h1 s hs
  obtain ⟨p, c, w1, hr, ho, hg, hw⟩ := key 0
  refine ⟨_, w1, fun ty => hr, ?_, ?_, ?_, ?_⟩
  · rw [strC] at ho
    have e1 : (F ++ s.data.toList).length = F.length + s.size := by rw [List.length_append, ln]
    have e2 : u8s (F ++ s.data.toList) = u8s F ++ u8s s.data.toList := by simp [u8s]
    rw [e1, e2]; exact ho
  · exact World.ownsRow.kept h2 hg (by
      by_cases hn : e.ownBlock = none
      · exact .inl hn
      · refine .inr fun c => ?_
        cases ho : o.ownBlock with
        | none => exact hn (c.trans ho)
        | some g => exact (h3 g ho).2 (c.trans ho))
  · intro g hg'
    rcases hw g hg' with h | h
    · exact h3 g h
    · refine ⟨Nat.le_trans h4.size h, fun c => ?_⟩
      have := (h2.block g c).2
      omega
  · exact h4.grown hg h4.size (fun k hk => (h3 k hk).1)
/-- A number behind the ends: it lies in a new block. -/
theorem JR.num {w0 wr : World} {o e : Value} {F : List UInt8} {E : List Int} (h : JR w0 o e F E wr) (x : Int) (hs : (E.length + 1) * 8 ≤ 140737488355328) :
    ∃ e' w1, (∀ ty, (Builtin.append_ #[38, 38] ty #[e, .slice (some ⟨wr.heap.size, 0, none⟩) 1 1]).run Try.prog (wr.alloc (.cells #[.int .i64 x] 3)) = .ok e' w1) ∧ JR w0 o e' F (E ++ [x]) w1 := by
  obtain ⟨h1, h2, h3, h4⟩ := h.below (below_new wr (.cells #[.int .i64 x] 3))
  obtain ⟨_, g2, g3, _⟩ := h
  obtain ⟨i0, hi, hz0, hz1, hz2⟩ := info_parts infoI
  have hc := cell_one_new wr (.int .i64 x) 3
  have hsz : (wr.alloc (.cells #[.int .i64 x] 3)).heap.size = wr.heap.size + 1 := by simp
  generalize wr.alloc (.cells #[.int .i64 x] 3) = W at *
  obtain ⟨e', w1, hr, k2, k3, _, k5⟩ := run_append_own_at (P := Try.prog) W w0.heap.size 38 38 3 i0 _ 1 8 Try.underlying38 hi hz0 hz1 hz2 rfl (by decide) e E.length (ints E) h2 ⟨wr.heap.size, 0, none⟩ 1 1 [.int .i64 x] rfl hc
    (fun u hu => by simp at hu; subst hu; rfl) (by unfold maxLen; omega) hs h4.size
  have e2 : ints (E ++ [x]) = ints E ++ [.int .i64 x] := by simp [ints]
  refine ⟨e', w1, fun _ => hr, ?_, ?_, ?_, ?_⟩
  · exact World.ownsRow.kept h1 k3 (by
      cases ho : o.ownBlock with
      | none => exact .inl rfl
      | some g => exact .inr fun c => (h3 g ho).2 c.symm)
  · show w1.ownsRow _ _ _ _ _ _
    rw [e2, List.length_append]; exact k2
  · intro g hg
    refine ⟨(h3 g hg).1, fun c => ?_⟩
    rcases k5 with k | k
    · exact (h3 g hg).2 (k ▸ c)
    · rw [k] at c
      injection c with c
      have := (h1.lt g hg).2
      omega
  · exact h4.grown k3 h4.size (fun k hk => (h2.block k hk).1)
end Go.Proofs.Ytmfoihalganggaa
