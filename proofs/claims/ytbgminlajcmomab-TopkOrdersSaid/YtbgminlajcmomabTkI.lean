/- A Best in memory; New, Len, Full, Worst. Conditions: those that each theorem names. -/
import Derived.Test.YtbgminlajcmomabTkC
import Derived.Test.YtbgminlajcmomabTkH
import Derived.Test.YtbgminlajcmomabMp
import Derived.DeepKeys4
namespace Go.Proofs.Ytbgminlajcmomab
set_option linter.unusedVariables false
open Go Go.RowKit Go.Shelf Go.Sort Go.Maps Tk
/-! ### Hits as keys -/
theorem hit_keyed : Keyed Try.prog 23 := Keyed.of_law (deep_law_laid (m := 5) (by kernel_rfl) (by decide) (of_decide_eq_true (by kernel_rfl)) (by kernel_rfl) (by kernel_rfl))
/-- A hit of numbers of 64 bits. -/
def OkH (x : Ht) : Prop := (Lit.int .i64 x.1).wf = true ∧ (Lit.int .i64 x.2).wf = true
set_option maxRecDepth 100000 in
theorem key_hit (x : Ht) (h : OkH x) : ∃ l, keyOf Try.prog 23 (hv x) = some l := by
  obtain ⟨a, b⟩ := x
  obtain ⟨h1, h2⟩ := h
  simp only at h1 h2
  have hs : 0 < Try.prog.types.size := of_decide_eq_true (by kernel_rfl)
  obtain ⟨d, hd⟩ : ∃ d, Try.prog.types.size + 1 = d + 1 + 1 := ⟨Try.prog.types.size - 1, by omega⟩
  have c1 : Try.prog.cellsOf 3 = 1 := by kernel_rfl
  have c2 : Try.prog.cellsOf 23 = 2 := by kernel_rfl
  have kt : Try.prog.keyType 23 = true := by kernel_rfl
  have hi : ∀ n, (Lit.int .i64 n).wf = true → Try.prog.keyLits (d + 1) 3 [.int .i64 n] = some [.int .i64 n] := fun n hn => by
    rw [Program.keyLits.eq_def]
    simp only [Try.underlying3]
    simp [hn]
  unfold keyOf
  rw [Try.underlying23, hd]
  simp only [kt, Value.formed, Try.underlying23, c2, Bool.true_and]
  rw [if_pos (by rfl), Program.keyLits.eq_def]
  simp only [Try.underlying23]
  simp [Value.cells, c1, c2, hi a h1, hi b h2]
/-! ### A Best in memory -/
structure BestAt (w : World) (base B X M : Nat) (m : Int) (K : Nat) (rv : Value) (R Q : List Ht) : Prop where
  blk : w.heap[B]? = some (.cells #[.int .i64 m, .int .i64 K, .func (.func 28) #[] #[.pointer (some ⟨X, 0, none⟩)], rv, .map (some M)] 54 (0, 0))
  met : w.cell? ⟨X, 0, none⟩ = some (.int .i64 m)
  own : OwnH w base rv R
  map : Mp Try.prog 23 w M (fun y u => u = .agg #[] ∧ ∃ x ∈ Q, y = hv x) Q.length
  ltX : X < w.heap.size
  bB : base ≤ B
  bX : base ≤ X
  bM : base ≤ M
  xB : X ≠ B
  xM : X ≠ M
  mB : M ≠ B
  gX : rv.ownBlock ≠ some X
  ok : ∀ x ∈ R, OkH x
  nd : R.Nodup
  len : R.length ≤ K
  hp : Heap m R
  kn : knownB m = true
  kK : 1 ≤ K
  kM : K ≤ 9223372036854775807
/-- The blocks that a Best's turns may write. -/
def St (B M : Nat) (rv : Value) : Nat → Prop := fun b => b = B ∨ b = M ∨ rv.ownBlock = some b
section
variable {w w' : World} {base B X M : Nat} {m : Int} {K : Nat} {rv : Value} {R Q : List Ht}
theorem BestAt.ltB (h : BestAt w base B X M m K rv R Q) : B < w.heap.size := (Array.getElem?_eq_some_iff.1 h.blk).1
theorem BestAt.ltM (h : BestAt w base B X M m K rv R Q) : M < w.heap.size := h.map.lt
theorem BestAt.gB (h : BestAt w base B X M m K rv R Q) : rv.ownBlock ≠ some B := fun e => by
  rcases h.own.2 with ⟨rfl, _⟩ | ⟨g, cap, cur, rfl, _, hg, _⟩
  · cases e
  · have : g = B := by simpa [Value.ownBlock] using e
    subst this
    rw [h.blk] at hg
    injection hg with hg
    injection hg with _ h2 _
    exact absurd h2 (by decide)
theorem BestAt.gM (h : BestAt w base B X M m K rv R Q) : rv.ownBlock ≠ some M := fun e => by
  rcases h.own.2 with ⟨rfl, _⟩ | ⟨g, cap, cur, rfl, _, hg, _⟩
  · cases e
  · have : g = M := by simpa [Value.ownBlock] using e
    subst this
    obtain ⟨es, clock, hm, _⟩ := h.map
    rw [hm] at hg
    cases hg
theorem own_keep {v : Value} {L : List Ht} {b0 : Nat} (h : OwnH w b0 v L) (k : ∀ g, v.ownBlock = some g → g < w.heap.size → w'.heap[g]? = w.heap[g]?) : OwnH w' b0 v L := by
  rcases h with ⟨l0, l1 | ⟨g', cap', cur, e', hb', hg', r'⟩⟩
  · exact ⟨l0, .inl l1⟩
  · exact ⟨l0, .inr ⟨g', cap', cur, e', hb', by rw [k g' (by rw [e']; rfl) (by
      rcases Nat.lt_or_ge g' w.heap.size with z | z
      · exact z
      · rw [Array.getElem?_eq_none z] at hg'; cases hg')]; exact hg', r'⟩⟩
/-- Kept by all that leaves its blocks as they are. -/
theorem BestAt.kept (h : BestAt w base B X M m K rv R Q) (hs : w.heap.size ≤ w'.heap.size) (k : ∀ b, b < w.heap.size → (St B M rv b ∨ b = X) → w'.heap[b]? = w.heap[b]?) : BestAt w' base B X M m K rv R Q :=
  { h with
    blk := (k B h.ltB (.inl (.inl rfl))).trans h.blk
    met := (World.cell?_of_block (w := w) (a := ⟨X, 0, none⟩) (k X h.ltX (.inr rfl))).trans h.met
    own := own_keep h.own (fun g e hg => k g hg (.inl (.inr (.inr e))))
    map := h.map.kept (k M h.ltM (.inl (.inr (.inl rfl))))
    ltX := Nat.lt_of_lt_of_le h.ltX hs }
theorem BestAt.below (h : BestAt w base B X M m K rv R Q) (g : RowKit.Below w.heap.size w w') : BestAt w' base B X M m K rv R Q := h.kept g.size (fun b hb _ => g.block b hb)
theorem BestAt.cells (h : BestAt w base B X M m K rv R Q) : w.cell? ⟨B, 0, none⟩ = some (.int .i64 m) ∧ w.cell? ⟨B, 1, none⟩ = some (.int .i64 K) ∧ w.cell? ⟨B, 2, none⟩ = some (.func (.func 28) #[] #[.pointer (some ⟨X, 0, none⟩)]) ∧ w.cell? ⟨B, 3, none⟩ = some rv ∧ w.cell? ⟨B, 4, none⟩ = some (.map (some M)) := by
  refine ⟨?_, ?_, ?_, ?_, ?_⟩ <;> rw [Lib.cell_of_heap h.blk] <;> rfl
theorem BestAt.frozen (h : BestAt w base B X M m K rv R Q) (j : Nat) : w.frozen? ⟨B, j, none⟩ = false := by simp [World.frozen?, h.blk]
theorem BestAt.form (h : BestAt w base B X M m K rv R Q) : ∃ p c, rv = .slice p R.length c := (own_hits h.own).form
end
/-! ### New -/
set_option maxHeartbeats 2000000 in
set_option maxRecDepth 100000 in
theorem new_any (m k : Int) (w : World) :
    Calls Try.prog 14 #[.int .i64 m, .int .i64 k] w fun e w' => ((knownB m = true ∧ 1 ≤ k ∧ (k ≤ 9223372036854775807 → ∃ B X M, e = .returned (.pointer (some ⟨B, 0, none⟩)) ∧ BestAt w' w.heap.size B X M m k.toNat (.slice none 0 0) [] [])) ∨ (¬ (knownB m = true ∧ 1 ≤ k) ∧ e = .returned (.pointer none))) ∧ RowKit.Below w.heap.size w w' := by
  have HB := Lib.hid (fresh_alloc w (.cells #[.int .i64 m] 3))
  have HK := Lib.hid (fun W => known_any m W)
  have hz := heap_last w (.cells #[.int .i64 m] 3)
  have hc0 : (w.alloc (.cells #[.int .i64 m] 3)).cell? ⟨w.heap.size, 0, none⟩ = some (.int .i64 m) := by rw [Lib.cell_of_heap hz]; rfl
  have HZ := Lib.hid hz
  have hzz : (w.alloc (.cells #[.int .i64 m] 3)).heap.size = w.heap.size + 1 := by simp
  clear hz
  cases hk : knownB m with
  | false =>
    rw [hk] at HK
    go_enter Try.func14, Try.ntmps14
    go_wp2_with (go_at_call 22; refine (HK.out _).mono ?_; rintro e w1 ⟨rfl, rfl⟩)
    go_ret
    exact ⟨.inr ⟨by simp, rfl⟩, HB.out⟩
  | true =>
    rw [hk] at HK
    by_cases h1 : k < 1
    · go_enter Try.func14, Try.ntmps14
      go_wp2_with (go_at_call 22; refine (HK.out _).mono ?_; rintro e w1 ⟨rfl, rfl⟩)
      go_ret
      exact ⟨.inr ⟨by omega, rfl⟩, HB.out⟩
    · have HKN := Lib.hid hk
      have H1 := Lib.hid h1
      have HZZ := Lib.hid hzz
      have hmm := @run_makeMap Try.prog
      clear hk hzz
      go_enter Try.func14, Try.ntmps14
      go_wp2_with (go_at_call 22; refine (HK.out _).mono ?_; rintro e w1 ⟨rfl, rfl⟩)
      go_ret
      refine ⟨.inl ⟨trivial, by have := H1.out; omega, fun hkm => ⟨w.heap.size + 2, w.heap.size, w.heap.size + 1, by simp, ?_⟩⟩, ?_⟩
      · have hk1 : ((k.toNat : Nat) : Int) = k := by have := H1.out; omega
        generalize hA : w.alloc (.cells #[.int .i64 m] 3) = A at *
        have s1 : (A.alloc (.map #[] 0)).heap.size = w.heap.size + 2 := by simp; exact HZZ.out
        have hmp := Mp.made (P := Try.prog) A 23
        rw [HZZ.out] at hmp
        have hlast := heap_last (A.alloc (.map #[] 0)) (.cells #[.int .i64 m, .int .i64 k, .func (.func 28) #[] #[.pointer (some ⟨w.heap.size, 0, none⟩)], .slice none 0 0, .map (some (w.heap.size + 1))] 54)
        rw [s1] at hlast
        have o1 : ∀ b, b < w.heap.size + 2 → ((A.alloc (.map #[] 0)).alloc (.cells #[.int .i64 m, .int .i64 k, .func (.func 28) #[] #[.pointer (some ⟨w.heap.size, 0, none⟩)], .slice none 0 0, .map (some (w.heap.size + 1))] 54)).heap[b]? = (A.alloc (.map #[] 0)).heap[b]? := fun b hb => heap_old _ _ (by rw [s1]; exact hb)
        have o2 : (A.alloc (.map #[] 0)).heap[w.heap.size]? = A.heap[w.heap.size]? := heap_old _ _ (by rw [HZZ.out]; omega)
        refine { blk := by rw [hk1]; simpa [HZZ.out] using hlast, met := ?_, own := World.ownsRow_nil _ _ _ _, map := ?_, ltX := ?_, bB := by omega, bX := Nat.le_refl _, bM := by omega, xB := by omega, xM := by omega, mB := by omega, gX := by simp [Value.ownBlock], ok := by simp, nd := List.nodup_nil, len := by simp, hp := fun j h0 h1 => by simp at h1, kn := HKN.out, kK := by have := H1.out; omega, kM := by omega }
        · rw [Lib.cell_of_heap ((o1 _ (by omega)).trans (o2.trans HZ.out))]
          rfl
        · have := hmp.kept (w' := (A.alloc (.map #[] 0)).alloc (.cells #[.int .i64 m, .int .i64 k, .func (.func 28) #[] #[.pointer (some ⟨w.heap.size, 0, none⟩)], .slice none 0 0, .map (some (w.heap.size + 1))] 54)) (o1 _ (by omega))
          exact this.congr (fun y u => by simp)
        · simp [HZZ.out]; omega
      · exact (HB.out.alloc (by rw [HZZ.out]; omega) _).alloc (by simp; omega) _
end Go.Proofs.Ytbgminlajcmomab
