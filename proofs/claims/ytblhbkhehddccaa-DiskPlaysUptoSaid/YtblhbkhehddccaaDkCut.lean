/- What cutting a file does, and how many bytes a crash leaves. Conditions: those that each theorem names. -/
import Derived.Test.YtblhbkhehddccaaDkPlan
namespace Go.Proofs.Ytblhbkhehddccaa
open Go.RowKit Dk

/-! ### left -/
def IntsAt (w : World) (v : Value) (l : List Int) : Prop :=
  (l = [] ∧ ∃ p c, v = .slice p 0 c) ∨ ∃ g off c, v = .slice (some ⟨g, off, none⟩) l.length c ∧ g < w.heap.size ∧ ∀ W : World, W.heap[g]? = w.heap[g]? → ∀ j (h : j < l.length), W.cell? ⟨g, off + j, none⟩ = some (.int .i64 l[j])
set_option maxHeartbeats 1000000 in
theorem left_any (l : List Int) (v : Value) (j : Nat) (w : World) (h : IntsAt w v l) (hl : l.length ≤ maxLen) (hj : j ≤ maxLen) (hr : ∀ x ∈ l, -9223372036854775808 ≤ x ∧ x ≤ 9223372036854775807) :
    Calls Try.prog 40 #[v, .int .i64 j] w fun e w' => e = .returned (.int .i64 (left l j)) ∧ w = w' := by
  unfold maxLen at hl hj
  rcases h with ⟨rfl, p, c, rfl⟩ | ⟨g, off, c, rfl, hg, hc⟩
  · have e : left [] j = 0 := rfl
    rw [e]
    clear hr e
    go_enter Try.func40, Try.ntmps40
    go_wp2
    go_ret
    exact ⟨rfl, rfl⟩
  · by_cases h0 : l.length = 0
    · have e : left l j = 0 := by simp [left, h0]
      rw [e, h0]
      clear hr e hc
      go_enter Try.func40, Try.ntmps40
      go_wp2
      go_ret
      exact ⟨rfl, rfl⟩
    · have hlt : j % l.length < l.length := Nat.mod_lt _ (by omega)
      have hx := hc w rfl _ hlt
      have e : ((left l j : Nat) : Int) = max l[j % l.length] 0 := by
        simp only [left, if_neg h0, List.getD_eq_getElem?_getD, List.getElem?_eq_getElem hlt, Option.getD_some]
        omega
      obtain ⟨b1, b2⟩ := hr _ (List.getElem_mem hlt)
      rw [e]
      clear hr hc e
      generalize l[j % l.length] = x at hx b1 b2 ⊢
      generalize l.length = n at *
      have hmod : (j : Int).tmod (n : Int) = ((j % n : Nat) : Int) := by rw [Int.tmod_eq_emod_of_nonneg (by omega)]; omega
      have q0 : (0 : Int) ≤ (j : Int) := by omega
      have q1 : (0 : Int) < (n : Int) := by omega
      have hne : ((n : Int) == 0) = false := by simp; omega
      go_enter Try.func40, Try.ntmps40
      go_wp2
      go_ret
      exact ⟨rfl, rfl⟩

/-! ### cut -/
theorem ownsRow_cut {w : World} {p : Option Addr} {n c k : Nat} {e : TypeId} {l : List UInt8} (h : w.ownsRow 0 e 1 (.slice p n c) n (u8s l)) (hk : k ≤ n) : w.ownsRow 0 e 1 (.slice p k c) k (u8s (l.take k)) := by
  have hl : l.length = n := by have := h.1; simpa [u8s] using this
  refine ⟨by simp [u8s]; omega, ?_⟩
  rcases h.2 with ⟨e1, e0⟩ | ⟨g, cap, cur, e1, h1, h2, h3, h4, h5, h6⟩
  · injection e1 with e2 e3 e4
    subst e2 e4
    have : k = 0 := by omega
    subst this
    exact .inl ⟨rfl, rfl⟩
  · injection e1 with e2 e3 e4
    subst e2 e4
    refine .inr ⟨g, _, cur, rfl, h1, h2, by omega, h4, h5, ?_⟩
    have : u8s (l.take k) = (u8s l).take k := by simp [u8s, List.map_take]
    rw [this, ← h6, Nat.mul_one, Nat.mul_one, List.take_take, Nat.min_eq_left hk]
theorem own_p (p : Option Addr) (n c m d : Nat) : (Value.slice p n c).ownBlock = (Value.slice p m d).ownBlock := by cases p <;> rfl
theorem DiskAt.file_cut {w : World} {A : Nat} {D : DSt} {ρ : Nat → Nat × Nat} {fb : List Nat} (h : DiskAt w A D ρ fb) {i B : Nat} {f : FileC} (hf : D.files[i]? = some f) (hB : fb[i]? = some B) {p : Option Addr} {c k : Nat} (hk : k ≤ f.data.length)
    (h1 : w.heap[B]? = some (.cells #[.slice p f.data.length c, .int .i64 f.synced] 77 (0, 0))) (h2 : w.ownsRow 0 5 1 (.slice p f.data.length c) f.data.length (u8s f.data)) (h3 : ∀ g, (Value.slice p f.data.length c).ownBlock = some g → ρ g = (6, i)) :
    Led w A { D with files := D.files.set i (f.cut k) } ρ fb ((w.setCell ⟨B, 0, none⟩ (.slice p k c)).setCell ⟨B, 1, none⟩ (.int .i64 ((min f.synced k : Nat) : Int))).drew.drew := by
  obtain ⟨B', hB', hfa⟩ := h.files.2 i f hf
  rw [hB] at hB'; cases hB'
  have hm := h.ok.synced f (List.mem_of_getElem? hf)
  obtain ⟨Z, hZ⟩ : ∃ Z, Z = ((w.setCell ⟨B, 0, none⟩ (.slice p k c)).setCell ⟨B, 1, none⟩ (.int .i64 ((min f.synced k : Nat) : Int))).drew.drew := ⟨_, rfl⟩
  rw [← hZ]
  have hne : ∀ b, b ≠ B → Z.heap[b]? = w.heap[b]? := fun b hb => by
    rw [hZ]; show (World.setCell _ _ _).heap[b]? = _; rw [heap_setCell_ne hb, heap_setCell_ne hb]
  have hZB : Z.heap[B]? = some (.cells #[.slice p k c, .int .i64 ((min f.synced k : Nat) : Int)] 77 (0, 0)) := by
    rw [hZ]; exact heap_setCell_same _ _ _ _ _ _ (heap_setCell_same _ _ _ _ _ _ h1)
  have hsz : Z.heap.size = w.heap.size := by rw [hZ]; show (World.setCell _ _ _).heap.size = _; simp [World.setCell]
  have hlen : (f.data.take k).length = k := by simp; omega
  refine ⟨ρ, h.file_turn (w' := Z) (f' := f.cut k) hB ⟨by rw [hZ]; rfl, by rw [hZ]; rfl, by rw [hZ]; rfl, by omega, fun b hb hn => hne b (fun e => hn (by rw [e]; exact .inl hfa.1)), fun _ _ => rfl, fun _ _ h => h, fun b hb => h.out b (by omega)⟩
    ⟨hfa.1, .slice p k c, ?_, ?_, fun g hg => h3 g (by rw [own_p p f.data.length c k c]; exact hg)⟩ ⟨Nat.min_le_right _ _, by show (f.data.take k).length ≤ _; omega⟩⟩
  · show _ = some (Obj.cells #[_, .int .i64 ((min f.synced (f.data.take k).length : Nat) : Int)] _ _)
    rw [hlen]; exact hZB
  · show Z.ownsRow 0 _ 1 _ (f.data.take k).length (u8s (f.data.take k))
    rw [hlen]
    refine ownsRow_same (ownsRow_cut h2 hk) (fun g hg => hne g (fun e => ?_))
    have h5 := h3 g (by rw [own_p p f.data.length c k c]; exact hg)
    rw [e, hfa.1] at h5; cases h5
set_option maxHeartbeats 2000000 in
theorem cut_any (A : Nat) (D : DSt) (ρ : Nat → Nat × Nat) (fb : List Nat) (w : World) (h : DiskAt w A D ρ fb) (i B : Nat) (f : FileC) (hf : D.files[i]? = some f) (hB : fb[i]? = some B) (s : Int) (k : Nat) (hk : min (max s 0) (f.data.length : Int) = k) :
    Calls Try.prog 36 #[.pointer (some ⟨B, 0, none⟩), .int .i64 s] w fun e w' => e = .returned (.tuple #[]) ∧ Led w A { D with files := D.files.set i (f.cut k) } ρ fb w' := by
  obtain ⟨B', hB', hfa⟩ := h.files.2 i f hf
  rw [hB] at hB'; cases hB'
  obtain ⟨p, c, h1, h2, h3⟩ := hfa.form
  have hm := h.ok.synced f (List.mem_of_getElem? hf)
  have hkn : k ≤ f.data.length := by omega
  have hnc : f.data.length ≤ c ∧ c ≤ maxLen ∧ (p = none → k = 0 ∧ c = 0) := by
    rcases h2.2 with ⟨e, e0⟩ | ⟨g, cap, cur, e, _, _, h6, h7, _⟩
    · injection e with e1 e2 e3; subst e3; exact ⟨by omega, by decide, fun _ => ⟨by omega, rfl⟩⟩
    · injection e with e1 e2 e3; subst e3; exact ⟨h6, h7, fun h => by rw [h] at e1; cases e1⟩
  have c0 : w.cell? ⟨B, 0, none⟩ = some (.slice p f.data.length c) := by simp [World.cell?, h1]
  have c1 : w.cell? ⟨B, 1, none⟩ = some (.int .i64 f.synced) := by simp [World.cell?, h1]
  have f0 : w.frozen? ⟨B, 0, none⟩ = false := by simp [World.frozen?, h1]
  have f1 : w.frozen? ⟨B, 1, none⟩ = false := by simp [World.frozen?, h1]
  have hms : min (f.synced : Int) (k : Int) = ((min f.synced k : Nat) : Int) := by omega
  have hfin := h.file_cut hf hB hkn h1 h2 h3
  have HFIN := Lib.hid hfin
  clear hfin
  go_enter Try.func36, Try.ntmps36
  have hkc : k ≤ c := Nat.le_trans hkn hnc.1
  have HM := Lib.hid hm
  have HH := Lib.hid h
  have HN := Lib.hid hnc
  have H1 := Lib.hid h1
  clear h hf hB hfa h1 h2 h3 hm hnc
  go_wp2
  go_region
  go_wp2
  go_region
  go_wp2
  go_end0
  exact ⟨rfl, HFIN.out⟩
end Go.Proofs.Ytblhbkhehddccaa
