/- How a crash takes back what was done to names. Conditions: those that each theorem names. -/
import Derived.Test.YtblhbkhehddccaaDkCut
namespace Go.Proofs.Ytblhbkhehddccaa
open Go.RowKit Dk

/-! ### Cut -/
set_option maxHeartbeats 400000 in
theorem fcut_nil (s : ByteArray) (n : Int) (w : World) :
    Calls Try.prog 10 #[.pointer none, .string s, .int .i64 n] w fun e w' => e = .returned (.int .i64 1) ∧ w = w' := by
  go_enter Try.func10, Try.ntmps10
  go_wp2_with (go_at_call 35; refine (stepAt_nil _ _).mono ?_; rintro e w' ⟨rfl, rfl⟩)
  go_ret
  exact ⟨rfl, rfl⟩
set_option maxHeartbeats 400000 in
theorem fcut_empty (A : Nat) (s : ByteArray) (hs : s.toList = []) (n : Int) (w : World) :
    Calls Try.prog 10 #[.pointer (some ⟨A, 0, none⟩), .string s, .int .i64 n] w fun e w' => e = .returned (.int .i64 1) ∧ w = w' := by
  have HS := Lib.hid hs
  clear hs
  go_enter Try.func10, Try.ntmps10
  go_wp2_with (go_at_call 35; refine (stepAt_empty _ _ HS.out _).mono ?_; rintro e w' ⟨rfl, rfl⟩)
  go_ret
  exact ⟨rfl, rfl⟩
set_option maxHeartbeats 400000 in
theorem fcut_none (A : Nat) (D : DSt) (ρ : Nat → Nat × Nat) (fb : List Nat) (w : World) (h : DiskAt w A D ρ fb) (s : ByteArray) (n : Int) (hl : s.size ≤ maxLen) (hs : s.toList.isEmpty = false) (hg : nmGet D.names s = none) :
    Calls Try.prog 10 #[.pointer (some ⟨A, 0, none⟩), .string s, .int .i64 n] w fun e w' => e = .returned (.int .i64 20) ∧ w = w' := by
  have HC := Lib.hid (stepAt_none A D ρ fb w h s hl hs hg)
  clear h hl hs hg
  go_enter Try.func10, Try.ntmps10
  go_wp2_with (go_at_call 35; refine (HC.out).mono ?_; rintro e w' ⟨rfl, rfl⟩)
  go_ret
  exact ⟨rfl, rfl⟩
set_option maxHeartbeats 400000 in
theorem fcut_hit (A : Nat) (D : DSt) (ρ : Nat → Nat × Nat) (fb : List Nat) (w : World) (h : DiskAt w A D ρ fb) (h0 : 0 ≤ D.steps) (h1 : D.steps ≤ 4611686018427387904) (s : ByteArray) (n : Int) (hl : s.size ≤ maxLen) (hs : s.toList.isEmpty = false) (i : Nat) (f : FileC) (hg : nmGet D.names s = some i) (hf : D.files[i]? = some f) (fa fk fn : Int) (hm : D.hit = some (fa, fk, fn)) :
    Calls Try.prog 10 #[.pointer (some ⟨A, 0, none⟩), .string s, .int .i64 n] w fun e w' => e = .returned (.int .i64 (hitErr (fa, fk, fn))) ∧ Led w A D.tick ρ fb w' := by
  obtain ⟨B, hB, _⟩ := h.files.2 i f hf
  have HT := Lib.hid (stepAt_hit A D ρ fb w h h0 h1 s hl hs i B hg hB fa fk fn hm)
  have he : (hitErr (fa, fk, fn) != 0) = true := by unfold hitErr; split <;> decide
  clear h h0 h1 hl hs hg hB hm hf
  go_enter Try.func10, Try.ntmps10
  go_wp2_with (go_at_call 35; refine (HT.out).mono ?_; rintro e w1 ⟨rfl, hD, hf⟩)
  go_ret
  exact ⟨rfl, ρ, hD, hf⟩
set_option maxHeartbeats 400000 in
theorem fcut_miss (A : Nat) (D : DSt) (ρ : Nat → Nat × Nat) (fb : List Nat) (w : World) (h : DiskAt w A D ρ fb) (h0 : 0 ≤ D.steps) (h1 : D.steps ≤ 4611686018427387904) (s : ByteArray) (n : Int) (hl : s.size ≤ maxLen) (hs : s.toList.isEmpty = false) (i : Nat) (f : FileC) (hg : nmGet D.names s = some i) (hf : D.files[i]? = some f) (hm : D.hit = none) (k : Nat) (hk : min (max n 0) (f.data.length : Int) = k) :
    Calls Try.prog 10 #[.pointer (some ⟨A, 0, none⟩), .string s, .int .i64 n] w fun e w' => e = .returned (.int .i64 0) ∧ Led w A { D.tick with files := D.files.set i (f.cut k) } ρ fb w' := by
  obtain ⟨B, hB, _⟩ := h.files.2 i f hf
  have HT := Lib.hid (stepAt_miss A D ρ fb w h h0 h1 s hl hs i B hg hB hm)
  have HFI := Lib.hid hf
  have HB := Lib.hid hB
  have HK := Lib.hid hk
  clear h h0 h1 hl hs hg hB hm hf hk
  go_enter Try.func10, Try.ntmps10
  go_wp2_with fail
  refine (HT.out).mono ?_
  rintro e w1 ⟨rfl, hD, hf⟩
  have HC := Lib.hid (cut_any A D.tick ρ fb w1 hD i B f HFI.out HB.out n k HK.out)
  have HF := Lib.hid hf
  clear hD hf
  go_wp2_with (go_at_call 36; refine (HC.out).mono ?_; rintro e w2 ⟨rfl, hled⟩)
  go_ret
  exact ⟨rfl, let ⟨ρ', h1, h2⟩ := hled; ⟨ρ', h1, HF.out.trans h2⟩⟩

/-! ### undo -/
def undoR (D : DSt) (j : Nat) : DSt := { D with names := (D.opn.drop j).reverse.foldl undoOne D.names }
theorem undoR_succ (D : DSt) (j : Nat) (h : j < D.opn.length) : undoR D j = { undoR D (j + 1) with names := undoOne (undoR D (j + 1)).names D.opn[j] } := by
  simp only [undoR, List.drop_eq_getElem_cons h, List.reverse_cons, List.foldl_append, List.foldl_cons, List.foldl_nil]
theorem undoR_all (D : DSt) (j : Nat) (h : D.opn.length ≤ j) : undoR D j = D := by
  simp [undoR, List.drop_eq_nil_of_le h]
theorem undo_length (D : DSt) : ∀ j, (undoR D j).names.length ≤ D.names.length + (D.opn.drop j).flatten.length := by
  intro j
  have : ∀ (ls : List (List (Nm × Option Nat))) (L : List (Nm × Nat)), (ls.foldl undoOne L).length ≤ L.length + ls.flatten.length := by
    intro ls
    induction ls with
    | nil => intro L; simp
    | cons x r ih =>
      intro L
      have h1 := ih (undoOne L x)
      have h2 := foldl_length x L
      simp only [List.foldl_cons, List.flatten_cons, List.length_append]
      unfold undoOne at *
      omega
  refine Nat.le_trans (this _ _) (Nat.add_le_add_left (Nat.le_of_eq ?_) _)
  simp [List.length_flatten, List.map_reverse, List.sum_reverse]

def InR (wo : World) (A : Nat) (E : DSt) (ρo : Nat → Nat × Nat) (fb : List Nat) (l : List (Nm × Option Nat)) (k : Nat) (wr : World) : Prop := ∃ ρk, DiskAt wr A (part E l k) ρk fb ∧ Fr nmMarks ρo ρk wo wr
theorem link_cells (fb : List Nat) (l : List (Nm × Option Nat)) (k : Nat) (h : k < l.length) : (l.flatMap (linkCells fb))[k * 2]? = some (.string l[k].1) ∧ (l.flatMap (linkCells fb))[k * 2 + 1]? = some (ptrV fb l[k].2) := by
  induction l generalizing k with
  | nil => simp at h
  | cons x r ih =>
    cases k with
    | zero => simp [linkCells]
    | succ k =>
      have := ih k (by simpa using h)
      rw [List.flatMap_cons, List.getElem?_append_right (by simp [linkCells]; omega), List.getElem?_append_right (by simp [linkCells]; omega)]
      simp only [linkCells, List.length_cons, List.length_nil, List.getElem_cons_succ]
      rw [show (k + 1) * 2 - (0 + 1 + 1) = k * 2 by omega, show (k + 1) * 2 + 1 - (0 + 1 + 1) = k * 2 + 1 by omega]
      exact this
theorem ownsRow_cell {w : World} {base n size : Nat} {e : TypeId} {v : Value} {xs : List Value} (h : w.ownsRow base e size v n xs) (hn : 0 < n) : ∃ g c, v = .slice (some ⟨g, 0, none⟩) n c ∧ g < w.heap.size ∧ n ≤ c ∧ c ≤ maxLen ∧ ∀ W : World, W.heap[g]? = w.heap[g]? → ∀ j u, xs[j]? = some u → W.cell? ⟨g, j, none⟩ = some u := by
  rcases h.2 with ⟨_, h0⟩ | ⟨g, cap, cur, he, h0, h1, h2, h3, h4, h5⟩
  · omega
  · refine ⟨g, cap, he, (Array.getElem?_eq_some_iff.1 h1).1, h2, h3, fun W hW j u hu => ?_⟩
    rw [cell_of_row W g j cur _ (0, 0) (hW.trans h1)]
    rw [← h5, List.getElem?_take] at hu
    split at hu
    · simpa using hu
    · cases hu
set_option maxHeartbeats 4000000 in
set_option maxRecDepth 100000 in
theorem undo_any (A : Nat) (D : DSt) (ρ : Nat → Nat × Nat) (fb : List Nat) (w : World) (h : DiskAt w A D ρ fb) (hnm : D.names.length + D.opn.flatten.length ≤ 1099511627776) (hop : D.opn.length ≤ 1099511627776) (keep : Int) (kk : Nat) (hk : max keep 0 = (kk : Int)) :
    Calls Try.prog 39 #[.pointer (some ⟨A, 0, none⟩), .int .i64 keep] w fun e w' => e = .returned (.tuple #[]) ∧ Led w A (D.undo kk) ρ fb w' := by
  have hst : LedN w A (undoR D D.opn.length) ρ fb w := ⟨ρ, by rw [undoR_all D _ (Nat.le_refl _)]; exact h, ⟨rfl, rfl, rfl, Nat.le_refl _, fun _ _ _ => rfl, fun _ _ => rfl, fun _ _ h => h, h.out⟩⟩
  have HST := Lib.hid hst
  obtain ⟨m, op, pl, hA, _, ⟨vs, hO1, _⟩, _⟩ := h.top
  obtain ⟨p0, c0', hopf⟩ := ownsRow_slice hO1
  subst hopf
  have c1 : w.cell? ⟨A, 1, none⟩ = some (.slice p0 D.opn.length c0') := by simp [World.cell?, hA, topCells]
  have HOK := Lib.hid h.ok
  have HUL := Lib.hid (undo_length D)
  clear h hst hA hO1
  go_enter Try.func39, Try.ntmps39
  go_wp2
  go_loopw [4] (fun i wr => ∃ j : Nat, (j ≤ D.opn.length ∧ (kk ≤ j ∨ j = D.opn.length)) ∧ i = .int .i64 ((j : Int) - 1) ∧ LedN w A (undoR D j) ρ fb wr) (fun i _ => (intOf i + 1).toNat)
  case atStart => exact ⟨D.opn.length, ⟨Nat.le_refl _, .inr rfl⟩, by first | rfl | (congr 1; omega), HST.out⟩
  case round =>
    obtain ⟨j, ⟨hj, hkj⟩, rfl, hL⟩ := hrel
    obtain ⟨wo, rfl⟩ : ∃ wo : World, wo = wr := ⟨_, rfl⟩
    by_cases hlt : kk < j
    · obtain ⟨j, rfl⟩ : ∃ j', j = j' + 1 := ⟨j - 1, by omega⟩
      have hji : (((j + 1 : Nat) : Int) - 1) = (j : Int) := by omega
      rw [hji]
      have hjl : j < D.opn.length := by omega
      have t1 : decide ((kk : Int) ≤ (j : Int)) = true := by simp; omega
      have t2 : (kk : Int) ≤ (j : Int) := by omega
      have t0 : (0 : Int) ≤ (j : Int) := by omega
      have t3 : (j : Int) < (D.opn.length : Int) := by omega
      obtain ⟨ρo, hD, hF⟩ := hL
      obtain ⟨m1, op1, pl1, hA1, hN1, ⟨vs1, hO1, hO2, hO3⟩, hP1⟩ := hD.top
      obtain ⟨v, hv, hchg⟩ := hO3 j D.opn[j] (List.getElem?_eq_getElem hjl)
      obtain ⟨go, cc, hop1, hgo, hgc, hgm, hgcell⟩ := ownsRow_cell hO1 (by show 0 < D.opn.length; omega)
      obtain ⟨pv, cv, rfl⟩ := ownsRow_slice hchg.1
      have hop2 : op1 = .slice (some ⟨go, 0, none⟩) D.opn.length cc := hop1
      subst hop2
      have d1 : wo.cell? ⟨A, 1, none⟩ = some (.slice (some ⟨go, 0, none⟩) D.opn.length cc) := by simp [World.cell?, hA1, topCells]
      have d2 : wo.cell? ⟨go, j, none⟩ = some (.slice pv D.opn[j].length cv) := hgcell wo rfl j _ hv
      have HOKJ := Lib.hid hD.ok
      have HIN := Lib.hid (show InR wo A (undoR D (j + 1)) ρo fb D.opn[j] 0 wo from ⟨ρo, hD, ⟨rfl, rfl, rfl, Nat.le_refl _, fun _ _ _ => rfl, fun _ _ => rfl, fun _ _ h => h, hD.out⟩⟩)
      have HFO := Lib.hid hF
      have HCH := Lib.hid hchg
      have hlinks : ∀ x ∈ D.opn[j], linkOk D.files.length x := HOK.out.opened _ (List.getElem_mem hjl)
      have HLK := Lib.hid hlinks
      have hsum : (undoR D (j + 1)).names.length + D.opn[j].length ≤ 1099511627776 := by
        have h1 := HUL.out (j + 1)
        have h2 : (D.opn.drop (j + 1)).flatten.length + D.opn[j].length ≤ D.opn.flatten.length := by
          have h3 : (D.opn.drop j).flatten.length = D.opn[j].length + (D.opn.drop (j + 1)).flatten.length := by rw [List.drop_eq_getElem_cons hjl, List.flatten_cons, List.length_append]
          have h4 : (D.opn.take j).flatten.length + (D.opn.drop j).flatten.length = D.opn.flatten.length := by rw [← List.length_append, ← List.flatten_append, List.take_append_drop]
          omega
        omega
      have HSUC := Lib.hid (undoR_succ D j hjl)
      clear hji hD hF hA1 hN1 hO1 hO2 hO3 hP1 hv hop1 hgcell hlinks hchg hkj hj
      generalize hll : D.opn[j] = ll at *
      have hllen : ll.length ≤ 1099511627776 := by omega
      go_wp2
      go_loopw [27] (fun i wr => ∃ k : Nat, k ≤ ll.length ∧ i = .int .i64 k ∧ InR wo A (undoR D (j + 1)) ρo fb ll k wr) (fun i _ => ll.length - (intOf i).toNat)
      case atStart => exact ⟨0, Nat.zero_le _, rfl, HIN.out⟩
      case round =>
        obtain ⟨k, hk', rfl, hR⟩ := hrel
        by_cases hlt2 : k < ll.length
        · obtain ⟨ρk, hDk, hFk⟩ := hR
          have hch := HCH.out.fr hFk (by simp [nmMarks])
          obtain ⟨gv, cv', hpv, hgv, hgvc, hgvm, hcells⟩ := ownsRow_cell hch.1 (by omega)
          injection hpv with hp1 hp2 hp3
          subst hp1 hp3
          obtain ⟨q0, q1⟩ := link_cells fb ll k hlt2
          have e0 := hcells wr rfl _ _ q0
          have e1 := hcells wr rfl _ _ q1
          have hled := fun o => lead_n A (part (undoR D (j + 1)) ll k) ρk fb (wr.alloc o) (hDk.alloc o) (by have := foldl_length (ll.take k) (undoR D (j + 1)).names; have h2 : (ll.take k).length ≤ k := List.length_take_le _ _; show (List.foldl nmSet (undoR D (j + 1)).names (ll.take k)).length < _; unfold maxLen; omega) ll[k] (HLK.out _ (List.getElem_mem hlt2))
          obtain ⟨q, hq⟩ : ∃ q, ptrV fb ll[k].2 = .pointer q := ⟨_, rfl⟩
          rw [hq] at e1
          simp only [hq] at hled
          have HLED := Lib.hid hled
          have HDK := Lib.hid hDk
          have HFK := Lib.hid hFk
          clear hDk hFk hch q0 q1 hled hq hcells
          go_wp2_with fail
          refine (HLED.out _).mono ?_
          rintro e w2 ⟨rfl, ρ2, hD2, hF2⟩
          have hin : InR wo A (undoR D (j + 1)) ρo fb ll (k + 1) w2 := by
            refine ⟨ρ2, by rw [part_succ _ _ _ hlt2]; exact hD2, ?_⟩
            have hal : Fr nmMarks ρk ρk wr (wr.alloc (.cells #[.string ll[k].1, .pointer q] 79)) := ⟨rfl, rfl, rfl, by simp, fun b hb _ => heap_alloc_lt hb, fun _ _ => rfl, fun _ _ h => h, fun b hb => HDK.out.out b (by simp at hb; omega)⟩
            exact (HFK.out.transS (by simp [nmMarks]) hal).transS (by simp [nmMarks]) hF2
          have HINN := Lib.hid hin
          clear hD2 hF2 hin
          go_wp2
          go_roundw
          case rel => exact ⟨k + 1, by omega, by go_num, HINN.out⟩
          case measure => simp [intOf]; omega
        · obtain rfl : k = ll.length := by omega
          obtain ⟨ρk, hDk, hFk⟩ := hR
          have hnew : LedN w A (undoR D j) ρ fb wr := by
            refine ⟨ρk, ?_, HFO.out.transS (by simp [nmMarks]) hFk⟩
            rw [HSUC.out]
            have e : part (undoR D (j + 1)) ll ll.length = { undoR D (j + 1) with names := undoOne (undoR D (j + 1)).names ll } := by simp [part, undoOne]
            rw [← e]; exact hDk
          have HNEW := Lib.hid hnew
          clear hDk hFk hnew
          go_wp2
          go_roundw
          case rel => exact ⟨j, ⟨by omega, .inl (by omega)⟩, rfl, HNEW.out⟩
          case measure => simp [intOf]
    · have hend : LedN w A (D.undo kk) ρ fb wo := by
        have e : undoR D j = D.undo kk := by
          rcases hkj with h | h
          · have : j = kk := by omega
            subst this; rfl
          · by_cases h2 : kk = j
            · subst h2; rfl
            · rw [undoR_all D j (by omega)]
              have := undoR_all D kk (by omega)
              exact this.symm
        rw [← e]; exact hL
      have t1 : decide ((kk : Int) ≤ (j : Int) - 1) = false := by simp; omega
      have t2 : ¬ (kk : Int) ≤ (j : Int) - 1 := by omega
      have HEND := Lib.hid hend
      clear hL hend
      go_wp2
      go_end0
      exact ⟨rfl, HEND.out.led⟩
end Go.Proofs.Ytblhbkhehddccaa
