/- The walk of WalPlays. Conditions: those that each theorem names. -/
import Derived.Test.YtioidkbpjkcjeaaGreatDoorWlDq
import Derived.Test.YtioidkbpjkcjeaaGreatDoorWlG
namespace Go.Proofs.YtioidkbpjkcjeaaGreatDoor
set_option linter.unusedVariables false
open Go Go.RowKit Dk
namespace Wl
theorem wdeed_cells {w : World} {p : Option Addr} {n c : Nat} {L : List DeedC} (h : DeedsAt w (.slice p n c) L) {j : Nat} (hj : j < L.length) : ∃ g off, p = some ⟨g, off, none⟩ ∧ ∀ W : World, Below w.heap.size w W →
    (W.cell? ⟨g, off + j * 9, none⟩ = some (.int .i64 (L[j]).kind) ∧ W.cell? ⟨g, off + j * 9 + 1, none⟩ = some (.string (L[j]).body) ∧ W.cell? ⟨g, off + j * 9 + 2, none⟩ = some (.int .i64 (L[j]).seq) ∧ W.cell? ⟨g, off + j * 9 + 3, none⟩ = some (.int .i64 (L[j]).step)) ∧
      (W.cell? ⟨g, off + j * 9 + 4, none⟩ = some (.int .i64 (L[j]).flt.1) ∧ W.cell? ⟨g, off + j * 9 + 5, none⟩ = some (.int .i64 (L[j]).flt.2.1) ∧ W.cell? ⟨g, off + j * 9 + 6, none⟩ = some (.int .i64 (L[j]).flt.2.2)) ∧ W.cell? ⟨g, off + j * 9 + 7, none⟩ = some (.int .i64 (L[j]).cn) ∧ W.cell? ⟨g, off + j * 9 + 8, none⟩ = some (L[j]).cv := by
  rcases h with ⟨rfl, _⟩ | ⟨g, off, cp, e, hg, hc⟩
  · cases hj
  · injection e with e1 e2 e3
    refine ⟨g, off, e1, fun W hW => ?_⟩
    have key := hc W (hW.block g hg) j hj
    exact ⟨⟨key 0 _ rfl, key 1 _ rfl, key 2 _ rfl, key 3 _ rfl⟩, ⟨key 4 _ rfl, key 5 _ rfl, key 6 _ rfl⟩, key 7 _ rfl, key 8 _ rfl⟩
theorem wdeeds_form {w : World} {v : Value} {L : List DeedC} (h : DeedsAt w v L) : ∃ p c, v = .slice p L.length c := by
  rcases h with ⟨rfl, p, c, rfl⟩ | ⟨g, off, cp, rfl, _⟩
  · exact ⟨p, c, rfl⟩
  · exact ⟨_, cp, rfl⟩
section
variable {w0 w : World} {A B P k : Nat}
theorem size_any {L : Nat} {sz last : Int} {br : Bool} (h : w.heap[L]? = some (logO A sz last br)) : Calls Tryz.prog 10 #[.pointer (some ⟨L, 0, none⟩)] w fun e w' => e = .returned (.int .i64 sz) ∧ w' = w := by
  obtain ⟨-, -, c2, -, -⟩ := logO_cells h
  clear h
  go_enter Tryz.func10, Tryz.ntmps10
  go_wp2_with fail
  go_ret
  exact ⟨rfl, rfl⟩
theorem broken_any {L : Nat} {sz last : Int} {br : Bool} (h : w.heap[L]? = some (logO A sz last br)) : Calls Tryz.prog 11 #[.pointer (some ⟨L, 0, none⟩)] w fun e w' => e = .returned (.bool br) ∧ w' = w := by
  obtain ⟨-, -, -, -, c4⟩ := logO_cells h
  clear h
  go_enter Tryz.func11, Tryz.ntmps11
  go_wp2_with fail
  go_ret
  exact ⟨rfl, rfl⟩
theorem size_at {L : Nat} {sz last : Int} {br : Bool} (h : w.heap[L]? = some (logO A sz last br)) (n : Nat) : Calls Tryz.prog 10 #[.pointer (some ⟨L, 0, none⟩)] (w.drewN n) fun e w' => e = .returned (.int .i64 sz) ∧ w' = w.drewN n := size_any (w := w.drewN n) h
theorem broken_at {L : Nat} {sz last : Int} {br : Bool} (h : w.heap[L]? = some (logO A sz last br)) (n : Nat) : Calls Tryz.prog 11 #[.pointer (some ⟨L, 0, none⟩)] (w.drewN n) fun e w' => e = .returned (.bool br) ∧ w' = w.drewN n := broken_any (w := w.drewN n) h
theorem PairW.drewN (h : PairW w0 A B P k w) (n : Nat) : PairW w0 A B P k (w.drewN n) := h.others ⟨rfl, rfl, rfl, Nat.le_refl _, fun _ _ => rfl⟩
/-- Both disks read alike. -/
theorem PairW.reads (h : PairW w0 A B P k w) (hk : k ≤ 1048577) : ∃ (x : ByteArray) (e : Int),
    (Calls Tryz.prog 8 #[.pointer (some ⟨A, 0, none⟩), .string nL] w fun o w' => o = .returned (.tuple #[.string x, .int .i64 e]) ∧ w' = w) ∧
    (Calls Tryz.prog 9 #[.pointer (some ⟨B, 0, none⟩), .string nL] w fun o w' => o = .returned (.tuple #[.string x, .int .i64 e]) ∧ w' = w) := by
  have key : ∀ {Y D M φ}, Dk.Twin φ D M → DBd cW k D → MBd cW k M → Two w0 A B Y D M w → ∃ (x : ByteArray) (e : Int),
    (Calls Tryz.prog 8 #[.pointer (some ⟨A, 0, none⟩), .string nL] w fun o w' => o = .returned (.tuple #[.string x, .int .i64 e]) ∧ w' = w) ∧
    (Calls Tryz.prog 9 #[.pointer (some ⟨B, 0, none⟩), .string nL] w fun o w' => o = .returned (.tuple #[.string x, .int .i64 e]) ∧ w' = w) := fun {Y D M φ} tw b bm h =>
    ⟨readD D nL, askD D nL, h.pRead nL (by decide), h.rRead tw (by have := (bd_ok b bm tw hk).2.1; unfold maxLen; omega) nL⟩
  obtain ⟨φ, D, M, tw, b, bm, h0, h | ⟨L, R, sz, last, br, h1, h2, h3, h4, _⟩⟩ := h
  · exact key tw b bm h.2
  · exact key tw b bm h4
/-- What the pair's block holds: no logs, or one each, alike. -/
theorem PairW.pair (h : PairW w0 A B P k w) : (w.cell? ⟨P, 0, none⟩ = some (.pointer (some ⟨A, 0, none⟩)) ∧ w.cell? ⟨P, 1, none⟩ = some (.pointer (some ⟨B, 0, none⟩))) ∧
    (w.cell? ⟨P, 3, none⟩ = some (.pointer none) ∨ ∃ (L R : Nat) (sz last : Int) (br : Bool), w.cell? ⟨P, 2, none⟩ = some (.pointer (some ⟨L, 0, none⟩)) ∧ w.cell? ⟨P, 3, none⟩ = some (.pointer (some ⟨R, 0, none⟩)) ∧ w.heap[L]? = some (logO A sz last br) ∧ w.cell? ⟨R, 3, none⟩ = some (.int .i64 sz) ∧ w.cell? ⟨R, 4, none⟩ = some (.bool br)) := by
  obtain ⟨φ, D, M, tw, b, bm, h0, h | ⟨L, R, sz, last, br, h1, h2, h3, h4, _⟩⟩ := h
  · obtain ⟨c0, c1, c2, c3, c4⟩ := pairO_cells h.1
    exact ⟨⟨c0, c1⟩, .inl c3⟩
  · obtain ⟨c0, c1, c2, c3, c4⟩ := pairO_cells h1
    obtain ⟨-, -, -, d3, d4⟩ := rlogO_cells h3
    exact ⟨⟨c0, c1⟩, .inr ⟨L, R, sz, last, br, c2, c3, h2, d3, d4⟩⟩
/-- Both disks and the pair, new. -/
theorem disks_new (w w1 : World) (h : At w w.heap.size Dk.new w1) :
    DisksW w w.heap.size w1.heap.size (w1.heap.size + 1) 0 ((w1.alloc (.cells #[.slice none 0 0, .slice none 0 0, .slice none 0 0, .slice none 0 0, .slice none 0 0, .int .i64 0] 32)).alloc (.cells #[.pointer (some ⟨w.heap.size, 0, none⟩), .pointer (some ⟨w1.heap.size, 0, none⟩), .pointer none, .pointer none, .int .i64 0] 36)) := by
  have hb := belowNew w1 (.cells #[.slice none 0 0, .slice none 0 0, .slice none 0 0, .slice none 0 0, .slice none 0 0, .int .i64 0] 32)
  have hsz : (w1.alloc (.cells #[.slice none 0 0, .slice none 0 0, .slice none 0 0, .slice none 0 0, .slice none 0 0, .int .i64 0] 32)).heap.size = w1.heap.size + 1 := by show (w1.heap.push _).size = _; simp
  have hsz2 : ∀ o, ((w1.alloc (.cells #[.slice none 0 0, .slice none 0 0, .slice none 0 0, .slice none 0 0, .slice none 0 0, .int .i64 0] 32)).alloc o).heap.size = w1.heap.size + 2 := fun o => by show ((w1.heap.push _).push _).size = _; simp
  have ht : Two w w.heap.size w1.heap.size (fun _ => False) Dk.new ⟨[], [], [], 0, []⟩ (w1.alloc (.cells #[.slice none 0 0, .slice none 0 0, .slice none 0 0, .slice none 0 0, .slice none 0 0, .int .i64 0] 32)) := by
    refine ⟨fun b => b = w1.heap.size, ?_, ?_, fun b hb => ⟨by rw [hb]; exact h.size, fun c => c⟩⟩
    · exact (AtB.of h).add hb (fun b hb => by
        rcases hb with rfl | hb
        · exact .inr ⟨Nat.le_refl _, by rw [hsz]; omega⟩
        · exact hb.elim)
    · refine ⟨_, _, _, _, _, [], heapLast w1 _, World.ownsRow_nil _ _ _ _, .inl ⟨rfl, none, 0, rfl⟩, .inl ⟨rfl, none, 0, rfl⟩, .inl ⟨rfl, none, 0, rfl⟩, rfl, .inl ⟨rfl, none, 0, rfl⟩, fun v hv g hg => ?_, fun g hg => (by cases hg), rfl, fun b hb => by rw [hb, hsz]; omega⟩
      rcases hv with rfl | rfl | rfl | rfl <;> cases hg
  refine ⟨id, Dk.new, ⟨[], [], [], 0, []⟩, .pointer none, .pointer none, 0, Twin.new, ⟨Nat.zero_le _, Nat.zero_le _, by decide, by decide, fun f hf => (by cases hf), fun f hf => (by cases hf)⟩, ⟨Nat.zero_le _, fun f hf => (by cases hf), Nat.zero_le _⟩, by have := h.size; omega, ?_, ?_⟩
  · have := heap_alloc_new (w1.alloc (.cells #[.slice none 0 0, .slice none 0 0, .slice none 0 0, .slice none 0 0, .slice none 0 0, .int .i64 0] 32)) (.cells #[.pointer (some ⟨w.heap.size, 0, none⟩), .pointer (some ⟨w1.heap.size, 0, none⟩), .pointer none, .pointer none, .int .i64 0] 36)
    rw [hsz] at this
    exact this
  · refine ht.add (belowNew _ _) (fun b hb => .inr ?_)
    subst hb
    exact ⟨by rw [hsz]; exact Nat.le_refl _, by rw [hsz2]; omega⟩
end
set_option maxHeartbeats 4000000 in
set_option maxRecDepth 100000 in
theorem plays_walk (v0 : Value) (l0 : List DeedC) (w : World) (i0 : DeedsAt w v0 l0) (j0 : ∀ y ∈ l0, DeedIn w y) (n0 : l0.length ≤ 1048576) (m0 : ∀ y ∈ l0, y.body.size ≤ 1048576) (G : Hd w) :
    Calls Tryz.prog 3 #[v0] w fun e w' => e = .returned (.bool true) ∧ Below w.heap.size w w' := by
  obtain ⟨p, c, rfl⟩ := wdeeds_form i0
  have HI := Lib.hid i0
  have HJ := Lib.hid j0
  have HMM := Lib.hid m0
  have HG := Lib.hid G
  obtain ⟨N, hN⟩ : ∃ N, N = l0.length := ⟨_, rfl⟩
  rw [← hN] at HI n0 ⊢
  have HNN := Lib.hid hN
  have hnm : N ≤ maxLen := by unfold maxLen; omega
  have HNM := Lib.hid hnm
  clear i0 j0 m0 n0 hN hnm G
  go_enter Tryz.func3, Tryz.ntmps3
  go_wp2_with fail
  refine (at_new w).mono ?_
  rintro e w1 ⟨rfl, h1⟩
  have HB0 := Lib.hid (disks_new w w1 h1)
  have HSZ : Hid ((w1.alloc (.cells #[.slice none 0 0, .slice none 0 0, .slice none 0 0, .slice none 0 0, .slice none 0 0, .int .i64 0] 32)).heap.size = w1.heap.size + 1) := Lib.hid (by show (w1.heap.push _).size = _; simp)
  clear h1
  have hcell := HB0.out.cells
  clear HSZ
  go_wp2_with fail
  generalize (w1.alloc (.cells #[.slice none 0 0, .slice none 0 0, .slice none 0 0, .slice none 0 0, .slice none 0 0, .int .i64 0] 32)).alloc (.cells #[.pointer (some ⟨w.heap.size, 0, none⟩), .pointer (some ⟨w1.heap.size, 0, none⟩), .pointer none, .pointer none, .int .i64 0] 36) = W1 at *
  generalize w1.heap.size = B at *
  obtain ⟨P, hP⟩ : ∃ P, B + 1 = P := ⟨_, rfl⟩
  rw [hP] at HB0 ⊢
  clear hP
  refine (awake_yes _).mono ?_
  rintro e w2 ⟨rfl, b2⟩
  have HB2 := Lib.hid (pair_open (HB0.out.others b2) (by decide) HG.out)
  clear b2 hcell HB0
  go_wp2_with fail
  refine HB2.out.mono ?_
  rintro e w3 ⟨rfl, h3⟩
  have H3 := Lib.hid h3
  clear h3 HB2
  go_wp2_with fail
  go_loopw [4] (fun i wr => ∃ j : Nat, j ≤ N ∧ j ≤ 200 ∧ i = .int .i64 j ∧ PairW w w.heap.size B P (0 + 4 + 5 * j) wr) (fun i _ => N - (intOf i).toNat)
  case atStart => exact ⟨0, Nat.zero_le _, Nat.zero_le _, rfl, H3.out⟩
  case round =>
    obtain ⟨j, hj, hj5, rfl, hb⟩ := hrel
    have HQ := Lib.hid hb
    obtain ⟨wq, rfl⟩ : ∃ wq : World, wq = wr := ⟨_, rfl⟩
    clear hb
    by_cases hin : j < N ∧ j < 200
    · as_aux_lemma =>
      obtain ⟨hlt, h50⟩ := hin
      have hjl : j < l0.length := by rw [← HNN.out]; exact hlt
      obtain ⟨g, off, rfl, hc⟩ := wdeed_cells HI.out hjl
      obtain ⟨⟨c0, c1, c2, c3⟩, ⟨c4, c5, c6⟩, c7, c8⟩ := hc wq HQ.out.below
      have hk : 0 + 4 + 5 * j + 5 ≤ 1048577 := by omega
      have HD := Lib.hid (wdo_any HQ.out hk HG.out l0[j] (HJ.out _ (List.getElem_mem hjl)) (HMM.out _ (List.getElem_mem hjl)))
      have HK := Lib.hid hk
      have hwn := wrapNext HNM.out hlt
      have hjj : (j : Int) < 200 := by omega
      generalize l0[j] = x at *
      obtain ⟨kd, s, sq, st, ⟨fs, fk, fn⟩, cn, cv, cl⟩ := x
      unfold DeedC.value at HD
      simp only at c0 c1 c2 c3 c4 c5 c6 c7 c8 HD
      clear hc hjl hk
      go_wp2_with fail
      refine HD.out.mono ?_
      rintro e w4 ⟨rfl, h4⟩
      have H4 := Lib.hid h4
      obtain ⟨x, ex, r1, r2⟩ := h4.reads HK.out
      have R1 := Lib.hid r1
      have R2 := Lib.hid r2
      obtain ⟨⟨p0, p1⟩, p2⟩ := h4.pair
      have PP := Lib.hid p2
      have hxx : (x.toList == x.toList) = true := by simp
      have hex : (ex != ex) = false := by simp
      clear h4 r1 r2 p2 HD c0 c1 c2 c3 c4 c5 c6 c7 c8
      go_wp2_with fail
      refine R1.out.mono ?_
      rintro e w5 ⟨rfl, rfl⟩
      go_wp2_with fail
      refine R2.out.mono ?_
      rintro e w5 ⟨rfl, rfl⟩
      go_wp2_with fail
      have h45 : 0 + 4 + 5 * j + 5 = 0 + 4 + 5 * (j + 1) := by omega
      have h4' := H4.out
      rw [h45] at h4'
      have H5 := Lib.hid h4'.drewN
      clear h45 h4'
      clear hxx hex H4 HQ R1 R2
      rcases PP.out with c3 | ⟨L, R, sz, last, br, c2, c3, hl, d3, d4⟩
      · go_quiet (fail)
        go_wp2_with fail
        go_roundw
        case rel => exact ⟨j + 1, by omega, by omega, by first | rfl | go_num, H5.out _⟩
        case measure => show N - ((j : Int) + 1).toNat < N - ((j : Int)).toNat; exact measLess hlt
      · have HS := Lib.hid (fun n => size_at hl n)
        have HBR := Lib.hid (fun n => broken_at hl n)
        have hs1 : (sz != sz) = false := by simp
        have hs2 : (br != br) = false := by simp
        clear hl
        go_quiet (first | (go_at_call 10; refine Calls.quiet_of_same (HS.out _)) | (go_at_call 11; refine Calls.quiet_of_same (HBR.out _)))
        go_wp2_with fail
        go_roundw
        case rel => exact ⟨j + 1, by omega, by omega, by first | rfl | go_num, H5.out _⟩
        case measure => show N - ((j : Int) + 1).toNat < N - ((j : Int)).toNat; exact measLess hlt
    · have hout : (j = N) ∨ (decide ((j : Int) < (N : Int)) = true ∧ decide ((j : Int) < 200) = false) := by
        by_cases h : j = N
        · exact .inl h
        · exact .inr ⟨decide_eq_true (by omega), decide_eq_false (by omega)⟩
      have HF := Lib.hid HQ.out.below
      clear hin HQ
      rcases hout with rfl | ⟨d1, e2⟩
      all_goals
        go_wp2_with fail
        all_goals
          go_ret
          exact ⟨rfl, HF.out⟩
end Wl
end Go.Proofs.YtioidkbpjkcjeaaGreatDoor
