/- scalar's encode and decode. Conditions: those that each theorem names. -/
import Derived.Test.YtfgmkdghpdpdkaaScB
import Derived.Test.YtfgmkdghpdpdkaaTx
import Derived.Test.YtfgmkdghpdpdkaaPlOh
namespace Go.Proofs.Ytfgmkdghpdpdkaa
set_option linter.unusedVariables false
open Go Go.RowKit Vc Rk
namespace Sc
def encU (b : UInt8) : List Value := [.int .u8 (b.toNat : Int)]
theorem infoU : (Try.prog.info? 5).map (fun i => (i.zero, i.size, i.bytes)) = some (some (.int .u8 0), 1, 1) := by kernel_rfl
theorem flatU : Flat Try.prog encU 1 5 68 1 :=
  ⟨Try.underlying68, info_of infoU rfl, by decide, fun _ => rfl, fun x u hu => by
    simp only [encU, List.mem_cons, List.not_mem_nil, or_false] at hu
    subst hu; rfl⟩
def encI (n : Int) : List Value := [.int .i64 n]
theorem flatI : Flat Try.prog encI 1 3 23 8 :=
  ⟨Try.underlying23, info_of infoI rfl, by decide, fun _ => rfl, fun x u hu => by
    simp only [encI, List.mem_cons, List.not_mem_nil, or_false] at hu
    subst hu; rfl⟩
abbrev OwnU (w : World) (base : Nat) (v : Value) (L : List UInt8) : Prop := Rk.Own encU 1 5 w base v L
abbrev OwnN (w : World) (base : Nat) (v : Value) (L : List Int) : Prop := Rk.Own encI 1 3 w base v L
theorem ownN_own {w : World} {base : Nat} {v : Value} {L : List Int} (h : OwnN w base v L) : Go.Proofs.Ytfgmkdghpdpdkaa.Own w base v L := by
  have e : rowC encI L = ints L := by
    clear h; unfold rowC ints encI
    induction L with
    | nil => rfl
    | cons x r ih => rw [List.flatMap_cons, ih]; rfl
  show World.ownsRow _ _ _ _ _ _ _
  rw [← e]; exact h
theorem own_ownN {w : World} {base : Nat} {v : Value} {L : List Int} (h : Go.Proofs.Ytfgmkdghpdpdkaa.Own w base v L) : OwnN w base v L := by
  have e : rowC encI L = ints L := by
    clear h; unfold rowC ints encI
    induction L with
    | nil => rfl
    | cons x r ih => rw [List.flatMap_cons, ih]; rfl
  show World.ownsRow _ _ _ _ _ _ _
  rw [e]; exact h
theorem make_bytes (n : Nat) (hn : n ≤ 64) (w : World) (base : Nat) (hb : base ≤ w.heap.size) :
    ∃ o, (Instr.makeSlice 68 (.int .i64 (n : Int)) (.int .i64 (n : Int))).run Try.prog w = .ok (.slice (some ⟨w.heap.size, 0, none⟩) n n) (w.alloc o) ∧ OwnU (w.alloc o) base (.slice (some ⟨w.heap.size, 0, none⟩) n n) (List.replicate n 0) := by
  obtain ⟨i0, hi, hz0, hz1, hz2⟩ := info_parts infoU
  exact Rk.make_own flatU i0 _ hi hz0 hz1 hz2 0 rfl n (by omega) (by unfold maxLen; omega) w base hb
theorem make_ints (n : Nat) (hn : n ≤ 64) (w : World) (base : Nat) (hb : base ≤ w.heap.size) :
    ∃ o, (Instr.makeSlice 23 (.int .i64 (n : Int)) (.int .i64 (n : Int))).run Try.prog w = .ok (.slice (some ⟨w.heap.size, 0, none⟩) n n) (w.alloc o) ∧ OwnN (w.alloc o) base (.slice (some ⟨w.heap.size, 0, none⟩) n n) (List.replicate n 0) := by
  obtain ⟨i0, hi, hz0, hz1, hz2⟩ := info_parts infoI
  exact Rk.make_own flatI i0 _ hi hz0 hz1 hz2 0 rfl n (by omega) (by unfold maxLen; omega) w base hb
theorem put_byte {w : World} {base B n c : Nat} {S : List UInt8} (h : OwnU w base (.slice (some ⟨B, 0, none⟩) n c) S) (k : Nat) (hk : k < S.length) :
    (∃ y : UInt8, w.cell? ⟨B, k, none⟩ = some (.int .u8 (y.toNat : Int)) ∧ w.frozen? ⟨B, k, none⟩ = false) ∧
    ∀ s : UInt8, OwnU (w.setCell ⟨B, k, none⟩ (.int .u8 (s.toNat : Int))) base (.slice (some ⟨B, 0, none⟩) n c) (S.set k s) := by
  have k0 := Rk.own_cell flatU h k hk (i := 0) (u := .int .u8 (S[k].toNat : Int)) rfl
  have k1 := fun s => Rk.own_put flatU h k hk s
  rw [Nat.mul_one] at k0 k1
  exact ⟨⟨S[k], k0⟩, fun s => k1 s⟩
theorem put_int {w : World} {base B n c : Nat} {S : List Int} (h : OwnN w base (.slice (some ⟨B, 0, none⟩) n c) S) (k : Nat) (hk : k < S.length) :
    (∃ y : Int, w.cell? ⟨B, k, none⟩ = some (.int .i64 y) ∧ w.frozen? ⟨B, k, none⟩ = false) ∧
    ∀ s : Int, OwnN (w.setCell ⟨B, k, none⟩ (.int .i64 s)) base (.slice (some ⟨B, 0, none⟩) n c) (S.set k s) := by
  have k0 := Rk.own_cell flatI h k hk (i := 0) (u := .int .i64 S[k]) rfl
  have k1 := fun s => Rk.own_put flatI h k hk s
  rw [Nat.mul_one] at k0 k1
  exact ⟨⟨S[k], k0⟩, fun s => k1 s⟩
/-- A row of bytes of one's own, as a text. -/
theorem own_text {w : World} {base B n c : Nat} {L : List UInt8} (h : OwnU w base (.slice (some ⟨B, 0, none⟩) n c) L) (hn : L.length = n) :
    (convert 68 9 (.slice (some ⟨B, 0, none⟩) n c)).run Try.prog w = .ok (.string (tx L)) w := by
  have := run_convert_bytes_back (P := Try.prog) w 68 9 5 ⟨B, 0, none⟩ c L Try.underlying68 Try.underlying5 Try.underlying9 (fun i hi => by
    have ha : (⟨B, 0, none⟩ : Addr).add i = ⟨B, i, none⟩ := by unfold Addr.add; split <;> simp_all
    have := (Rk.own_cell flatU h i hi (i := 0) (u := .int .u8 (L[i].toNat : Int)) rfl).1
    rw [Nat.mul_one, Nat.add_zero] at this
    rw [ha, this])
  rw [hn] at this
  exact this
/-- A row of spans' cells, in every world that keeps it. -/
theorem spans_cells {w : World} {v : Value} {S : List Sp} (h : RowAt encS 2 w v S) (h0 : 0 < S.length) : ∃ b off c, v = .slice (some ⟨b, off, none⟩) S.length c ∧ b < w.heap.size ∧
    ∀ wr, Below w.heap.size w wr → ∀ k s, S[k]? = some s → wr.cell? ⟨b, off + k * 2, none⟩ = some (.int .i64 s.1) ∧ wr.cell? ⟨b, off + k * 2 + 1, none⟩ = some (.int .i64 s.2) := by
  rcases h with ⟨e, _⟩ | ⟨b, off, c, e, hb, hc⟩
  · subst e; simp at h0
  · refine ⟨b, off, c, e, hb, fun wr hw k s hs => ?_⟩
    obtain ⟨hk, rfl⟩ := List.getElem?_eq_some_iff.1 hs
    exact ⟨hc wr (hw.block b hb) k hk 0 _ rfl, hc wr (hw.block b hb) k hk 1 _ rfl⟩
set_option maxHeartbeats 4000000 in
set_option maxRecDepth 100000 in
theorem encode_any (S : List Sp) (L : List Int) (u v : Value) (w : World) (hu : RowAt encS 2 w u S) (hv : IntsAt w v L) (hl : S.length = L.length) (h1 : 1 ≤ S.length) (h64 : S.length ≤ 64) (hS : ∀ s ∈ S, OkS s) (hL : ∀ x ∈ L, -32768 ≤ x ∧ x ≤ 32767) :
    Calls Try.prog 27 #[u, v] w fun e w' => e = .returned (.string (tx (encL S L))) ∧ Below w.heap.size w w' := by
  obtain ⟨g1, o1, c1, rfl, hg1, hc1⟩ := spans_cells hu h1
  obtain ⟨g2, o2, c2, rfl, hg2, hc2⟩ := at_cells hv (by omega)
  obtain ⟨R, hR⟩ : ∃ R, R = encL S L := ⟨_, rfl⟩
  have hat : ∀ k, k < S.length → ∃ (s : Sp) (x : Int), S[k]? = some s ∧ OkS s ∧ (-32768 ≤ x ∧ x ≤ 32767) ∧ R[k]? = some (codeU s x) ∧ ((codeU s x).toNat : Int) = codeI s x ∧
      ∀ wr, Below w.heap.size w wr → (wr.cell? ⟨g1, o1 + k * 2, none⟩ = some (.int .i64 s.1) ∧ wr.cell? ⟨g1, o1 + k * 2 + 1, none⟩ = some (.int .i64 s.2)) ∧ wr.cell? ⟨g2, o2 + k, none⟩ = some (.int .i64 x) := fun k hk => by
    have hs : S[k]? = some S[k] := List.getElem?_eq_getElem hk
    have hx : L[k]? = some (L[k]'(by omega)) := List.getElem?_eq_getElem (by omega)
    refine ⟨S[k], L[k]'(by omega), hs, hS _ (List.getElem_mem _), hL _ (List.getElem_mem _), by rw [hR]; exact enc_at hs hx, codeU_is (hS _ (List.getElem_mem _)) _, fun wr hw => ⟨hc1 wr hw k _ hs, hc2 wr hw k (by omega)⟩⟩
  have HAT := Lib.hid hat
  have HRL : Hid (R.length = S.length) := Lib.hid (by rw [hR, enc_len hl])
  obtain ⟨o, hmk, hl0⟩ := make_bytes S.length h64 w w.heap.size (Nat.le_refl _)
  have HMK := Lib.hid hmk
  have HL0 := Lib.hid hl0
  have HB1 : Hid (Below w.heap.size w (w.alloc o)) := Lib.hid (fresh_alloc _ _)
  have H64 := Lib.hid h64
  have HG1 := Lib.hid hg1
  have HG2 := Lib.hid hg2
  rw [← hR]
  clear hu hv hc1 hc2 hat hmk hl0 hR hS hL h1 hg1 hg2
  rw [hl] at *
  generalize L.length = n at *
  clear hl
  go_enter Try.func27, Try.ntmps27
  go_wp2_with fail
  rw [HMK.out]
  go_wp2_with fail
  have HBL : Hid (w.heap.size < (w.alloc o).heap.size) := Lib.hid (by simp)
  generalize w.alloc o = W1 at *
  clear HMK
  go_loopw [13] (fun i wr => ∃ k : Nat, k ≤ n ∧ i = .int .i64 k ∧ Below w.heap.size w wr ∧ W1.heap.size ≤ wr.heap.size ∧ OwnU wr w.heap.size (.slice (some ⟨w.heap.size, 0, none⟩) n n) (R.take k ++ List.replicate (n - k) 0)) (fun i _ => n - (intOf i).toNat)
  case atStart => exact ⟨0, Nat.zero_le _, rfl, HB1.out, Nat.le_refl _, by simpa using HL0.out⟩
  case round =>
    obtain ⟨k, hk, rfl, hbw, hsz, how⟩ := hrel
    obtain ⟨wo, rfl⟩ : ∃ wo : World, wo = wr := ⟨_, rfl⟩
    have HBW := Lib.hid hbw
    have HSZ := Lib.hid hsz
    have HOW := Lib.hid how
    by_cases hlt : k < n
    · obtain ⟨s, x, hs, hok, hx, hRk, hcu, hcells⟩ := HAT.out k hlt
      obtain ⟨⟨y1, y2⟩, y3⟩ := hcells wo hbw
      have HCE := Lib.hid hcells
      have HRK := Lib.hid hRk
      have HC := Lib.hid (fun W => code_any s x W hok hx)
      rw [← hcu] at HC
      generalize codeU s x = cu at *
      obtain ⟨lo, hi⟩ := s
      simp only at y1 y2
      have hs0 : w.heap.size < wo.heap.size := Nat.lt_of_lt_of_le HBL.out hsz
      have HSS := Lib.hid hs0
      clear hcells hRk hcu hok hx hs hbw hsz how hs0
      go_upto_region 5 with fail
      obtain ⟨z0, z1⟩ := sp_box wo (lo, hi)
      have hbo : Below w.heap.size w (wo.alloc (spO (lo, hi))) := HBW.out.alloc HBW.out.size _
      have y3 := (HCE.out _ hbo).2
      have ho1 := own_below HOW.out (fresh_alloc wo (spO (lo, hi)))
      have HBO := Lib.hid hbo
      have HO1 := Lib.hid ho1
      have HSK : Hid (∀ W, Below (wo.alloc (spO (lo, hi))).heap.size (wo.alloc (spO (lo, hi))) W → (W.cell? ⟨wo.heap.size, 0, none⟩ = some (.int .i64 lo) ∧ W.cell? ⟨wo.heap.size, 1, none⟩ = some (.int .i64 hi)) ∧ W.cell? ⟨g2, o2 + k, none⟩ = some (.int .i64 x)) := Lib.hid (fun W hW => by
        have h := (hW.block wo.heap.size (by simp)).trans (heap_last wo (spO (lo, hi)))
        exact ⟨⟨by rw [Lib.cell_of_heap h]; rfl, by rw [Lib.cell_of_heap h]; rfl⟩, (HCE.out W (HBO.out.trans (hW.mono HBO.out.size))).2⟩)
      have HKN := Lib.hid hk
      have HSZ1 : Hid (W1.heap.size ≤ (wo.alloc (spO (lo, hi))).heap.size) := Lib.hid (by have := HSZ.out; simp; omega)
      clear hbo ho1 y1 y2
      rw [show Obj.cells #[Value.int IntKind.i64 lo, Value.int IntKind.i64 hi] 72 = spO (lo, hi) from rfl]
      generalize wo.alloc (spO (lo, hi)) = w1 at *
      go_wp2_with fail
      refine wp_region_L 9 (fun X => (X.cell? ⟨wo.heap.size, 0, none⟩ = some (.int .i64 lo) ∧ X.cell? ⟨wo.heap.size, 1, none⟩ = some (.int .i64 hi)) ∧ X.cell? ⟨g2, o2 + k, none⟩ = some (.int .i64 x)) (by kernel_rfl) ⟨⟨z0, z1⟩, y3⟩ fun hSS => ?_
      refine L_take' (i := 0) (v := ?vv0) rfl (by kernel_rfl) (by kernel_rfl) (by kernel_rfl) (by kernel_rfl) (fun _ _ _ h => h) (Or.inl ⟨by rfl, ?hy0⟩) (by assumption) ?rest0
      case hy0 =>
        intro wy hSx
        obtain ⟨⟨q0, q1⟩, q2⟩ := hSx
        go_simp
        all_goals with_reducible rfl
      try simp only [Act.put, List.setIfInBounds_toArray, List.set_cons_zero, List.set_cons_succ]
      refine L_take' (i := 1) (v := ?vv1) rfl (by kernel_rfl) (by kernel_rfl) (by kernel_rfl) (by kernel_rfl) (fun _ _ _ h => h) (Or.inl ⟨by rfl, ?hy1⟩) (by assumption) ?rest1
      case hy1 =>
        intro wy hSx
        obtain ⟨⟨q0, q1⟩, q2⟩ := hSx
        go_simp
        all_goals with_reducible rfl
      try simp only [Act.put, List.setIfInBounds_toArray, List.set_cons_zero, List.set_cons_succ]
      refine L_take' (i := 2) (v := ?vv2) rfl (by kernel_rfl) (by kernel_rfl) (by kernel_rfl) (by kernel_rfl) (fun _ _ _ h => h) (Or.inl ⟨by rfl, ?hy2⟩) (by assumption) ?rest2
      case hy2 =>
        intro wy hSx
        obtain ⟨⟨q0, q1⟩, q2⟩ := hSx
        go_simp
        all_goals with_reducible rfl
      try simp only [Act.put, List.setIfInBounds_toArray, List.set_cons_zero, List.set_cons_succ]
      refine L_take' (i := 3) (v := ?vv3) rfl (by kernel_rfl) (by kernel_rfl) (by kernel_rfl) (by kernel_rfl) (fun _ _ _ h => h) (Or.inl ⟨by rfl, ?hy3⟩) (by assumption) ?rest3
      case hy3 =>
        intro wy hSx
        obtain ⟨⟨q0, q1⟩, q2⟩ := hSx
        go_simp
        all_goals with_reducible rfl
      try simp only [Act.put, List.setIfInBounds_toArray, List.set_cons_zero, List.set_cons_succ]
      refine L_take' (i := 4) (v := ?vv4) rfl (by kernel_rfl) (by kernel_rfl) (by kernel_rfl) (by kernel_rfl) (fun _ _ _ h => h) (Or.inl ⟨by rfl, ?hy4⟩) (by assumption) ?rest4
      case hy4 =>
        intro wy hSx
        obtain ⟨⟨q0, q1⟩, q2⟩ := hSx
        go_simp
        all_goals with_reducible rfl
      try simp only [Act.put, List.setIfInBounds_toArray, List.set_cons_zero, List.set_cons_succ]
      refine L_take' (i := 5) (v := ?vv5) rfl (by kernel_rfl) (by kernel_rfl) (by kernel_rfl) (by kernel_rfl) (fun _ _ _ h => h) (Or.inl ⟨by rfl, ?hy5⟩) (by assumption) ?rest5
      case hy5 =>
        intro wy hSx
        obtain ⟨⟨q0, q1⟩, q2⟩ := hSx
        go_simp
        all_goals with_reducible rfl
      try simp only [Act.put, List.setIfInBounds_toArray, List.set_cons_zero, List.set_cons_succ]
      refine L_take' (i := 6) (v := ?vv6) rfl (by kernel_rfl) (by kernel_rfl) (by kernel_rfl) (by kernel_rfl) (fun _ _ _ h => h) (Or.inl ⟨by rfl, ?hy6⟩) (by assumption) ?rest6
      case hy6 =>
        intro wy hSx
        obtain ⟨⟨q0, q1⟩, q2⟩ := hSx
        go_simp
        all_goals with_reducible rfl
      try simp only [Act.put, List.setIfInBounds_toArray, List.set_cons_zero, List.set_cons_succ]
      refine L_one' (i := 7) rfl (by kernel_rfl) fun K hK => ?_
      go_simp
      refine (HC.out _).mono ?_
      rintro e w5 ⟨rfl, hb5⟩
      have hd5 : Below w1.heap.size w1 w5 := (Below.refl _ w1).drew.trans hb5
      have ho5 := own_below HO1.out hd5
      have S5 := HSK.out w5 hd5
      have hb5' := HBO.out.trans (hd5.mono HBO.out.size)
      obtain ⟨⟨y, p0, f0⟩, hput⟩ := put_byte ho5 k (by rw [fill_len HKN.out HRL.out]; exact hlt)
      have h5 := hput cu
      rw [fill_set hlt HRL.out HRK.out] at h5
      have HPUT := Lib.hid h5
      have HB5 := Lib.hid hb5'
      have HZ5 : Hid (W1.heap.size ≤ w5.heap.size) := Lib.hid (Nat.le_trans HSZ1.out hd5.size)
      clear hput h5 hb5 hb5' hd5 ho5
      dsimp only
      refine hK _ _ (fun _ => S5) ?_
      clear K hK
      try simp only [Act.put, List.setIfInBounds_toArray, List.set_cons_zero, List.set_cons_succ]
      refine L_one' (i := 8) rfl (by kernel_rfl) fun K hK => ?_
      go_simp
      refine hK _ _ (fun _ => S5) ?_
      clear K hK
      try simp only [Act.put, List.setIfInBounds_toArray, List.set_cons_zero, List.set_cons_succ]
      refine L_one' (i := 9) rfl (by kernel_rfl) fun K hK => ?_
      go_simp
      refine hK _ _ (fun h => absurd rfl h) ?_
      clear K hK
      try simp only [Act.put, List.setIfInBounds_toArray, List.set_cons_zero, List.set_cons_succ]
      refine L_done (by kernel_rfl) ?_ _
      go_wp2_with fail
      go_roundw
      case rel => exact ⟨k + 1, by omega, by first | rfl | go_num, HB5.out.setCell (p := ⟨w.heap.size, k, none⟩) (Nat.le_refl _) _, by simpa using HZ5.out, HPUT.out⟩
      case measure => simp only [intOf]; omega
    · obtain rfl : k = n := by omega
      rw [fill_all HRL.out] at how
      have hcv := own_text how HRL.out
      clear how
      go_wp2_with fail
      go_ret
      exact ⟨rfl, HBW.out⟩
end Sc
end Go.Proofs.Ytfgmkdghpdpdkaa
