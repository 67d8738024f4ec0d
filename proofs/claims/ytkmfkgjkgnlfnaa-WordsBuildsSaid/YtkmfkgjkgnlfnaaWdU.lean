/- The law's sure: what must come whatever the input is. Conditions: none. -/
import Derived.Test.YtkmfkgjkgnlfnaaWdT
namespace Go.Proofs.Ytkmfkgjkgnlfnaa
set_option linter.unusedVariables false
namespace Wd
open Go Go.RowKit Go.Shelf Go.Sort Go.Maps Pq Pq.Pl Rk Ids
def tCity : ByteArray := ⟨#[99, 105, 116, 121]⟩
def tUlm : ByteArray := ⟨#[85, 108, 109]⟩
def tBonn : ByteArray := ⟨#[66, 111, 110, 110]⟩
def tRome : ByteArray := ⟨#[82, 111, 109, 101]⟩
abbrev wordV (t : ByteArray) : Val := ⟨2, 0, t⟩
abbrev cityF (t : ByteArray) : List Fld := [⟨tCity, wordV t⟩]
set_option maxHeartbeats 1000000 in
set_option maxRecDepth 100000 in
theorem word_any (t : ByteArray) (w : World) : Calls Try.prog 38 #[.string t] w fun e w' => e = .returned (vv (wordV t)) ∧ Below w.heap.size w w' := by
  have HB := Lib.hid (Rk.fresh_alloc w (vobj (wordV t)))
  obtain ⟨d0, d1, d2⟩ := cells3_of (Pq.heap_last w (vobj (wordV t)))
  go_enter Try.func38, Try.ntmps38
  go_wp2_with fail
  refine bodyPost_ret (v := vv (wordV t)) (by simp [results, Try.results38, go_sem, d0, d1, d2]) rfl ?_
  exact ⟨rfl, HB.out⟩
set_option maxHeartbeats 1000000 in
set_option maxRecDepth 100000 in
theorem city_any (i : Int) (t : ByteArray) (w : World) : Calls Try.prog 37 #[.int .i64 i, .string t] w fun e w' => ∃ g, e = .returned (.agg #[.int .i64 i, .slice none 0 0, .slice (some ⟨g, 0, none⟩) 1 1]) ∧ FldsAt w' (.slice (some ⟨g, 0, none⟩) 1 1) (cityF t) ∧ Below w.heap.size w w' := by
  have HW := Lib.hid (word_any t)
  have HZ : Hid ((w.alloc zP).heap[w.heap.size]? = some zP ∧ (w.alloc zP).heap.size = w.heap.size + 1 ∧ Below w.heap.size w (w.alloc zP)) := Lib.hid ⟨Pq.heap_last w _, by simp, Rk.fresh_alloc w _⟩
  go_enter Try.func37, Try.ntmps37
  go_wp2_with fail
  refine (HW.out _).mono ?_
  rintro e w2 ⟨rfl, hb2⟩
  obtain ⟨z0, z1, z2⟩ := HZ.out
  have b2 : Below w.heap.size w w2 := z2.trans (hb2.mono (by change _ ≤ (w.alloc zP).heap.size; omega))
  have hs2 : w.heap.size < w2.heap.size := by have := hb2.size; change (w.alloc zP).heap.size ≤ _ at this; omega
  have x2 : w2.heap[w.heap.size]? = some zP := (hb2.block w.heap.size (by change w.heap.size < (w.alloc zP).heap.size; omega)).trans z0
  have x3 : (w2.alloc (.cells #[.string ⟨#[99, 105, 116, 121]⟩, .int .i64 2, .int .i64 0, .string t] 35)).heap[w.heap.size]? = some zP := (Pq.heap_old w2 _ hs2).trans x2
  have b3 : Below w.heap.size w (w2.alloc (.cells #[.string ⟨#[99, 105, 116, 121]⟩, .int .i64 2, .int .i64 0, .string t] 35)) := b2.trans ((Rk.fresh_alloc w2 _).mono b2.size)
  have hf3 : (w2.alloc (.cells #[.string ⟨#[99, 105, 116, 121]⟩, .int .i64 2, .int .i64 0, .string t] 35)).heap[w2.heap.size]? = some (.cells #[.string ⟨#[99, 105, 116, 121]⟩, .int .i64 2, .int .i64 0, .string t] 35) := Pq.heap_last _ _
  obtain ⟨d0, d1, d2⟩ := cells3_of x3
  have k0 : (w2.alloc (.cells #[.string ⟨#[99, 105, 116, 121]⟩, .int .i64 2, .int .i64 0, .string t] 35)).frozen? ⟨w.heap.size, 0, none⟩ = false := Lib.frozen_of_heap x3 0
  have k1 : (w2.alloc (.cells #[.string ⟨#[99, 105, 116, 121]⟩, .int .i64 2, .int .i64 0, .string t] 35)).frozen? ⟨w.heap.size, 1, none⟩ = false := Lib.frozen_of_heap x3 1
  have k2 : (w2.alloc (.cells #[.string ⟨#[99, 105, 116, 121]⟩, .int .i64 2, .int .i64 0, .string t] 35)).frozen? ⟨w.heap.size, 2, none⟩ = false := Lib.frozen_of_heap x3 2
  have hW : ∃ WF, WF = (((w2.setCell ⟨w.heap.size, 0, none⟩ (.int .i64 i)).setCell ⟨w.heap.size, 1, none⟩ (.slice none 0 0)).setCell ⟨w.heap.size, 2, none⟩ (.slice (some ⟨w2.heap.size, 0, none⟩) 1 1)).alloc (.cells #[.string ⟨#[99, 105, 116, 121]⟩, .int .i64 2, .int .i64 0, .string t] 35) ∧ (WF.cell? ⟨w.heap.size, 0, none⟩ = some (.int .i64 i) ∧ WF.cell? ⟨w.heap.size, 1, none⟩ = some (.slice none 0 0) ∧ WF.cell? ⟨w.heap.size, 2, none⟩ = some (.slice (some ⟨w2.heap.size, 0, none⟩) 1 1)) ∧ Below w.heap.size w WF ∧ FldsAt WF (.slice (some ⟨w2.heap.size, 0, none⟩) 1 1) (cityF t) := by
    have x4 := setCell_at (k := 2) (setCell_at (k := 1) (setCell_at (k := 0) x2 (.int .i64 i)) (.slice none 0 0)) (.slice (some ⟨w2.heap.size, 0, none⟩) 1 1)
    obtain ⟨_, eb⟩ := set3 x2 b2 (Nat.le_refl _) (.int .i64 i) (.slice none 0 0) (.slice (some ⟨w2.heap.size, 0, none⟩) 1 1)
    have hss : (((w2.setCell ⟨w.heap.size, 0, none⟩ (.int .i64 i)).setCell ⟨w.heap.size, 1, none⟩ (.slice none 0 0)).setCell ⟨w.heap.size, 2, none⟩ (.slice (some ⟨w2.heap.size, 0, none⟩) 1 1)).heap.size = w2.heap.size := by simp
    generalize (((w2.setCell ⟨w.heap.size, 0, none⟩ (.int .i64 i)).setCell ⟨w.heap.size, 1, none⟩ (.slice none 0 0)).setCell ⟨w.heap.size, 2, none⟩ (.slice (some ⟨w2.heap.size, 0, none⟩) 1 1)) = S at *
    have x5 : (S.alloc (.cells #[.string ⟨#[99, 105, 116, 121]⟩, .int .i64 2, .int .i64 0, .string t] 35)).heap[w2.heap.size]? = some (.cells #[.string ⟨#[99, 105, 116, 121]⟩, .int .i64 2, .int .i64 0, .string t] 35) := by rw [← hss]; exact Pq.heap_last _ _
    refine ⟨_, rfl, cells3_of ((Pq.heap_old S _ (by omega)).trans x4), eb.trans ((Rk.fresh_alloc S _).mono eb.size), .inr ⟨w2.heap.size, 0, 1, rfl, by simp; omega, fun W hW j hj => ?_⟩⟩
    obtain rfl : j = 0 := by simpa using hj
    have hx := hW.trans x5
    exact ⟨by rw [Lib.cell_of_heap hx]; rfl, by rw [Lib.cell_of_heap hx]; rfl, by rw [Lib.cell_of_heap hx]; rfl, by rw [Lib.cell_of_heap hx]; rfl⟩
  obtain ⟨y0, y1, y2⟩ := cells3_of x2
  have j0 : w2.frozen? ⟨w.heap.size, 0, none⟩ = false := Lib.frozen_of_heap x2 0
  have j1 : w2.frozen? ⟨w.heap.size, 1, none⟩ = false := Lib.frozen_of_heap x2 1
  have j2 : w2.frozen? ⟨w.heap.size, 2, none⟩ = false := Lib.frozen_of_heap x2 2
  have hne : ¬ w.heap.size = w2.heap.size := by omega
  have hne' : ¬ w2.heap.size = w.heap.size := by omega
  have HWF := Lib.hid hW
  clear hW hf3 b3 x3 x2 b2 hb2 z0 z1 z2
  go_wp2_with fail
  obtain ⟨WF, eW, ⟨e0, e1, e2⟩, hbw, hfw⟩ := HWF.out
  rw [← eW]
  refine bodyPost_ret (v := .agg #[.int .i64 i, .slice none 0 0, .slice (some ⟨w2.heap.size, 0, none⟩) 1 1]) (by simp [results, Try.results37, go_sem, e0, e1, e2]) rfl ?_
  exact ⟨w2.heap.size, rfl, hfw, hbw⟩
/-- A row laid as a literal. -/
theorem row_lit {α : Type} {P : Program} {enc : α → List Value} {k T ST b : Nat} (F : Flat P enc k T ST b) {w : World} {g : Nat} {L : List α} {m : Nat × Nat} (hg : w.heap[g]? = some (.cells (rowC enc L).toArray T m)) (c : Nat) : RowAt enc k w (.slice (some ⟨g, 0, none⟩) L.length c) L :=
  .inr ⟨g, 0, c, rfl, Rk.lt_of_block hg, fun W hW j hj i u hu => by
    have hi : i < k := by rw [← F.len L[j]]; exact (List.getElem?_eq_some_iff.1 hu).1
    rw [Nat.zero_add, Lib.cell_of_heap (hW.trans hg), ← hu, ← rowC_at F L j hj i hi]
    simp⟩
def P0 : List Pt := [⟨1, [], cityF tUlm⟩, ⟨2, [], cityF tBonn⟩, ⟨3, [], []⟩, ⟨4, [], cityF tUlm⟩, ⟨1, [], []⟩]
theorem p0_find1 : findL (rowsL (rlOf P0 tCity)) (wordV tUlm) = [4] := by decide +kernel
theorem p0_find2 : findL (rowsL (rlOf P0 tCity)) (wordV tRome) = [] := by decide +kernel
theorem p0_any : anyL (rowsL (rlOf P0 tCity)) = [2, 4] := by decide +kernel
theorem p0_vals : valsL ltV (rowsL (rlOf P0 tCity)) = [wordV tBonn, wordV tUlm] := by decide +kernel
theorem okv_word (t : ByteArray) (h : t.size ≤ Room) : OkV (wordV t) := ⟨show (Lit.int .i64 2).wf = true by decide, show (Lit.int .i64 0).wf = true by decide, h⟩
theorem p0_ok : ∀ p ∈ P0, OkP p := by
  have room : ∀ t : ByteArray, t.size ≤ 4 → t.size ≤ Room := fun t h => by unfold Room; omega
  have hf : ∀ t : ByteArray, t.size ≤ 4 → FldsOk (cityF t) ∧ ∀ f ∈ cityF t, OkV f.val := fun t h => ⟨⟨by show 1 ≤ _; unfold Room; omega, fun x hx => by
    simp at hx; subst hx; exact ⟨room tCity (by decide), room _ h⟩⟩, fun f hf => by simp at hf; subst hf; exact okv_word t (room t h)⟩
  have h0 : FldsOk [] ∧ ∀ f ∈ ([] : List Fld), OkV f.val := ⟨⟨Nat.zero_le _, fun x hx => by cases hx⟩, fun f hf => by cases hf⟩
  intro p hp
  simp only [P0, List.mem_cons, List.not_mem_nil, or_false] at hp
  rcases hp with rfl | rfl | rfl | rfl | rfl
  · exact ⟨by decide, (hf tUlm (by decide)).1, (hf tUlm (by decide)).2⟩
  · exact ⟨by decide, (hf tBonn (by decide)).1, (hf tBonn (by decide)).2⟩
  · exact ⟨by decide, h0.1, h0.2⟩
  · exact ⟨by decide, (hf tUlm (by decide)).1, (hf tUlm (by decide)).2⟩
  · exact ⟨by decide, h0.1, h0.2⟩
set_option maxHeartbeats 8000000 in
set_option maxRecDepth 100000 in
theorem sure_any (w : World) : Calls Try.prog 19 #[] w fun e w' => e = .returned (.bool true) ∧ Below w.heap.size w w' := by
  have HCI := Lib.hid (fun i t W => city_any i t W)
  have HWO := Lib.hid (fun t W => word_any t W)
  go_enter Try.func19, Try.ntmps19
  go_wp2_with fail
  refine (HCI.out _ _ _).mono ?_
  rintro e w1 ⟨g1, rfl, f1, b1⟩
  have F1 := Lib.hid f1
  have B1 := Lib.hid b1
  clear f1 b1
  go_wp2_with fail
  refine (HCI.out _ _ _).mono ?_
  rintro e w2 ⟨g2, rfl, f2, b2⟩
  have F2 := Lib.hid f2
  have B2 := Lib.hid b2
  clear f2 b2
  go_wp2_with fail
  refine (HCI.out _ _ _).mono ?_
  rintro e w3 ⟨g3, rfl, f3, b3⟩
  obtain ⟨W4, hW4⟩ : ∃ W4, W4 = w3.alloc (.cells (rowC encP [⟨1, ⟨none, 0, 0⟩, ⟨some ⟨g1, 0, none⟩, 1, 1⟩⟩, ⟨2, ⟨none, 0, 0⟩, ⟨some ⟨g2, 0, none⟩, 1, 1⟩⟩, ⟨3, ⟨none, 0, 0⟩, ⟨none, 0, 0⟩⟩, ⟨4, ⟨none, 0, 0⟩, ⟨some ⟨g3, 0, none⟩, 1, 1⟩⟩, ⟨1, ⟨none, 0, 0⟩, ⟨none, 0, 0⟩⟩]).toArray 33) := ⟨_, rfl⟩
  have b4 : Below w3.heap.size w3 W4 := by rw [hW4]; exact Rk.fresh_alloc _ _
  have hpts : PtsAt W4 (.slice (some ⟨w3.heap.size, 0, none⟩) 5 5) P0 := by
    refine ⟨_, row_lit flatP (L := [⟨1, ⟨none, 0, 0⟩, ⟨some ⟨g1, 0, none⟩, 1, 1⟩⟩, ⟨2, ⟨none, 0, 0⟩, ⟨some ⟨g2, 0, none⟩, 1, 1⟩⟩, ⟨3, ⟨none, 0, 0⟩, ⟨none, 0, 0⟩⟩, ⟨4, ⟨none, 0, 0⟩, ⟨some ⟨g3, 0, none⟩, 1, 1⟩⟩, ⟨1, ⟨none, 0, 0⟩, ⟨none, 0, 0⟩⟩]) (by rw [hW4]; exact Rk.heap_last _ _) 5, rfl, ?_⟩
    have n0 : VecsAt W4 (.slice none 0 0) [] := .inl ⟨rfl, none, 0, rfl⟩
    have m0 : FldsAt W4 (.slice none 0 0) [] := .inl ⟨rfl, none, 0, rfl⟩
    have q3 := f3.below b4
    have b34 : Below w2.heap.size w2 W4 := b3.trans (b4.mono b3.size)
    have q2 := F2.out.below b34
    have q1 := F1.out.below (B2.out.trans (b34.mono B2.out.size))
    intro j hj hj'
    match j, hj with
    | 0, _ => exact ⟨rfl, n0, q1⟩
    | 1, _ => exact ⟨rfl, n0, q2⟩
    | 2, _ => exact ⟨rfl, n0, m0⟩
    | 3, _ => exact ⟨rfl, n0, q3⟩
    | 4, _ => exact ⟨rfl, n0, m0⟩
  have B4 : Hid (Below w.heap.size w W4) := Lib.hid (B1.out.trans ((B2.out.trans ((b3.trans (b4.mono b3.size)).mono B2.out.size)).mono B1.out.size))
  have HBU := Lib.hid (build_any P0 _ tCity W4 hpts (by decide) p0_ok)
  have hW4' : w3.alloc (.cells #[.int .i64 1, .slice none 0 0, .slice (some ⟨g1, 0, none⟩) 1 1, .int .i64 2, .slice none 0 0, .slice (some ⟨g2, 0, none⟩) 1 1, .int .i64 3, .slice none 0 0, .slice none 0 0, .int .i64 4, .slice none 0 0, .slice (some ⟨g3, 0, none⟩) 1 1, .int .i64 1, .slice none 0 0, .slice none 0 0] 33) = W4 := hW4.symm
  clear hpts f3 b3 b4 hW4 F1 F2 B1 B2
  go_wp2_with fail
  refine HBU.out.mono ?_
  rintro e w5 ⟨B, R, rfl, hix, hR, b5⟩
  have hsm := same_rows (lt := ltV) ordV hR
  have B5 : Hid (Below w.heap.size w w5) := Lib.hid (B4.out.trans (b5.mono B4.out.size))
  have HFD : Hid (∀ (v : Val) (hv : OkV v) (W : World), Below w5.heap.size w5 W → Calls Try.prog 11 #[.pointer (some ⟨B, 0, none⟩), vv v] W fun e w' => ∃ u, e = .returned u ∧ Go.Proofs.Ytkmfkgjkgnlfnaa.Own w' W.heap.size u (findL (rowsL (rlOf P0 tCity)) v) ∧ Below W.heap.size W w') := Lib.hid (fun v hv W hW => by
    have := find_any (hix.below hW) v hv
    rwa [hsm.1 v] at this)
  have HAN : Hid (∀ (W : World), Below w5.heap.size w5 W → Calls Try.prog 13 #[.pointer (some ⟨B, 0, none⟩)] W fun e w' => ∃ u, e = .returned u ∧ Go.Proofs.Ytkmfkgjkgnlfnaa.Own w' W.heap.size u [2, 4] ∧ Below W.heap.size W w') := Lib.hid (fun W hW => by
    have := any_any (hix.below hW)
    rwa [hsm.2.1, p0_any] at this)
  have HLE : Hid (∀ (W : World), Below w5.heap.size w5 W → Calls Try.prog 18 #[.pointer (some ⟨B, 0, none⟩)] W fun e w' => e = .returned (.int .i64 2) ∧ Below W.heap.size W w') := Lib.hid (fun W hW => by
    have := len_any (hix.below hW)
    rwa [hsm.2.1, p0_any] at this)
  have HVA : Hid (∀ (W : World), Below w5.heap.size w5 W → Calls Try.prog 16 #[.pointer (some ⟨B, 0, none⟩)] W fun e w' => ∃ u, e = .returned u ∧ OwnV w' W.heap.size u [wordV tBonn, wordV tUlm] ∧ Below W.heap.size W w') := Lib.hid (fun W hW => by
    have := values_any (hix.below hW)
    rwa [hsm.2.2, p0_vals] at this)
  have HID := Lib.hid (fun (L : List Int) u v W hu hv hl => ids_any L L u v W hu hv hl hl)
  have HSA : Hid (∀ (u v : Value) (W : World), RowAt encV 3 W u [wordV tBonn, wordV tUlm] → RowAt encV 3 W v [wordV tBonn, wordV tUlm] → Calls Try.prog 15 #[u, v] W fun e w' => e = .returned (.bool true) ∧ Below W.heap.size W w') := Lib.hid (fun u v W hu hv => (rsame_any [wordV tBonn, wordV tUlm] [wordV tBonn, wordV tUlm] u v W hu hv (by decide)).mono fun e w' h => ⟨h.1.trans (congrArg (fun b => Ending.returned (.bool b)) (decide_eq_true rfl)), h.2⟩)
  clear hix hR hsm b5 HBU hW4'
  -- Find(Ulm)
  go_wp2_with fail
  refine (HWO.out _ _).mono ?_
  rintro e w6 ⟨rfl, b6⟩
  have B6 := Lib.hid b6
  clear b6
  go_wp2_with fail
  refine (HFD.out (wordV tUlm) (okv_word _ (by unfold Room; decide)) _ B6.out).mono ?_
  rintro e w7 ⟨u7, rfl, o7, b7⟩
  rw [p0_find1] at o7
  have B7 := Lib.hid (B6.out.trans (b7.mono B6.out.size))
  have HI := Lib.hid (HID.out [4] u7 _ (w7.alloc (.cells #[.int .i64 4] 3)) (Go.Proofs.Ytkmfkgjkgnlfnaa.own_below o7 (Rk.fresh_alloc _ _)).at (one_int w7 4) (by decide))
  rw [show eqB [4] [4] = true from rfl] at HI
  clear o7 b7
  go_wp2_with fail
  refine HI.out.mono ?_
  rintro e w8 ⟨rfl, b8⟩
  have B8 := Lib.hid (B7.out.trans (((Rk.fresh_alloc w7 _).trans (b8.mono (by simp))).mono B7.out.size))
  clear b8 HI
  -- Any
  go_wp2_with fail
  refine (HAN.out _ B8.out).mono ?_
  rintro e w9 ⟨u9, rfl, o9, b9⟩
  have B9 := Lib.hid (B8.out.trans (b9.mono B8.out.size))
  have HI := Lib.hid (HID.out [2, 4] u9 _ (w9.alloc (.cells #[.int .i64 2, .int .i64 4] 3)) (Go.Proofs.Ytkmfkgjkgnlfnaa.own_below o9 (Rk.fresh_alloc _ _)).at (new_ints w9 [2, 4] 2 rfl) (by decide))
  rw [show eqB [2, 4] [2, 4] = true from rfl] at HI
  clear o9 b9
  go_wp2_with fail
  refine HI.out.mono ?_
  rintro e w10 ⟨rfl, b10⟩
  have B10 := Lib.hid (B9.out.trans (((Rk.fresh_alloc w9 _).trans (b10.mono (by simp))).mono B9.out.size))
  clear b10 HI
  -- Len
  go_wp2_with fail
  refine (HLE.out _ B10.out).mono ?_
  rintro e w11 ⟨rfl, b11⟩
  have B11 := Lib.hid (B10.out.trans (b11.mono B10.out.size))
  clear b11
  -- Values
  go_wp2_with fail
  refine (HVA.out _ B11.out).mono ?_
  rintro e w12 ⟨u12, rfl, o12, b12⟩
  have O12 := Lib.hid o12
  have B12 := Lib.hid (B11.out.trans (b12.mono B11.out.size))
  clear o12 b12
  go_wp2_with fail
  refine (HWO.out _ _).mono ?_
  rintro e w13 ⟨rfl, b13⟩
  have S13 := Lib.hid b13
  clear b13
  go_wp2_with fail
  refine (HWO.out _ _).mono ?_
  rintro e w14 ⟨rfl, b14⟩
  have b1214 := S13.out.trans (b14.mono S13.out.size)
  have B14 := Lib.hid (B12.out.trans (b1214.mono B12.out.size))
  have HI := Lib.hid (HSA.out u12 (.slice (some ⟨w14.heap.size, 0, none⟩) 2 2) (w14.alloc (.cells #[.int .i64 2, .int .i64 0, .string tBonn, .int .i64 2, .int .i64 0, .string tUlm] 24)) ((own_row flatV (Rk.own_below O12.out b1214)).below (Rk.fresh_alloc _ _)) (row_lit flatV (L := [wordV tBonn, wordV tUlm]) (Rk.heap_last _ _) 2))
  clear b14 b1214
  go_wp2_with fail
  refine HI.out.mono ?_
  rintro e w15 ⟨rfl, b15⟩
  have B15 := Lib.hid (B14.out.trans (((Rk.fresh_alloc w14 _).trans (b15.mono (by simp))).mono B14.out.size))
  clear b15 HI
  -- Find(Rome)
  go_wp2_with fail
  refine (HWO.out _ _).mono ?_
  rintro e w16 ⟨rfl, b16⟩
  have B16 := Lib.hid (B15.out.trans (b16.mono B15.out.size))
  clear b16
  go_wp2_with fail
  refine (HFD.out (wordV tRome) (okv_word _ (by unfold Room; decide)) _ B16.out).mono ?_
  rintro e w17 ⟨u17, rfl, o17, b17⟩
  rw [p0_find2] at o17
  obtain ⟨p17, c17, rfl⟩ := o17.at.form
  have B17 := Lib.hid (B5.out.trans ((B16.out.trans (b17.mono B16.out.size)).mono B5.out.size))
  clear o17 b17
  go_wp2_with fail
  go_ret
  exact ⟨rfl, B17.out⟩
end Wd
end Go.Proofs.Ytkmfkgjkgnlfnaa
