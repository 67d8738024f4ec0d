/- The reader's call that reads a name that an object does not have yet. Conditions: none but those that each theorem names. -/
import Derived.Test.YtdooeedemgmpiaaDoorJsText
import Derived.Test.YtdooeedemgmpiaaDoorJsVPl
import Derived.Test.YtdooeedemgmpiaaDoorMp
namespace Go.Proofs.YtdooeedemgmpiaaDoor
set_option linter.unusedVariables false
open Go Go.RowKit Js
open Go.ChangeMaps (setBlock)

theorem textF_size : ∀ (k : Nat) (out l : Bs) (t : ByteArray) (r : Bs), textF k out l = .ok t r → t.size ≤ out.length + 4 * l.length
  | k, _, [], t, r, h => by cases k <;> simp [textF] at h
  | 0, _, _ :: _, t, r, h => by simp [textF] at h
  | k + 1, out, c :: l, t, r, h => by
    simp only [textF] at h
    split at h
    · injection h with h _
      subst h
      simp [ByteArray.size]
    · split at h
      · cases he : escape (c :: l) with
        | none => rw [he] at h; cases h
        | some x =>
          obtain ⟨v, n⟩ := x
          rw [he] at h
          rename_i h92
          obtain ⟨hn2, hnl, _, _⟩ := escape_ascii (fun a r hr => by injection hr with hr; rw [← hr]; exact h92) he
          have := textF_size k _ _ _ _ h
          have h4 := Lib.runeCells_le v
          have h5 := Lib.runeCells_length v
          rw [List.length_append, List.length_drop] at this
          unfold enc at this
          simp only [List.length_cons] at this hnl ⊢
          omega
      · split at h
        · cases h
        · have := textF_size k _ _ _ _ h
          have hp := runeLen_pos (c :: l)
          have hl := runeLen_le c l
          rw [List.length_append, List.length_drop, List.length_take] at this
          simp only [List.length_cons] at this hl ⊢
          omega
def SeenS (names : List ByteArray) (y u : Value) : Prop := ∃ n ∈ names, y = .string n ∧ u = .agg #[]
def Seen (M : Nat) (names : List ByteArray) (w : World) : Prop := Mp Tryd.prog 9 w M (SeenS names) names.length
theorem seenK : Maps.Keyed Tryd.prog 9 := Maps.string_keyed Tryd.underlying9
theorem seenKey {s : ByteArray} (h : s.size ≤ maxLen) : keyOf Tryd.prog 9 (.string s) = some (.string s.data.toList) := WideMaps.keyOf_string_mk Tryd.underlying9 h
theorem seenZ (W : World) : (zeroValue 83).run Tryd.prog W = .ok (.agg #[]) W := by kernel_rfl
/-- A name that is not among those. -/
def nameB (names : List ByteArray) (l : Bs) : Js.R ByteArray :=
  match l with
  | 34 :: l1 =>
    match textOf [] l1 with
    | .no e r => .no e r
    | .ok name r => if (names.any fun p => decide (p = name)) = true then .no eTwice l else .ok name r
  | _ => .no eJson l
def namesB (names : List ByteArray) (x : Js.R ByteArray) : List ByteArray := match x with | .ok t _ => names ++ [t] | .no _ _ => names
def two' (R M : Nat) : Nat → Prop := fun b => b = R ∨ b = M
def NameP (R M : Nat) (s : ByteArray) (names : List ByteArray) (x : Js.R ByteArray) (w : World) (e : Ending) (w' : World) : Prop :=
  ∃ t, e = .returned (.tuple #[.string t, .int .i64 x.err]) ∧ (∀ t0 r, x = .ok t0 r → t = t0) ∧ Seen M (namesB names x) w' ∧ Gr (two' R M) w w' ∧ Rd R s x.rest w'
theorem Gr.two {R M : Nat} {w w' : World} (h : Gr (one' R) w w') : Gr (two' R M) w w' := h.mono fun b _ e => .inl e
set_option maxHeartbeats 2000000 in
set_option maxRecDepth 100000 in
theorem name_any (R M : Nat) (s : ByteArray) (names : List ByteArray) (l : Bs) (w : World) (h : Rd R s l w) (hm : Seen M names w) (hs : s.size ≤ 16777215) (hn : names.length ≤ 16777216) (G : Gl w) (hR : gN ≤ R) (hM : R < M) :
    Calls Tryd.prog 46 #[.pointer (some ⟨R, 0, none⟩), .map (some M)] w (NameP R M s names (nameB names l) w) := by
  have hs' : s.size ≤ maxLen := by unfold maxLen; omega
  have hs6 : s.size ≤ 16777216 := by omega
  obtain ⟨c0, c1, f1⟩ := h.cells
  have hle := h.le
  have H := Lib.hid h
  have HM := Lib.hid hm
  have GG := Lib.hid G
  have HR := Lib.hid hR
  have HH := Lib.hid (head_is l 34 (by decide))
  have hlt := h.lt
  have hmlt := hm.lt
  clear h hm G hR
  by_cases hq : headIs (· == 34) l = true
  · obtain ⟨l1, rfl⟩ : ∃ l1, l = 34 :: l1 := by
      cases l with
      | nil => simp [headIs] at hq
      | cons c m => simp [headIs] at hq; exact ⟨m, by rw [hq]⟩
    have HT := Lib.hid (fun w1 (h1 : Rd R s (34 :: l1) w1) (g1 : Gl w1) => text_any R s 34 l1 w1 h1 hs6 g1 HR.out)
    have hsnd := text_sound l1
    clear hq
    cases ht : textOf [] l1 with
    | no e r =>
      have he := hsnd.err e r ht
      unfold isErr at he
      have he0 : (e == 0) = false := by simp; omega
      have HF : Hid (nameB names (34 :: l1) = .no e r) := Lib.hid (by simp only [nameB, ht])
      rw [ht] at HT
      clear he hsnd ht
      go_enter Tryd.func46, Tryd.ntmps46
      go_wp2_with fail
      refine (next_any R s _ _ H.out hs').mono ?_
      rintro e' w2 ⟨rfl, n2, rfl⟩
      have hx2 : (headZ (34 :: l1) == 34) = true := rfl
      go_wp2_with fail
      refine (HT.out _ (H.out.drewN n2) (GG.out.drewN n2)).mono ?_
      rintro e' w3 ⟨t, rfl, hj, hg3, hr3⟩
      have HG3 := Lib.hid (((Gr.refl (one' R) w).drewN n2).trans hg3)
      have HR3 := Lib.hid hr3
      clear hj hg3 hr3
      unfold Js.R.err
      go_wp2_with fail
      go_ret2
      refine ⟨_, by rw [HF.out]; rfl, (by rw [HF.out]; intro a b hab; cases hab), ?_, HG3.out.two, by rw [HF.out]; exact HR3.out⟩
      rw [HF.out]
      exact HM.out.kept (HG3.out.block M hmlt (fun e => by unfold one' at e; omega))
    | ok name r =>
      have hnsz : name.size ≤ maxLen := by
        have := textF_size _ _ _ _ _ ht
        simp at this hle
        unfold maxLen
        omega
      rw [ht] at HT
      clear hsnd
      by_cases htw : (names.any fun p => decide (p = name)) = true
      · have HF : Hid (nameB names (34 :: l1) = .no eTwice (34 :: l1)) := Lib.hid (by simp only [nameB, ht, htw, if_true])
        have hin : SeenS names (.string name) (.agg #[]) := by
          obtain ⟨x, hx, he⟩ := List.any_eq_true.1 htw
          have : x = name := by simpa using he
          exact ⟨x, hx, by rw [this], rfl⟩
        have HLK := Lib.hid (HM.out.look seenK Tryd.underlying67 seenZ hin true)
        clear ht htw hin
        go_enter Tryd.func46, Tryd.ntmps46
        go_wp2_with fail
        refine (next_any R s _ _ H.out hs').mono ?_
        rintro e' w2 ⟨rfl, n2, rfl⟩
        have hx2 : (headZ (34 :: l1) == 34) = true := rfl
        go_wp2_with fail
        refine (HT.out _ (H.out.drewN n2) (GG.out.drewN n2)).mono ?_
        rintro e' w3 ⟨t, rfl, hj, hg3, hr3⟩
        obtain rfl := hj name r rfl
        have HG3 := Lib.hid (((Gr.refl (one' R) w).drewN n2).trans hg3)
        have HR3 := Lib.hid hr3
        have hMk : w3.heap[M]? = w.heap[M]? := HG3.out.block M hmlt (fun e => by unfold one' at e; omega)
        have hlk := HLK.out w3 hMk
        have HMK := Lib.hid hMk
        have r1 := (hr3.alloc (.cells #[] 83)).cells.2.1
        have rf := (hr3.alloc (.cells #[] 83)).cells.2.2
        simp only [if_true] at hlk
        clear hj hg3 hr3 hMk
        unfold Js.R.err
        go_wp2_with fail
        go_ret2
        have hback := H.out.back (HR3.out.alloc (.cells #[] 83))
        refine ⟨_, by rw [HF.out]; rfl, (by rw [HF.out]; intro a b hab; cases hab), ?_, ?_, by rw [HF.out]; exact hback⟩
        · rw [HF.out]
          refine HM.out.kept ?_
          rw [Below.heap_setCell _ _ _ _ (show M ≠ R by omega), Below.heap_alloc _ _ _ (Nat.lt_of_lt_of_le hmlt HG3.out.size)]
          exact HMK.out
        · exact Gr.setCell (S := two' R M) (a := ⟨R, 1, none⟩) (HG3.out.two.alloc _) (fun _ => .inl rfl) _
      · have hF : nameB names (34 :: l1) = .ok name r := by simp only [nameB, ht]; rw [if_neg htw]
        have HF := Lib.hid hF
        have hnot : ∀ u, ¬ SeenS names (.string name) u := by
          rintro u ⟨x, hx, he, _⟩
          injection he with he
          exact htw (List.any_eq_true.2 ⟨x, hx, by simp [he]⟩)
        have HLK := Lib.hid (HM.out.miss seenK Tryd.underlying67 seenZ (seenKey hnsz) hnot true)
        obtain ⟨o, hput, hput2⟩ := HM.out.put_new seenK Tryd.underlying67 (v := .agg #[]) (seenKey hnsz) hnot (by unfold maxLen; omega)
        have HP1 := Lib.hid hput
        have HP2 := Lib.hid hput2
        clear ht htw hnot hput hput2 hF
        go_enter Tryd.func46, Tryd.ntmps46
        go_wp2_with fail
        refine (next_any R s _ _ H.out hs').mono ?_
        rintro e' w2 ⟨rfl, n2, rfl⟩
        have hx2 : (headZ (34 :: l1) == 34) = true := rfl
        go_wp2_with fail
        refine (HT.out _ (H.out.drewN n2) (GG.out.drewN n2)).mono ?_
        rintro e' w3 ⟨t, rfl, hj, hg3, hr3⟩
        obtain rfl := hj name r rfl
        have HG3 := Lib.hid (((Gr.refl (one' R) w).drewN n2).trans hg3)
        have HR3 := Lib.hid hr3
        have hMk : w3.heap[M]? = w.heap[M]? := HG3.out.block M hmlt (fun e => by unfold one' at e; omega)
        have hlk := HLK.out w3 hMk
        have hMk2 : (w3.alloc (.cells #[] 83)).heap[M]? = w.heap[M]? := (Below.heap_alloc _ _ _ (Nat.lt_of_lt_of_le hmlt HG3.out.size)).trans hMk
        have hpt := HP1.out (w3.alloc (.cells #[] 83)) hMk2
        have HMK := Lib.hid hMk2
        simp only [if_true] at hlk
        clear hj hg3 hr3 hMk hMk2
        unfold Js.R.err
        go_wp2_with fail
        go_ret2
        have hlt2 : M < (w3.alloc (.cells #[] 83)).heap.size := by have := HG3.out.size; simp; omega
        refine ⟨_, by rw [HF.out]; rfl, (by rw [HF.out]; intro a b hab; cases hab; rfl), ?_, ?_, ?_⟩
        · rw [HF.out]
          have hset := HP2.out (setBlock (w3.alloc (.cells #[] 83)) M o) (setBlock_at o hlt2)
          unfold Seen namesB
          rw [List.length_append]
          refine hset.congr fun y u => ?_
          unfold SeenS
          constructor
          · rintro (⟨rfl, rfl⟩ | ⟨_, x, hx, rfl, rfl⟩)
            · exact ⟨t, by simp, rfl, rfl⟩
            · exact ⟨x, by simp [hx], rfl, rfl⟩
          · rintro ⟨x, hx, rfl, rfl⟩
            by_cases hxt : x = t
            · exact .inl ⟨by rw [hxt], rfl⟩
            · refine .inr ⟨fun he => hxt (by injection he), x, ?_, rfl, rfl⟩
              rcases List.mem_append.1 hx with h | h
              · exact h
              · exact absurd (by simpa using h) hxt
        · have ho := setBlock_only (w3.alloc (.cells #[] 83)) M o
          have hga := (HG3.out.two (M := M)).alloc (.cells #[] 83)
          exact ⟨ho.os.trans hga.os, ho.tape.trans hga.tape, ho.output.trans hga.output, by rw [ho.size]; exact hga.size, fun b hb hn => by
            rw [ho.block b (fun e => hn (.inr e))]; exact hga.block b hb hn⟩
        · rw [HF.out]
          refine (HR3.out.alloc (.cells #[] 83)).kept (setBlock_ne o (by omega))
  · have hx : (headZ l == 34) = false := HH.out.trans (by simpa using hq)
    have HF : Hid (nameB names l = .no eJson l) := Lib.hid (by
      cases l with
      | nil => rfl
      | cons c m =>
        have hc : c ≠ 34 := by simpa [headIs] using hq
        unfold nameB
        split
        · rename_i e; injection e with e; exact absurd e hc
        · rfl)
    clear hq
    go_enter Tryd.func46, Tryd.ntmps46
    go_wp2_with fail
    refine (next_any R s _ _ H.out hs').mono ?_
    rintro e' w2 ⟨rfl, n2, rfl⟩
    go_wp2_with fail
    go_ret2
    exact ⟨_, by rw [HF.out]; rfl, (by rw [HF.out]; intro a b hab; cases hab), by rw [HF.out]; exact HM.out, (Gr.refl (two' R M) w).drewN n2, by rw [HF.out]; exact H.out.drewN n2⟩
end Go.Proofs.YtdooeedemgmpiaaDoor
