/- The reader's call that reads a value. Conditions: those that each theorem names. -/
import Derived.Test.YtdooeedemgmpiaaDoorJsLists
import Derived.Test.YtdooeedemgmpiaaDoorJsObjs
namespace Go.Proofs.YtdooeedemgmpiaaDoor
set_option linter.unusedVariables false
open Go Go.RowKit Js

/-- The bytes with which a value begins. -/
def firstS : Bs := [123, 91, 34, 116, 102, 110, 45, 48, 49, 50, 51, 52, 53, 54, 55, 56, 57]
theorem first_has (c : UInt8) : firstS.contains c = firstB c := by
  have h : ∀ n, n < 256 → firstS.contains (UInt8.ofNat n) = firstB (UInt8.ofNat n) := by decide +kernel
  have := h c.toNat c.toNat_lt
  simpa using this
theorem idx_first (z : Int) (i : Int) (hi : Lib.indexByte firstS z.toNat.toUInt8 = i) (w : World) :
    Calls Tryd.prog 30 #[.string ⟨#[123, 91, 34, 116, 102, 110, 45, 48, 49, 50, 51, 52, 53, 54, 55, 56, 57]⟩, .int .u8 z] w fun e w' => e = .returned (.int .i64 i) ∧ w' = w := by
  subst hi
  exact Tryd.strings_IndexByte _ _ _
theorem next_is (R : Nat) (s : ByteArray) (c : UInt8) (l : Bs) (w : World) (h : Rd R s (c :: l) w) (hs : s.size ≤ maxLen) (z : Int) (hz : (c.toNat : Int) = z) :
    Calls Tryd.prog 29 #[.pointer (some ⟨R, 0, none⟩)] w fun e w' => e = .returned (.int .u8 z) ∧ ∃ n, w' = w.drewN n := by
  subst hz
  exact next_byte R s c l w h hs
theorem val_done {R : Nat} {s : ByteArray} {x : Js.R J} {w w4 : World} {j : J} {a b c d e : Value} (hj : JAt (fun k => w.heap.size + 1 ≤ k) w4 j (.agg #[a, b, c, d, e])) (hg : Gr (one' R) w w4) (hr : Rd R s x.rest w4) (hlt : R < w.heap.size) (hx : ∀ j0 r, x = .ok j0 r → j = j0) :
    ValP R s x w (.returned (.tuple #[.agg #[a, b, c, d, e], .int .i64 x.err])) (five w4 w.heap.size a b c d e) :=
  ⟨_, j, rfl, JAt.frame (fun k _ hk => by omega) (fun k hk _ => five_block (by omega) _ _ _ _ _) (by unfold five; simp) _ _ hj, hx, hg.five (Nat.le_refl _) _ _ _ _ _, hr.five (by omega) _ _ _ _ _⟩
theorem obj_err (d : Nat) (l : Bs) : (value (d + 1) (123 :: l)).err = (parts (pair (value d)) 125 l).err ∧ (value (d + 1) (123 :: l)).rest = (parts (pair (value d)) 125 l).rest ∧ ∀ j r, value (d + 1) (123 :: l) = .ok j r → ∃ ps, parts (pair (value d)) 125 l = .ok ps r ∧ j = .mk 6 0 ByteArray.empty (ps.map (·.1)) (ps.map (·.2)) := by
  have e : value (d + 1) (123 :: l) = (match parts (pair (value d)) 125 l with | .no e r => .no e r | .ok ps r => .ok (.mk 6 0 ByteArray.empty (ps.map (·.1)) (ps.map (·.2))) r) := by
    rw [value]; rfl
  rw [e]
  cases parts (pair (value d)) 125 l with
  | no e r => exact ⟨rfl, rfl, fun j r h => nomatch h⟩
  | ok ps r => exact ⟨rfl, rfl, fun j r' h => by injection h with h1 h2; subst h2; exact ⟨ps, rfl, h1.symm⟩⟩
theorem list_err (d : Nat) (l : Bs) : (value (d + 1) (91 :: l)).err = (parts (fun _ => value d) 93 l).err ∧ (value (d + 1) (91 :: l)).rest = (parts (fun _ => value d) 93 l).rest ∧ ∀ j r, value (d + 1) (91 :: l) = .ok j r → ∃ ls, parts (fun _ => value d) 93 l = .ok ls r ∧ j = .mk 5 0 ByteArray.empty [] ls := by
  have e : value (d + 1) (91 :: l) = (match parts (fun _ => value d) 93 l with | .no e r => .no e r | .ok ls r => .ok (.mk 5 0 ByteArray.empty [] ls) r) := by
    rw [value]; rfl
  rw [e]
  cases parts (fun _ => value d) 93 l with
  | no e r => exact ⟨rfl, rfl, fun j r h => nomatch h⟩
  | ok ps r => exact ⟨rfl, rfl, fun j r' h => by injection h with h1 h2; subst h2; exact ⟨ps, rfl, h1.symm⟩⟩
set_option maxHeartbeats 1000000 in
set_option maxRecDepth 100000 in
theorem value_obj (d : Nat) (hv : ValueOk d) (hd : d < 32) (R : Nat) (s : ByteArray) (l : Bs) (w : World) (h : Rd R s (123 :: l) w) (hs : s.size ≤ 16777215) (G : Gl w) (hR : gN ≤ R) :
    Calls Tryd.prog 21 #[.pointer (some ⟨R, 0, none⟩), .int .i64 ((32 : Int) - d)] w (ValP R s (value (d + 1) (123 :: l)) w) := by
  have hs' : s.size ≤ maxLen := by unfold maxLen; omega
  have H := Lib.hid h
  have GG := Lib.hid G
  have HR := Lib.hid hR
  have HLT := Lib.hid h.lt
  clear h G hR
  go_enter Tryd.func21, Tryd.ntmps21
  go_wp2_with fail
  refine (next_is R s _ l _ (H.out.alloc _) hs' 123 rfl).mono ?_
  rintro e w1 ⟨rfl, n1, rfl⟩
  go_wp2_with fail
  refine (idx_first 123 0 rfl _).mono ?_
  rintro e w2 ⟨rfl, rfl⟩
  have hd1 : ¬ (32 : Int) < (32 : Int) - d := by omega
  go_wp2_with fail
  have HE := Lib.hid (obj_err d l)
  refine (object_any d hv (by omega) R s 123 l _ ((H.out.alloc _).drewN _) hs ((GG.out.alloc _).drewN _) HR.out).mono ?_
  rintro e w4 ⟨v, j, rfl, hj, hjx, hg4, hr4⟩
  rw [← HE.out.1]
  rw [← HE.out.2.1] at hr4
  have HX : Hid (∀ j0 r, value (d + 1) (123 :: l) = .ok j0 r → j = j0) := Lib.hid fun j0 r h => by
    obtain ⟨ps, h1, h2⟩ := HE.out.2.2 j0 r h
    rw [hjx ps r h1, h2]
  have HG : Hid (Gr (one' R) w w4) := Lib.hid ((((Gr.refl _ w).alloc _).drewN _).trans hg4)
  have r2 : ResAt w.heap.size w4 := ResAt.gr (w := (w.alloc zero5).drewN n1) (heap_alloc_new _ _) hg4 (by have := HLT.out; omega)
  obtain ⟨d0, d1, d2, d3, d4, k0, k1, k2, k3, k4⟩ := r2.cells
  obtain ⟨np, nc, lp, lc, rfl, -, -⟩ := hj.five
  generalize hy : j.names.length = y1 at hj ⊢
  generalize hz : j.list.length = y2 at hj ⊢
  generalize hk : j.kind = q1 at hj ⊢
  generalize hm : j.num = q2 at hj ⊢
  generalize ht : j.text = q3 at hj ⊢
  clear hy hz hk hm ht
  have HJ := Lib.hid hj
  have HR4 := Lib.hid hr4
  clear hj hjx hg4 hr4 r2
  go_wp2_with fail
  refine bodyPost_ret (v := .tuple #[.agg #[.int .i64 q1, .int .i64 q2, .string q3, .slice np y1 nc, .slice lp y2 lc], .int .i64 (value (d + 1) (123 :: l)).err]) (by simp [results, Tryd.results21, go_sem, d0, d1, d2, d3, d4]) rfl (val_done (by simpa using HJ.out) HG.out HR4.out HLT.out HX.out)
set_option maxHeartbeats 1000000 in
set_option maxRecDepth 100000 in
theorem value_list (d : Nat) (hv : ValueOk d) (hd : d < 32) (R : Nat) (s : ByteArray) (l : Bs) (w : World) (h : Rd R s (91 :: l) w) (hs : s.size ≤ 16777215) (G : Gl w) (hR : gN ≤ R) :
    Calls Tryd.prog 21 #[.pointer (some ⟨R, 0, none⟩), .int .i64 ((32 : Int) - d)] w (ValP R s (value (d + 1) (91 :: l)) w) := by
  have hs' : s.size ≤ maxLen := by unfold maxLen; omega
  have H := Lib.hid h
  have GG := Lib.hid G
  have HR := Lib.hid hR
  have HLT := Lib.hid h.lt
  clear h G hR
  go_enter Tryd.func21, Tryd.ntmps21
  go_wp2_with fail
  refine (next_is R s _ l _ (H.out.alloc _) hs' 91 rfl).mono ?_
  rintro e w1 ⟨rfl, n1, rfl⟩
  go_wp2_with fail
  refine (idx_first 91 1 rfl _).mono ?_
  rintro e w2 ⟨rfl, rfl⟩
  have hd1 : ¬ (32 : Int) < (32 : Int) - d := by omega
  go_wp2_with fail
  have HE := Lib.hid (list_err d l)
  refine (list_any d hv (by omega) R s 91 l _ ((H.out.alloc _).drewN _) hs ((GG.out.alloc _).drewN _) HR.out).mono ?_
  rintro e w4 ⟨v, j, rfl, hj, hjx, hg4, hr4⟩
  rw [← HE.out.1]
  rw [← HE.out.2.1] at hr4
  have HX : Hid (∀ j0 r, value (d + 1) (91 :: l) = .ok j0 r → j = j0) := Lib.hid fun j0 r h => by
    obtain ⟨ps, h1, h2⟩ := HE.out.2.2 j0 r h
    rw [hjx ps r h1, h2]
  have HG : Hid (Gr (one' R) w w4) := Lib.hid ((((Gr.refl _ w).alloc _).drewN _).trans hg4)
  have r2 : ResAt w.heap.size w4 := ResAt.gr (w := (w.alloc zero5).drewN n1) (heap_alloc_new _ _) hg4 (by have := HLT.out; omega)
  obtain ⟨d0, d1, d2, d3, d4, k0, k1, k2, k3, k4⟩ := r2.cells
  obtain ⟨np, nc, lp, lc, rfl, -, -⟩ := hj.five
  generalize hy : j.names.length = y1 at hj ⊢
  generalize hz : j.list.length = y2 at hj ⊢
  generalize hk : j.kind = q1 at hj ⊢
  generalize hm : j.num = q2 at hj ⊢
  generalize ht : j.text = q3 at hj ⊢
  clear hy hz hk hm ht
  have HJ := Lib.hid hj
  have HR4 := Lib.hid hr4
  clear hj hjx hg4 hr4 r2
  go_wp2_with fail
  refine bodyPost_ret (v := .tuple #[.agg #[.int .i64 q1, .int .i64 q2, .string q3, .slice np y1 nc, .slice lp y2 lc], .int .i64 (value (d + 1) (91 :: l)).err]) (by simp [results, Tryd.results21, go_sem, d0, d1, d2, d3, d4]) rfl (val_done (by simpa using HJ.out) HG.out HR4.out HLT.out HX.out)
theorem text_err (d : Nat) (l : Bs) : (value (d + 1) (34 :: l)).err = (textOf [] l).err ∧ (value (d + 1) (34 :: l)).rest = (textOf [] l).rest ∧ ∀ j r, value (d + 1) (34 :: l) = .ok j r → ∃ t, textOf [] l = .ok t r ∧ j = .mk 4 0 t [] [] := by
  have e : value (d + 1) (34 :: l) = (match textOf [] l with | .no e r => .no e r | .ok t r => .ok (.mk 4 0 t [] []) r) := by
    rw [value]; rfl
  rw [e]
  cases textOf [] l with
  | no e r => exact ⟨rfl, rfl, fun j r h => nomatch h⟩
  | ok ps r => exact ⟨rfl, rfl, fun j r' h => by injection h with h1 h2; subst h2; exact ⟨ps, rfl, h1.symm⟩⟩
theorem true_err (d : Nat) (l : Bs) : (value (d + 1) (116 :: l)).err = (word [116, 114, 117, 101] (116 :: l)).err ∧ (value (d + 1) (116 :: l)).rest = (word [116, 114, 117, 101] (116 :: l)).rest ∧ ∀ j r, value (d + 1) (116 :: l) = .ok j r → j = .mk 2 1 ByteArray.empty [] [] := by
  have e : value (d + 1) (116 :: l) = (match word [116, 114, 117, 101] (116 :: l) with | .no e r => .no e r | .ok _ r => .ok (.mk 2 1 ByteArray.empty [] []) r) := by
    rw [value]; rfl
  rw [e]
  cases word [116, 114, 117, 101] (116 :: l) with
  | no e r => exact ⟨rfl, rfl, fun j r h => nomatch h⟩
  | ok ps r => exact ⟨rfl, rfl, fun j r' h => by injection h with h1 h2; exact h1.symm⟩
theorem false_err (d : Nat) (l : Bs) : (value (d + 1) (102 :: l)).err = (word [102, 97, 108, 115, 101] (102 :: l)).err ∧ (value (d + 1) (102 :: l)).rest = (word [102, 97, 108, 115, 101] (102 :: l)).rest ∧ ∀ j r, value (d + 1) (102 :: l) = .ok j r → j = .mk 2 0 ByteArray.empty [] [] := by
  have e : value (d + 1) (102 :: l) = (match word [102, 97, 108, 115, 101] (102 :: l) with | .no e r => .no e r | .ok _ r => .ok (.mk 2 0 ByteArray.empty [] []) r) := by
    rw [value]; rfl
  rw [e]
  cases word [102, 97, 108, 115, 101] (102 :: l) with
  | no e r => exact ⟨rfl, rfl, fun j r h => nomatch h⟩
  | ok ps r => exact ⟨rfl, rfl, fun j r' h => by injection h with h1 h2; exact h1.symm⟩
theorem null_err (d : Nat) (l : Bs) : (value (d + 1) (110 :: l)).err = (word [110, 117, 108, 108] (110 :: l)).err ∧ (value (d + 1) (110 :: l)).rest = (word [110, 117, 108, 108] (110 :: l)).rest ∧ ∀ j r, value (d + 1) (110 :: l) = .ok j r → j = .mk 1 0 ByteArray.empty [] [] := by
  have e : value (d + 1) (110 :: l) = (match word [110, 117, 108, 108] (110 :: l) with | .no e r => .no e r | .ok _ r => .ok (.mk 1 0 ByteArray.empty [] []) r) := by
    rw [value]; rfl
  rw [e]
  cases word [110, 117, 108, 108] (110 :: l) with
  | no e r => exact ⟨rfl, rfl, fun j r h => nomatch h⟩
  | ok ps r => exact ⟨rfl, rfl, fun j r' h => by injection h with h1 h2; exact h1.symm⟩
set_option maxHeartbeats 1000000 in
set_option maxRecDepth 100000 in
theorem value_text (d : Nat) (hd : d < 32) (R : Nat) (s : ByteArray) (l : Bs) (w : World) (h : Rd R s (34 :: l) w) (hs : s.size ≤ 16777215) (G : Gl w) (hR : gN ≤ R) :
    Calls Tryd.prog 21 #[.pointer (some ⟨R, 0, none⟩), .int .i64 ((32 : Int) - d)] w (ValP R s (value (d + 1) (34 :: l)) w) := by
  have hs' : s.size ≤ maxLen := by unfold maxLen; omega
  have H := Lib.hid h
  have GG := Lib.hid G
  have HR := Lib.hid hR
  have HLT := Lib.hid h.lt
  clear h G hR
  go_enter Tryd.func21, Tryd.ntmps21
  go_wp2_with fail
  refine (next_is R s _ l _ (H.out.alloc _) hs' 34 rfl).mono ?_
  rintro e w1 ⟨rfl, n1, rfl⟩
  go_wp2_with fail
  refine (idx_first 34 2 rfl _).mono ?_
  rintro e w2 ⟨rfl, rfl⟩
  have hd1 : ¬ (32 : Int) < (32 : Int) - d := by omega
  go_wp2_with fail
  have HE := Lib.hid (text_err d l)
  refine (text_any R s 34 l _ ((H.out.alloc _).drewN _) (by omega) ((GG.out.alloc _).drewN _) HR.out).mono ?_
  rintro e w4 ⟨t, rfl, htx, hg4, hr4⟩
  rw [← HE.out.1]
  rw [← HE.out.2.1] at hr4
  have HX : Hid (∀ j0 r, value (d + 1) (34 :: l) = .ok j0 r → J.mk 4 0 t [] [] = j0) := Lib.hid fun j0 r h => by
    obtain ⟨ps, h1, h2⟩ := HE.out.2.2 j0 r h
    rw [htx ps r h1, h2]
  clear htx
  have HG : Hid (Gr (one' R) w w4) := Lib.hid ((((Gr.refl _ w).alloc _).drewN _).trans hg4)
  have r2 : ResAt w.heap.size w4 := ResAt.gr (w := (w.alloc zero5).drewN n1) (heap_alloc_new _ _) hg4 (by have := HLT.out; omega)
  obtain ⟨d0, d1, d2, d3, d4, k0, k1, k2, k3, k4⟩ := r2.cells
  have HR4 := Lib.hid hr4
  clear hg4 hr4 r2
  go_wp2_with fail
  refine bodyPost_ret (v := .tuple #[.agg #[.int .i64 4, .int .i64 0, .string t, .slice none 0 0, .slice none 0 0], .int .i64 (value (d + 1) (34 :: l)).err]) (by simp [results, Tryd.results21, go_sem, d0, d1, d2, d3, d4]) rfl (val_done (JAt.leaf _ _ _ _ _) HG.out HR4.out HLT.out HX.out)
set_option maxHeartbeats 1000000 in
set_option maxRecDepth 100000 in
theorem value_true (d : Nat) (hd : d < 32) (R : Nat) (s : ByteArray) (l : Bs) (w : World) (h : Rd R s (116 :: l) w) (hs : s.size ≤ 16777215) (G : Gl w) (hR : gN ≤ R) :
    Calls Tryd.prog 21 #[.pointer (some ⟨R, 0, none⟩), .int .i64 ((32 : Int) - d)] w (ValP R s (value (d + 1) (116 :: l)) w) := by
  have hs' : s.size ≤ maxLen := by unfold maxLen; omega
  have H := Lib.hid h
  have GG := Lib.hid G
  have HR := Lib.hid hR
  have HLT := Lib.hid h.lt
  clear h G hR
  go_enter Tryd.func21, Tryd.ntmps21
  go_wp2_with fail
  refine (next_is R s _ l _ (H.out.alloc _) hs' 116 rfl).mono ?_
  rintro e w1 ⟨rfl, n1, rfl⟩
  go_wp2_with fail
  refine (idx_first 116 3 rfl _).mono ?_
  rintro e w2 ⟨rfl, rfl⟩
  have hd1 : ¬ (32 : Int) < (32 : Int) - d := by omega
  go_wp2_with fail
  have HE := Lib.hid (true_err d l)
  refine (word_any R s ⟨#[116, 114, 117, 101]⟩ (116 :: l) _ ((H.out.alloc _).drewN _) hs' (by decide) (by decide)).mono ?_
  rw [show (⟨#[116, 114, 117, 101]⟩ : ByteArray).data.toList = [116, 114, 117, 101] from rfl, ← HE.out.1, ← HE.out.2.1]
  rintro e w4 ⟨rfl, hg4, hr4⟩
  have HX : Hid (∀ j0 r, value (d + 1) (116 :: l) = .ok j0 r → J.mk 2 1 ⟨#[]⟩ [] [] = j0) := Lib.hid fun j0 r h => (HE.out.2.2 j0 r h).symm
  have HG : Hid (Gr (one' R) w w4) := Lib.hid ((((Gr.refl _ w).alloc _).drewN _).trans hg4)
  have r2 : ResAt w.heap.size w4 := ResAt.gr (w := (w.alloc zero5).drewN n1) (heap_alloc_new _ _) hg4 (by have := HLT.out; omega)
  obtain ⟨d0, d1, d2, d3, d4, k0, k1, k2, k3, k4⟩ := r2.cells
  have HR4 := Lib.hid hr4
  clear hg4 hr4 r2
  go_wp2_with fail
  refine bodyPost_ret (v := .tuple #[.agg #[.int .i64 2, .int .i64 1, .string ⟨#[]⟩, .slice none 0 0, .slice none 0 0], .int .i64 (value (d + 1) (116 :: l)).err]) (by simp [results, Tryd.results21, go_sem, d0, d1, d2, d3, d4]) rfl (val_done (JAt.leaf _ _ _ _ _) HG.out HR4.out HLT.out HX.out)
set_option maxHeartbeats 1000000 in
set_option maxRecDepth 100000 in
theorem value_false (d : Nat) (hd : d < 32) (R : Nat) (s : ByteArray) (l : Bs) (w : World) (h : Rd R s (102 :: l) w) (hs : s.size ≤ 16777215) (G : Gl w) (hR : gN ≤ R) :
    Calls Tryd.prog 21 #[.pointer (some ⟨R, 0, none⟩), .int .i64 ((32 : Int) - d)] w (ValP R s (value (d + 1) (102 :: l)) w) := by
  have hs' : s.size ≤ maxLen := by unfold maxLen; omega
  have H := Lib.hid h
  have GG := Lib.hid G
  have HR := Lib.hid hR
  have HLT := Lib.hid h.lt
  clear h G hR
  go_enter Tryd.func21, Tryd.ntmps21
  go_wp2_with fail
  refine (next_is R s _ l _ (H.out.alloc _) hs' 102 rfl).mono ?_
  rintro e w1 ⟨rfl, n1, rfl⟩
  go_wp2_with fail
  refine (idx_first 102 4 rfl _).mono ?_
  rintro e w2 ⟨rfl, rfl⟩
  have hd1 : ¬ (32 : Int) < (32 : Int) - d := by omega
  go_wp2_with fail
  have HE := Lib.hid (false_err d l)
  refine (word_any R s ⟨#[102, 97, 108, 115, 101]⟩ (102 :: l) _ ((H.out.alloc _).drewN _) hs' (by decide) (by decide)).mono ?_
  rw [show (⟨#[102, 97, 108, 115, 101]⟩ : ByteArray).data.toList = [102, 97, 108, 115, 101] from rfl, ← HE.out.1, ← HE.out.2.1]
  rintro e w4 ⟨rfl, hg4, hr4⟩
  have HX : Hid (∀ j0 r, value (d + 1) (102 :: l) = .ok j0 r → J.mk 2 0 ⟨#[]⟩ [] [] = j0) := Lib.hid fun j0 r h => (HE.out.2.2 j0 r h).symm
  have HG : Hid (Gr (one' R) w w4) := Lib.hid ((((Gr.refl _ w).alloc _).drewN _).trans hg4)
  have r2 : ResAt w.heap.size w4 := ResAt.gr (w := (w.alloc zero5).drewN n1) (heap_alloc_new _ _) hg4 (by have := HLT.out; omega)
  obtain ⟨d0, d1, d2, d3, d4, k0, k1, k2, k3, k4⟩ := r2.cells
  have HR4 := Lib.hid hr4
  clear hg4 hr4 r2
  go_wp2_with fail
  refine bodyPost_ret (v := .tuple #[.agg #[.int .i64 2, .int .i64 0, .string ⟨#[]⟩, .slice none 0 0, .slice none 0 0], .int .i64 (value (d + 1) (102 :: l)).err]) (by simp [results, Tryd.results21, go_sem, d0, d1, d2, d3, d4]) rfl (val_done (JAt.leaf _ _ _ _ _) HG.out HR4.out HLT.out HX.out)
set_option maxHeartbeats 1000000 in
set_option maxRecDepth 100000 in
theorem value_null (d : Nat) (hd : d < 32) (R : Nat) (s : ByteArray) (l : Bs) (w : World) (h : Rd R s (110 :: l) w) (hs : s.size ≤ 16777215) (G : Gl w) (hR : gN ≤ R) :
    Calls Tryd.prog 21 #[.pointer (some ⟨R, 0, none⟩), .int .i64 ((32 : Int) - d)] w (ValP R s (value (d + 1) (110 :: l)) w) := by
  have hs' : s.size ≤ maxLen := by unfold maxLen; omega
  have H := Lib.hid h
  have GG := Lib.hid G
  have HR := Lib.hid hR
  have HLT := Lib.hid h.lt
  clear h G hR
  go_enter Tryd.func21, Tryd.ntmps21
  go_wp2_with fail
  refine (next_is R s _ l _ (H.out.alloc _) hs' 110 rfl).mono ?_
  rintro e w1 ⟨rfl, n1, rfl⟩
  go_wp2_with fail
  refine (idx_first 110 5 rfl _).mono ?_
  rintro e w2 ⟨rfl, rfl⟩
  have hd1 : ¬ (32 : Int) < (32 : Int) - d := by omega
  go_wp2_with fail
  have HE := Lib.hid (null_err d l)
  refine (word_any R s ⟨#[110, 117, 108, 108]⟩ (110 :: l) _ ((H.out.alloc _).drewN _) hs' (by decide) (by decide)).mono ?_
  rw [show (⟨#[110, 117, 108, 108]⟩ : ByteArray).data.toList = [110, 117, 108, 108] from rfl, ← HE.out.1, ← HE.out.2.1]
  rintro e w4 ⟨rfl, hg4, hr4⟩
  have HX : Hid (∀ j0 r, value (d + 1) (110 :: l) = .ok j0 r → J.mk 1 0 ⟨#[]⟩ [] [] = j0) := Lib.hid fun j0 r h => (HE.out.2.2 j0 r h).symm
  have HG : Hid (Gr (one' R) w w4) := Lib.hid ((((Gr.refl _ w).alloc _).drewN _).trans hg4)
  have r2 : ResAt w.heap.size w4 := ResAt.gr (w := (w.alloc zero5).drewN n1) (heap_alloc_new _ _) hg4 (by have := HLT.out; omega)
  obtain ⟨d0, d1, d2, d3, d4, k0, k1, k2, k3, k4⟩ := r2.cells
  have HR4 := Lib.hid hr4
  clear hg4 hr4 r2
  go_wp2_with fail
  refine bodyPost_ret (v := .tuple #[.agg #[.int .i64 1, .int .i64 0, .string ⟨#[]⟩, .slice none 0 0, .slice none 0 0], .int .i64 (value (d + 1) (110 :: l)).err]) (by simp [results, Tryd.results21, go_sem, d0, d1, d2, d3, d4]) rfl (val_done (JAt.leaf _ _ _ _ _) HG.out HR4.out HLT.out HX.out)
theorem value_none (d : Nat) (l : Bs) (h : firstS.contains (headZ l).toNat.toUInt8 = false) : value d l = .no eJson l := by
  cases l with
  | nil => rw [value.eq_def]
  | cons c l =>
    rw [show (headZ (c :: l)).toNat.toUInt8 = c by simp [headZ], first_has] at h
    rw [value.eq_def]; simp only [if_pos h]
set_option maxHeartbeats 1000000 in
set_option maxRecDepth 100000 in
theorem value_no (d : Nat) (q : Int) (R : Nat) (s : ByteArray) (l : Bs) (w : World) (h : Rd R s l w) (hs : s.size ≤ 16777215) (hf : firstS.contains (headZ l).toNat.toUInt8 = false) :
    Calls Tryd.prog 21 #[.pointer (some ⟨R, 0, none⟩), .int .i64 q] w (ValP R s (value d l) w) := by
  have hs' : s.size ≤ maxLen := by unfold maxLen; omega
  have H := Lib.hid h
  have HLT := Lib.hid h.lt
  have HV := Lib.hid (value_none d l hf)
  have hi : Lib.indexByte firstS (headZ l).toNat.toUInt8 < 0 := (index_neg _ _).2 hf
  generalize hz : headZ l = z at hi
  generalize hii : Lib.indexByte firstS z.toNat.toUInt8 = i at hi
  have HI := Lib.hid hii
  have HN : Hid (Calls Tryd.prog 29 #[.pointer (some ⟨R, 0, none⟩)] (w.alloc zero5) fun e w' => e = .returned (.int .u8 z) ∧ ∃ n, w' = (w.alloc zero5).drewN n) := by
    rw [← hz]; exact Lib.hid (next_any R s l _ (h.alloc _) hs')
  clear h hf hz hii
  unfold zero5 at HN
  go_enter Tryd.func21, Tryd.ntmps21
  go_wp2_with fail
  refine HN.out.mono ?_
  rintro e w1 ⟨rfl, n1, rfl⟩
  go_wp2_with fail
  refine (idx_first z i HI.out _).mono ?_
  rintro e w2 ⟨rfl, rfl⟩
  have HG : Hid (Gr (one' R) w ((w.alloc zero5).drewN n1)) := Lib.hid (((Gr.refl _ w).alloc _).drewN _)
  have r2 : ResAt w.heap.size ((w.alloc zero5).drewN n1) := heap_alloc_new _ _
  obtain ⟨d0, d1, d2, d3, d4, k0, k1, k2, k3, k4⟩ := r2.cells
  have HR4 := Lib.hid ((H.out.alloc zero5).drewN n1)
  clear r2
  unfold zero5 at d0 d1 d2 d3 d4 k0 k1 k2 k3 k4
  go_wp2_with fail
  refine bodyPost_ret (v := .tuple #[.agg #[.int .i64 0, .int .i64 0, .string ⟨#[]⟩, .slice none 0 0, .slice none 0 0], .int .i64 30]) (by simp [results, Tryd.results21, go_sem, d0, d1, d2, d3, d4]) rfl ?_
  rw [HV.out]
  exact val_done (x := .no eJson l) (JAt.leaf _ _ 0 0 ⟨#[]⟩) HG.out HR4.out HLT.out (fun j0 r h => nomatch h)
set_option maxHeartbeats 1000000 in
set_option maxRecDepth 100000 in
theorem value_deep (R : Nat) (s : ByteArray) (c : UInt8) (l : Bs) (w : World) (h : Rd R s (c :: l) w) (hs : s.size ≤ 16777215) (hf : firstB c = true) :
    Calls Tryd.prog 21 #[.pointer (some ⟨R, 0, none⟩), .int .i64 33] w (ValP R s (value 0 (c :: l)) w) := by
  have hs' : s.size ≤ maxLen := by unfold maxLen; omega
  have H := Lib.hid h
  have HLT := Lib.hid h.lt
  have HV : Hid (value 0 (c :: l) = .no eDeep (c :: l)) := Lib.hid (by rw [value, if_neg (by simp [hf])])
  have hi : ¬ Lib.indexByte firstS ((c.toNat : Int)).toNat.toUInt8 < 0 := by
    rw [index_neg, show ((c.toNat : Int)).toNat.toUInt8 = c by simp, first_has, hf]; simp
  have HN := fun W h => Lib.hid (next_byte R s c l W h hs')
  generalize (c.toNat : Int) = z at hi HN
  generalize hii : Lib.indexByte firstS z.toNat.toUInt8 = i at hi
  have HI := Lib.hid hii
  clear h hf hii
  go_enter Tryd.func21, Tryd.ntmps21
  go_wp2_with fail
  refine (HN _ (H.out.alloc _)).out.mono ?_
  rintro e w1 ⟨rfl, n1, rfl⟩
  go_wp2_with fail
  refine (idx_first z i HI.out _).mono ?_
  rintro e w2 ⟨rfl, rfl⟩
  have HG : Hid (Gr (one' R) w ((w.alloc zero5).drewN n1)) := Lib.hid (((Gr.refl _ w).alloc _).drewN _)
  have r2 : ResAt w.heap.size ((w.alloc zero5).drewN n1) := heap_alloc_new _ _
  obtain ⟨d0, d1, d2, d3, d4, k0, k1, k2, k3, k4⟩ := r2.cells
  have HR4 := Lib.hid ((H.out.alloc zero5).drewN n1)
  clear r2
  unfold zero5 at d0 d1 d2 d3 d4 k0 k1 k2 k3 k4
  go_wp2_with fail
  refine bodyPost_ret (v := .tuple #[.agg #[.int .i64 0, .int .i64 0, .string ⟨#[]⟩, .slice none 0 0, .slice none 0 0], .int .i64 31]) (by simp [results, Tryd.results21, go_sem, d0, d1, d2, d3, d4]) rfl ?_
  rw [HV.out]
  exact val_done (x := .no eDeep (c :: l)) (JAt.leaf _ _ 0 0 ⟨#[]⟩) HG.out HR4.out HLT.out (fun j0 r h => nomatch h)
set_option maxHeartbeats 1000000 in
set_option maxRecDepth 100000 in
theorem value_num (d : Nat) (hd : d < 32) (R : Nat) (s : ByteArray) (c : UInt8) (l : Bs) (w : World) (h : Rd R s (c :: l) w) (hs : s.size ≤ 16777215) (G : Gl w) (hR : gN ≤ R) (hf : firstB c = true) (hc : c ≠ 123 ∧ c ≠ 91 ∧ c ≠ 34 ∧ c ≠ 116 ∧ c ≠ 102 ∧ c ≠ 110) :
    Calls Tryd.prog 21 #[.pointer (some ⟨R, 0, none⟩), .int .i64 ((32 : Int) - d)] w (ValP R s (value (d + 1) (c :: l)) w) := by
  have hs' : s.size ≤ maxLen := by unfold maxLen; omega
  have H := Lib.hid h
  have HLT := Lib.hid h.lt
  have GG := Lib.hid G
  have HR := Lib.hid hR
  obtain ⟨h1, h2, h3, h4, h5, h6⟩ := hc
  have HV : Hid (value (d + 1) (c :: l) = number (c :: l)) := Lib.hid (by
    rw [value, if_neg (by simp [hf])]; simp only [if_neg h1, if_neg h2, if_neg h3, if_neg h4, if_neg h5, if_neg h6])
  have hn : ∀ k : UInt8, c ≠ k → ¬ (c.toNat : Int) = (k.toNat : Int) := fun k hk e => hk (UInt8.toNat_inj.1 (by omega))
  have z1 : ¬ (c.toNat : Int) = 123 := hn 123 h1
  have z2 : ¬ (c.toNat : Int) = 91 := hn 91 h2
  have z3 : ¬ (c.toNat : Int) = 34 := hn 34 h3
  have z4 : ¬ (c.toNat : Int) = 116 := hn 116 h4
  have z5 : ¬ (c.toNat : Int) = 102 := hn 102 h5
  have z6 : ¬ (c.toNat : Int) = 110 := hn 110 h6
  have hi : ¬ Lib.indexByte firstS ((c.toNat : Int)).toNat.toUInt8 < 0 := by
    rw [index_neg, show ((c.toNat : Int)).toNat.toUInt8 = c by simp, first_has, hf]; simp
  have HN := fun W h => Lib.hid (next_byte R s c l W h hs')
  clear hn
  generalize (c.toNat : Int) = z at hi HN z1 z2 z3 z4 z5 z6
  generalize hii : Lib.indexByte firstS z.toNat.toUInt8 = i at hi
  have HI := Lib.hid hii
  clear h hf hii h1 h2 h3 h4 h5 h6 G hR
  go_enter Tryd.func21, Tryd.ntmps21
  go_wp2_with fail
  refine (HN _ (H.out.alloc _)).out.mono ?_
  rintro e w1 ⟨rfl, n1, rfl⟩
  go_wp2_with fail
  refine (idx_first z i HI.out _).mono ?_
  rintro e w2 ⟨rfl, rfl⟩
  have hd1 : ¬ (32 : Int) < (32 : Int) - d := by omega
  go_wp2_with fail
  refine (number_any R s (c :: l) _ ((H.out.alloc _).drewN _) (by omega) ((GG.out.alloc _).drewN _) HR.out).mono ?_
  rw [← HV.out]
  rintro e w4 ⟨k, n, rfl, hjx, hg4, hr4⟩
  have HX : Hid (∀ j0 r, value (d + 1) (c :: l) = .ok j0 r → J.mk k n ⟨#[]⟩ [] [] = j0) := Lib.hid fun j0 r h => (hjx j0 r h).symm
  clear hjx
  unfold leaf
  have HG : Hid (Gr (one' R) w w4) := Lib.hid ((((Gr.refl _ w).alloc _).drewN _).trans hg4)
  have r2 : ResAt w.heap.size w4 := ResAt.gr (w := (w.alloc zero5).drewN n1) (heap_alloc_new _ _) hg4 (by have := HLT.out; omega)
  obtain ⟨d0, d1, d2, d3, d4, k0, k1, k2, k3, k4⟩ := r2.cells
  have HR4 := Lib.hid hr4
  clear hg4 hr4 r2
  go_wp2_with fail
  refine bodyPost_ret (v := .tuple #[.agg #[.int .i64 k, .int .i64 n, .string ⟨#[]⟩, .slice none 0 0, .slice none 0 0], .int .i64 (value (d + 1) (c :: l)).err]) (by simp [results, Tryd.results21, go_sem, d0, d1, d2, d3, d4]) rfl (val_done (JAt.leaf _ _ _ _ _) HG.out HR4.out HLT.out HX.out)
theorem head_first {l : Bs} (h : firstS.contains (headZ l).toNat.toUInt8 = true) : ∃ c l', l = c :: l' ∧ firstB c = true := by
  cases l with
  | nil => exact absurd h (by decide)
  | cons c l =>
    rw [show (headZ (c :: l)).toNat.toUInt8 = c by simp [headZ], first_has] at h
    exact ⟨c, l, rfl, h⟩
theorem value_any : ∀ d, d ≤ 32 → ValueOk d
  | 0, _ => by
    intro R s l w h hs G hR
    rw [show (33 : Int) - ((0 : Nat) : Int) = 33 from rfl]
    by_cases hf : firstS.contains (headZ l).toNat.toUInt8 = true
    · obtain ⟨c, l', rfl, hc⟩ := head_first hf
      exact value_deep R s c l' w h hs hc
    · exact value_no 0 33 R s l w h hs (by simpa using hf)
  | d + 1, hd => by
    have hv := value_any d (by omega)
    intro R s l w h hs G hR
    rw [show (33 : Int) - ((d + 1 : Nat) : Int) = 32 - d by omega]
    by_cases hf : firstS.contains (headZ l).toNat.toUInt8 = true
    · obtain ⟨c, l', rfl, hc⟩ := head_first hf
      by_cases h1 : c = 123
      · subst h1; exact value_obj d hv (by omega) R s l' w h hs G hR
      by_cases h2 : c = 91
      · subst h2; exact value_list d hv (by omega) R s l' w h hs G hR
      by_cases h3 : c = 34
      · subst h3; exact value_text d (by omega) R s l' w h hs G hR
      by_cases h4 : c = 116
      · subst h4; exact value_true d (by omega) R s l' w h hs G hR
      by_cases h5 : c = 102
      · subst h5; exact value_false d (by omega) R s l' w h hs G hR
      by_cases h6 : c = 110
      · subst h6; exact value_null d (by omega) R s l' w h hs G hR
      exact value_num d (by omega) R s c l' w h hs G hR hc ⟨h1, h2, h3, h4, h5, h6⟩
    · exact value_no (d + 1) _ R s l w h hs (by simpa using hf)
end Go.Proofs.YtdooeedemgmpiaaDoor
