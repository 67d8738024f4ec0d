/- The document's Decode of a manifest. Conditions: those that each theorem names. -/
import Derived.Test.YtkbdokakoapooaaGreatDoorMfW
namespace Go.Proofs.YtkbdokakoapooaaGreatDoor
set_option linter.unusedVariables false
open Go Go.RowKit Go.Shelf Go.Sort
namespace Mf
theorem wordR_small (s b : Bs) : (wordR s b).1.length ≤ s.length ∧ (wordR s b).2.1.length ≤ s.length := by
  unfold wordR
  split
  · have h := cut_len (s.drop b.length) [10]
    rw [List.length_drop] at h
    exact ⟨by show (Lib.cut (s.drop b.length) [10]).1.length ≤ _; omega, by show (Lib.cut (s.drop b.length) [10]).2.1.length ≤ _; omega⟩
  · exact ⟨Nat.zero_le _, Nat.le_refl _⟩
theorem segsR_small : ∀ (n : Nat) (T : Bs), (segsR n T).length ≤ T.length ∧ ∀ s ∈ segsR n T, s.size ≤ T.length
  | 0, T => ⟨Nat.zero_le _, fun s hs => by cases hs⟩
  | n + 1, T => by
    unfold segsR
    split
    · rename_i h
      have h1 := wordR_len T bSeg h
      have h2 := segsR_small n (wordR T bSeg).2.1
      have h3 := wordR_small T bSeg
      refine ⟨by rw [List.length_cons]; omega, fun s hs => ?_⟩
      rcases List.mem_cons.1 hs with rfl | hs
      · show (tx (wordR T bSeg).1).size ≤ _
        rw [tx_size]; omega
      · have := h2.2 s hs; omega
    · exact ⟨Nat.zero_le _, fun s hs => by cases hs⟩
theorem segsR_more {q : Nat} {T : Bs} (hq : T.length ≤ q) (h : (wordR T bSeg).2.2 = true) : ∃ q', q = q' + 1 ∧ (wordR T bSeg).2.1.length ≤ q' ∧ segsR q T = tx (wordR T bSeg).1 :: segsR q' (wordR T bSeg).2.1 := by
  have h1 := wordR_len T bSeg h
  refine ⟨q - 1, by omega, by omega, ?_⟩
  obtain ⟨q', rfl⟩ : ∃ q', q = q' + 1 := ⟨q - 1, by omega⟩
  rw [segsR, if_pos h]; rfl
theorem segsR_end {q : Nat} {T : Bs} (h : (wordR T bSeg).2.2 = false) : segsR q T = [] := by
  cases q with
  | zero => rfl
  | succ q => rw [segsR, if_neg (by rw [h]; decide)]
theorem numR_in (s : Bs) : -9223372036854775808 ≤ numR s ∧ numR s ≤ 9223372036854775807 := by
  unfold numR
  split
  · omega
  · rename_i h
    simp only [not_or] at h
    omega
theorem t_small (s : Bs) : (t1 s).length ≤ s.length ∧ (t2 s).length ≤ s.length ∧ (t3 s).length ≤ s.length ∧ (t4 s).length ≤ s.length := by
  have h1 := (wordR_small s bLode).2
  have h2 := (wordR_small (t1 s) bNext).2
  have h3 := (wordR_small (t2 s) bSeq).2
  have h4 := (wordR_small (t3 s) bLog).2
  exact ⟨h1, Nat.le_trans h2 h1, Nat.le_trans h3 (Nat.le_trans h2 h1), Nat.le_trans h4 (Nat.le_trans h3 (Nat.le_trans h2 h1))⟩
theorem rdR_small (n : Nat) (s : Bs) (hs : s.length ≤ 1048576) : Small (rdR n s) := by
  have h := t_small s
  have h2 := segsR_small n (t4 s)
  have h3 := (wordR_small (t3 s) bLog).1
  refine ⟨by show (segsR n (t4 s)).length ≤ _; omega, by show (tx (wordR (t3 s) bLog).1).size ≤ _; rw [tx_size]; omega, fun x hx => by have := h2.2 x hx; omega, (numR_in _).1, (numR_in _).2, (numR_in _).1, (numR_in _).2⟩
theorem decR_cases (s : ByteArray) (y : Mn) (fl : Bool) (hy : y = rdR s.size (bl s)) (hf : fl = flR (bl s)) : (fl = true ∧ encE y = 0 ∧ encS y = s ∧ decM s = y ∧ decE s = 0) ∨ (decM s = Mn.zero ∧ decE s = 110 ∧ (fl = false ∨ encE y = 110 ∨ (encE y = 0 ∧ ((encS y).toList == s.toList) = false))) := by
  have h := decR_eq s.size s (Nat.le_refl _)
  unfold decR at h
  rw [← hy, ← hf] at h
  unfold decM decE
  rw [← h]
  unfold encE encS
  cases fl with
  | false => right; rw [if_neg (fun c => by cases c.1)]; exact ⟨rfl, rfl, .inl rfl⟩
  | true =>
    by_cases hm : may y = true
    · by_cases h2 : encB y = bl s
      · left
        have hcond : (true = true ∧ may y = true ∧ encB y = bl s) := ⟨rfl, hm, h2⟩
        rw [if_pos hcond, if_pos hm, if_pos hm]
        exact ⟨rfl, rfl, by rw [h2]; exact tx_of s, rfl, rfl⟩
      · right
        have hcond : ¬ (true = true ∧ may y = true ∧ encB y = bl s) := fun c => h2 c.2.2
        rw [if_neg hcond, if_pos hm, if_pos hm]
        refine ⟨rfl, rfl, .inr (.inr ⟨rfl, ?_⟩)⟩
        rw [str_eq, decide_eq_false_iff_not, show bl (tx (encB y)) = encB y from tx_list _]
        exact h2
    · right
      have hcond : ¬ (true = true ∧ may y = true ∧ encB y = bl s) := fun c => hm c.2.1
      rw [if_neg hcond, if_neg hm]
      exact ⟨rfl, rfl, .inr (.inl rfl)⟩
def meas (t m : Value) : Nat := (match t with | .string b => 2 * b.size | _ => 0) + (match m with | .bool true => 1 | _ => 0)
/-- What Decode has read of segments' lines. -/
def SegInv (N : List ByteArray) (L : List ByteArray) (T : Bs) (more : Bool) : Prop := (more = true ∧ ∃ q, T.length ≤ q ∧ N = L ++ segsR q T) ∨ (more = false ∧ N = L)
set_option maxHeartbeats 4000000 in
set_option maxRecDepth 100000 in
theorem rdecode_any (s : ByteArray) (w : World) (hs : s.size ≤ 1048576) :
    Calls Tryz.prog 85 #[.string s] w fun e w' => ∃ v, e = .returned (.tuple #[v, .int .i64 (decE s)]) ∧ MnOwn w' w.heap.size v (decM s) ∧ Below w.heap.size w w' := by
  have HL := Lib.hid (bl_len s)
  have hts := t_small (bl s)
  rw [HL.out] at hts
  have HWD := Lib.hid (fun x b W (hx : x.size ≤ 16777215) (hb : b.size ≤ 16777215) => word_any x b W hx hb)
  have HNM := Lib.hid (fun x W (hx : x.size ≤ 16777215) => rnumber_any x W hx)
  have HEN := Lib.hid (fun v W (hv : MnAt W v (rdR s.size (bl s))) => rencode_any _ v W hv (rdR_small s.size (bl s) (by rw [HL.out]; exact hs)))
  have HDC := Lib.hid (decR_cases s _ _ rfl rfl)
  have b1 : bl ⟨#[108, 111, 100, 101, 115, 116, 97, 114, 32, 49]⟩ = bLode := rfl
  have b2 : bl ⟨#[110, 101, 120, 116, 32]⟩ = bNext := rfl
  have b3 : bl ⟨#[115, 101, 113, 32]⟩ = bSeq := rfl
  have b4 : bl ⟨#[108, 111, 103, 32]⟩ = bLog := rfl
  have b5 : bl ⟨#[115, 101, 103, 109, 101, 110, 116, 32]⟩ = bSeg := rfl
  have w1 := wordR_small (bl s) bLode
  have w2 := wordR_small (t1 (bl s)) bNext
  have w3 := wordR_small (t2 (bl s)) bSeq
  have w4 := wordR_small (t3 (bl s)) bLog
  have C1 := Lib.hid (fun W => HWD.out s ⟨#[108, 111, 100, 101, 115, 116, 97, 114, 32, 49]⟩ W (by omega) (by decide))
  have C2 := Lib.hid (fun W => HWD.out (tx (t1 (bl s))) ⟨#[110, 101, 120, 116, 32]⟩ W (by rw [tx_size]; omega) (by decide))
  have C3 := Lib.hid (fun W => HWD.out (tx (t2 (bl s))) ⟨#[115, 101, 113, 32]⟩ W (by rw [tx_size]; omega) (by decide))
  have C4 := Lib.hid (fun W => HWD.out (tx (t3 (bl s))) ⟨#[108, 111, 103, 32]⟩ W (by rw [tx_size]; omega) (by decide))
  have C5 : Hid (∀ (T : Bs) (W : World), T.length ≤ 1048576 → Calls Tryz.prog 115 #[.string (tx T), .string ⟨#[115, 101, 103, 109, 101, 110, 116, 32]⟩] W fun e w' => e = .returned (.tuple #[.string (tx (wordR T bSeg).1), .string (tx (wordR T bSeg).2.1), .bool (wordR T bSeg).2.2]) ∧ Below W.heap.size W w') := Lib.hid (fun T W hT => by
    have := HWD.out (tx T) ⟨#[115, 101, 103, 109, 101, 110, 116, 32]⟩ W (by rw [tx_size]; omega) (by decide)
    rwa [b5, show bl (tx T) = T from tx_list T] at this)
  have N1 := Lib.hid (fun W => HNM.out (tx (wordR (t1 (bl s)) bNext).1) W (by rw [tx_size]; omega))
  have N2 := Lib.hid (fun W => HNM.out (tx (wordR (t2 (bl s)) bSeq).1) W (by rw [tx_size]; omega))
  rw [b1] at C1
  rw [b2, show bl (tx (t1 (bl s))) = t1 (bl s) from tx_list _] at C2
  rw [b3, show bl (tx (t2 (bl s))) = t2 (bl s) from tx_list _] at C3
  rw [b4, show bl (tx (t3 (bl s))) = t3 (bl s) from tx_list _] at C4
  rw [show bl (tx (wordR (t1 (bl s)) bNext).1) = (wordR (t1 (bl s)) bNext).1 from tx_list _] at N1
  rw [show bl (tx (wordR (t2 (bl s)) bSeq).1) = (wordR (t2 (bl s)) bSeq).1 from tx_list _] at N2
  have q1 : (wordR (bl s) bLode).2.1 = t1 (bl s) := rfl
  have q2 : (wordR (t1 (bl s)) bNext).2.1 = t2 (bl s) := rfl
  have q3 : (wordR (t2 (bl s)) bSeq).2.1 = t3 (bl s) := rfl
  have q4 : (wordR (t3 (bl s)) bLog).2.1 = t4 (bl s) := rfl
  rw [q1] at C1
  rw [q2] at C2
  rw [q3] at C3
  rw [q4] at C4
  have HFL : Hid (flR (bl s) = ((wordR (bl s) bLode).2.2 && ((wordR (t1 (bl s)) bNext).2.2 && ((wordR (t2 (bl s)) bSeq).2.2 && (wordR (t3 (bl s)) bLog).2.2)))) := Lib.hid rfl
  have HRD : Hid (rdR s.size (bl s) = ⟨segsR s.size (t4 (bl s)), tx (wordR (t3 (bl s)) bLog).1, numR (wordR (t1 (bl s)) bNext).1, numR (wordR (t2 (bl s)) bSeq).1⟩) := Lib.hid rfl
  have HTS : Hid ((t4 (bl s)).length ≤ s.size) := Lib.hid hts.2.2.2
  have HSM := Lib.hid (segsR_small s.size (t4 (bl s)))
  generalize rdR s.size (bl s) = Y at *
  generalize flR (bl s) = FL at *
  generalize (wordR (bl s) bLode).1 = g1 at *
  generalize (wordR (bl s) bLode).2.2 = fa at *
  generalize (wordR (t1 (bl s)) bNext).1 = g2 at *
  generalize (wordR (t1 (bl s)) bNext).2.2 = fb at *
  generalize (wordR (t2 (bl s)) bSeq).1 = g3 at *
  generalize (wordR (t2 (bl s)) bSeq).2.2 = fc at *
  generalize (wordR (t3 (bl s)) bLog).1 = g4 at *
  generalize (wordR (t3 (bl s)) bLog).2.2 = fd at *
  clear hts w1 w2 w3 w4 b1 b2 b3 b4 q1 q2 q3 q4 HWD HNM
  generalize t1 (bl s) = T1 at *
  generalize t2 (bl s) = T2 at *
  generalize t3 (bl s) = T3 at *
  generalize t4 (bl s) = T4 at *
  clear b5
  have HB0 := Lib.hid (below_new w (.cells zero4 61))
  have HZ0 : Hid ((w.alloc (.cells zero4 61)).heap[w.heap.size]? = some (.cells zero4 61 (0, 0))) := Lib.hid (heap_new w _)
  have HS0 : Hid ((w.alloc (.cells zero4 61)).heap.size = w.heap.size + 1) := Lib.hid (by simp)
  unfold zero4 at HB0 HZ0 HS0
  go_enter Tryz.func85, Tryz.ntmps85
  go_wp2_with fail
  generalize w.alloc (.cells #[.slice none 0 0, .string ⟨#[]⟩, .int .i64 0, .int .i64 0] 61) = W0 at *
  refine (C1.out _).mono ?_
  clear C1
  rintro e w1 ⟨rfl, h1⟩
  have HB1 := Lib.hid h1
  clear h1
  go_wp2_with fail
  refine (C2.out _).mono ?_
  clear C2
  rintro e w2 ⟨rfl, h2⟩
  have HB2 := Lib.hid (below_then HB1.out h2)
  clear h2 HB1
  go_wp2_with fail
  refine (C3.out _).mono ?_
  clear C3
  rintro e w3 ⟨rfl, h3⟩
  have HB3 := Lib.hid (below_then HB2.out h3)
  clear h3 HB2
  go_wp2_with fail
  refine (C4.out _).mono ?_
  clear C4
  rintro e w4 ⟨rfl, h4⟩
  have HB4 := Lib.hid (below_then HB3.out h4)
  clear h4 HB3
  go_wp2_with fail
  refine (N1.out _).mono ?_
  clear N1
  rintro e w5 ⟨rfl, rfl⟩
  go_wp2_with fail
  refine (N2.out _).mono ?_
  clear N2
  rintro e w6 ⟨rfl, rfl⟩
  obtain ⟨nx, hnx⟩ : ∃ n, n = numR g2 := ⟨_, rfl⟩
  obtain ⟨sq, hsq⟩ : ∃ n, n = numR g3 := ⟨_, rfl⟩
  rw [← hnx, ← hsq] at HRD
  rw [← hnx, ← hsq]
  clear hnx hsq
  have HB6 : Hid (Below w.heap.size w w6) := Lib.hid (below_then HB0.out HB4.out)
  have HZ6 : Hid (w6.heap[w.heap.size]? = some (.cells #[.slice none 0 0, .string ⟨#[]⟩, .int .i64 0, .int .i64 0] 61 (0, 0))) := Lib.hid ((HB4.out.block _ (by rw [HS0.out]; omega)).trans HZ0.out)
  have HS6 : Hid (w.heap.size < w6.heap.size) := Lib.hid (by have := HB4.out.size; rw [HS0.out] at this; omega)
  clear HB4 HB0 HZ0 HS0
  go_wp2_with fail
  have hb7 := below_new w6 (.cells #[.slice none 0 0, .string (tx g4), .int .i64 nx, .int .i64 sq] 61)
  have hz7 := heap_new w6 (.cells #[.slice none 0 0, .string (tx g4), .int .i64 nx, .int .i64 sq] 61)
  have hs7 : (w6.alloc (.cells #[.slice none 0 0, .string (tx g4), .int .i64 nx, .int .i64 sq] 61)).heap.size = w6.heap.size + 1 := by simp
  generalize w6.alloc (.cells #[.slice none 0 0, .string (tx g4), .int .i64 nx, .int .i64 sq] 61) = W7 at *
  have HZ7 := Lib.hid hz7
  have HB7 := Lib.hid hb7
  have HS7 := Lib.hid hs7
  clear hb7 hz7 hs7
  obtain ⟨NS, hNS⟩ : ∃ N, N = segsR s.size T4 := ⟨_, rfl⟩
  rw [← hNS] at HRD HSM
  have HNS := Lib.hid hNS
  clear hNS
  go_loopw [5, 14] (fun t mo wr => ∃ (L : List ByteArray) (sv : Value) (T : Bs) (b : Bool), t = .string (tx T) ∧ mo = .bool b ∧ Hid (T.length ≤ s.size ∧ SegInv NS L T b ∧ wr.heap[w6.heap.size]? = some (.cells #[sv, .string (tx g4), .int .i64 nx, .int .i64 sq] 61 (0, 0)) ∧ OwnT wr W7.heap.size sv L ∧ Kx w6.heap.size W7.heap.size W7 wr)) (fun t mo _ => meas t mo)
  case atStart => exact ⟨[], .slice none 0 0, T4, true, rfl, rfl, Lib.hid ⟨HTS.out, .inl ⟨rfl, s.size, HTS.out, HNS.out⟩, HZ7.out, ownT_nil _ _, Kx.refl _ _ _⟩⟩
  case round =>
    obtain ⟨L, sv, T, b, rfl, rfl, HI⟩ := hrel
    obtain ⟨wo, rfl⟩ : ∃ wo : World, wo = wr := ⟨_, rfl⟩
    cases b with
    | true =>
      have CW := Lib.hid (C5.out T wo (Nat.le_trans HI.out.1 hs))
      have hsi := HI.out.2.1
      have HNX : Hid (((wordR T bSeg).2.2 = true → (wordR T bSeg).2.1.length < T.length ∧ SegInv NS (L ++ [tx (wordR T bSeg).1]) (wordR T bSeg).2.1 true) ∧ ((wordR T bSeg).2.2 = false → SegInv NS L T false)) := Lib.hid (by
        rcases hsi with ⟨_, q, hq, hN⟩ | ⟨h, _⟩
        · refine ⟨fun h => ⟨wordR_len T bSeg h, ?_⟩, fun h => ?_⟩
          · obtain ⟨q', e1, e2, e3⟩ := segsR_more hq h
            exact .inl ⟨rfl, q', e2, by rw [hN, e3]; simp⟩
          · exact .inr ⟨rfl, by rw [hN, segsR_end h, List.append_nil]⟩
        · cases h)
      clear hsi
      generalize (wordR T bSeg).1 = x at *
      generalize (wordR T bSeg).2.1 = T' at *
      cases hok : (wordR T bSeg).2.2 with
      | true =>
        rw [hok] at CW HNX
        clear hok
        have hn := HNX.out.1 rfl
        have HN2 := Lib.hid hn
        have hLl : L.length ≤ 2097152 := by
          have h1 := HSM.out.1
          have h2 := HTS.out
          rcases hn.2 with ⟨_, q, _, h3⟩ | ⟨h3, _⟩
          · have := congrArg List.length h3
            simp only [List.length_append, List.length_cons] at this
            omega
          · cases h3
        clear hn HNX
        go_wp2_with fail
        refine CW.out.mono ?_
        clear CW
        rintro e w8 ⟨rfl, hb8⟩
        have hce := (hb8.block _ (Array.getElem?_eq_some_iff.1 HI.out.2.2.1).1).trans HI.out.2.2.1
        have hbz : W7.heap.size ≤ w8.heap.size := Nat.le_trans HI.out.2.2.2.2.size hb8.size
        obtain ⟨v9, w9, hr9, ho9, hb9, hk9, hz9, _⟩ := append_text (tx x) (ownT_kept HI.out.2.2.2.1 hb8) hLl hbz
        obtain ⟨p9, c9, hv9⟩ := ho9.at.form
        subst hv9
        have hce9 := (hk9 w6.heap.size (Array.getElem?_eq_some_iff.1 hce).1 (ownT_ne HI.out.2.2.2.1 (by rw [HS7.out]; omega))).trans hce
        obtain ⟨d0, d1, d2, d3⟩ := of_cells4 hce
        obtain ⟨e0, e1, e2, e3⟩ := of_cells4 hce9
        have f0 := Lib.frozen_of_heap hce9 0
        have HCE := Lib.hid hce9
        have HO9 := Lib.hid ho9
        have HKX := Lib.hid ((HI.out.2.2.2.2.fresh (by exact HI.out.2.2.2.2.size) hb8).then hb9)
        have HTL : Hid (T'.length ≤ s.size) := Lib.hid (by have := HN2.out.1; have := HI.out.1; omega)
        clear hce hce9 hbz hk9 hz9 ho9 hb9 hb8 HI hLl
        go_wp2_with (at_builtin; refine wpList_append_run rfl _ _ _ _ rfl _ _ _ _ rfl rfl hr9 ?_)
        clear d0 d1 d2 d3 e0 e1 e2 e3 f0 hr9
        go_roundw
        case rel =>
          have ho := (congrArg (fun n => OwnT w9 W7.heap.size (.slice p9 n c9) (L ++ [tx x])) (show (L ++ [tx x]).length = L.length + 1 by simp)).mp HO9.out
          exact ⟨L ++ [tx x], .slice p9 (L.length + 1) c9, T', true, rfl, rfl, Lib.hid ⟨HTL.out, HN2.out.2, (setCell_row HCE.out _).trans rfl, ownT_set ho (by rw [HS7.out]; omega), HKX.out.set _ _⟩⟩
        case measure =>
          have := HN2.out.1
          simp only [meas, tx_size]
          omega
      | false =>
        rw [hok] at CW HNX
        clear hok
        have HN2 := Lib.hid (HNX.out.2 rfl)
        clear HNX
        go_wp2_with fail
        refine CW.out.mono ?_
        clear CW
        rintro e w8 ⟨rfl, hb8⟩
        have HKX := Lib.hid (HI.out.2.2.2.2.fresh (by exact HI.out.2.2.2.2.size) hb8)
        have HCE := Lib.hid ((hb8.block _ (Array.getElem?_eq_some_iff.1 HI.out.2.2.1).1).trans HI.out.2.2.1)
        have HO8 := Lib.hid (ownT_kept HI.out.2.2.2.1 hb8)
        have HTL := Lib.hid HI.out.1
        clear hb8 HI
        go_wp2_with fail
        go_roundw
        case rel => exact ⟨L, sv, T, false, rfl, rfl, Lib.hid ⟨HTL.out, HN2.out, HCE.out, HO8.out, HKX.out⟩⟩
        case measure =>
          simp only [meas]
          omega
    | false =>
      have hNL : NS = L := by
        rcases HI.out.2.1 with ⟨h, _⟩ | ⟨_, h⟩
        · cases h
        · exact h
      subst hNL
      obtain ⟨p9, c9, rfl⟩ := HI.out.2.2.2.1.at.form
      have HOW := Lib.hid HI.out.2.2.2.1
      have HKX := Lib.hid HI.out.2.2.2.2
      have HCE := Lib.hid HI.out.2.2.1
      obtain ⟨d0, d1, d2, d3⟩ := of_cells4 HI.out.2.2.1
      have HC9 := Lib.hid (HEN.out (.agg #[.slice p9 NS.length c9, .string (tx g4), .int .i64 nx, .int .i64 sq]) wo (by rw [HRD.out]; exact ⟨p9, c9, rfl, HOW.out.at⟩))
      have HY : Hid (Y = ⟨NS, tx g4, nx, sq⟩) := HRD
      have hz8 : wo.heap[w.heap.size]? = some (.cells #[.slice none 0 0, .string ⟨#[]⟩, .int .i64 0, .int .i64 0] 61 (0, 0)) := (HKX.out.block _ (by rw [HS7.out]; have := HS6.out; omega) (by have := HS6.out; omega)).trans ((HB7.out.block _ HS6.out).trans HZ6.out)
      have HZ8 := Lib.hid hz8
      clear HI HEN HRD hz8 C5 HNS HSM HTS
      go_wp2_with fail
      refine HC9.out.mono ?_
      clear HC9 d0 d1 d2 d3
      rintro e w8 ⟨rfl, hb8⟩
      have hc8 := (hb8.block _ (Array.getElem?_eq_some_iff.1 HCE.out).1).trans HCE.out
      have hz8 := (hb8.block _ (Array.getElem?_eq_some_iff.1 HZ8.out).1).trans HZ8.out
      obtain ⟨d0, d1, d2, d3⟩ := of_cells4 hc8
      obtain ⟨g0, g1', g2', g3'⟩ := of_cells4 hz8
      have f0 := Lib.frozen_of_heap hz8 0
      have f1 := Lib.frozen_of_heap hz8 1
      have f2 := Lib.frozen_of_heap hz8 2
      have f3 := Lib.frozen_of_heap hz8 3
      have HO8 := Lib.hid (ownT_kept HOW.out hb8)
      have HB8 : Hid (Below w.heap.size w w8) := Lib.hid (by
        have h1 : Below w.heap.size w W7 := below_then HB6.out HB7.out
        have h2 : Below w.heap.size W7 wo := HKX.out.below (by have := HS6.out; omega) (by rw [HS7.out]; have := HS6.out; omega)
        have h3 : Below w.heap.size w wo := h1.trans h2
        exact below_then h3 hb8)
      have HST : Hid (∀ a b c d, Below w.heap.size w ((((w8.setCell ⟨w.heap.size, 0, none⟩ a).setCell ⟨w.heap.size, 1, none⟩ b).setCell ⟨w.heap.size, 2, none⟩ c).setCell ⟨w.heap.size, 3, none⟩ d)) := Lib.hid (fun a b c d =>
        (((HB8.out.setCell (p := ⟨w.heap.size, 0, none⟩) (Nat.le_refl _) _).setCell (p := ⟨w.heap.size, 1, none⟩) (Nat.le_refl _) _).setCell (p := ⟨w.heap.size, 2, none⟩) (Nat.le_refl _) _).setCell (p := ⟨w.heap.size, 3, none⟩) (Nat.le_refl _) _)
      have HTT : Hid (∀ a b c d, OwnT ((((w8.setCell ⟨w.heap.size, 0, none⟩ a).setCell ⟨w.heap.size, 1, none⟩ b).setCell ⟨w.heap.size, 2, none⟩ c).setCell ⟨w.heap.size, 3, none⟩ d) W7.heap.size (.slice p9 NS.length c9) NS) := Lib.hid (fun a b c d => by
        have h6 := HS6.out
        have h7 := HS7.out
        exact ownT_set (ownT_set (ownT_set (ownT_set HO8.out (by omega)) (by omega)) (by omega)) (by omega))
      have HSZ : Hid (w.heap.size ≤ W7.heap.size) := Lib.hid (by have := HS6.out; have := HS7.out; omega)
      clear hb8 hc8 hz8
      rcases HDC.out with ⟨hf, hq1, hq2, hM, hE⟩ | ⟨hM, hE, hq⟩
      · have hfa : fa = true ∧ fb = true ∧ fc = true ∧ fd = true := by
          have h2 := HFL.out
          rw [hf] at h2
          have h3 := h2.symm
          simp only [Bool.and_eq_true] at h3
          exact h3
        obtain ⟨rfl, rfl, rfl, rfl⟩ := hfa
        rw [hq1, hq2]
        have hss : (s.toList == s.toList) = true := beq_self_eq_true _
        have HM := Lib.hid hM
        clear HDC hq1 hq2 hM hf
        go_wp2_with fail
        refine bodyPost_ret (v := .tuple #[.agg #[.slice p9 NS.length c9, .string (tx g4), .int .i64 nx, .int .i64 sq], .int .i64 0]) (by simp [results, Tryz.results85, go_sem, g0, g1', g2', g3']) rfl ⟨_, by rw [hE], ?_, HST.out _ _ _ _⟩
        rw [HM.out, HY.out]
        exact ⟨p9, c9, rfl, ownT_base (HTT.out _ _ _ _) HSZ.out⟩
      · by_cases hfl : FL = false
        · have hcases : fa = false ∨ (fa = true ∧ (fb = false ∨ (fb = true ∧ (fc = false ∨ (fc = true ∧ fd = false))))) := by
            have := HFL.out
            rw [hfl] at this
            revert this
            cases fa <;> cases fb <;> cases fc <;> cases fd <;> simp
          clear HDC hq HFL
          rcases hcases with rfl | ⟨rfl, rfl | ⟨rfl, rfl | ⟨rfl, rfl⟩⟩⟩
          all_goals
            go_wp2_with fail
            refine bodyPost_ret (v := .tuple #[.agg #[.slice none 0 0, .string ⟨#[]⟩, .int .i64 0, .int .i64 0], .int .i64 110]) (by simp [results, Tryz.results85, go_sem, g0, g1', g2', g3']) rfl ⟨_, by rw [hE], by rw [hM]; exact mnOwn_zero _ _, HST.out _ _ _ _⟩
        · have hfa : fa = true ∧ fb = true ∧ fc = true ∧ fd = true := by
            have h1 : FL = true := by cases FL <;> simp_all
            have h2 := HFL.out
            rw [h1] at h2
            have h3 := h2.symm
            simp only [Bool.and_eq_true] at h3
            exact h3
          obtain ⟨rfl, rfl, rfl, rfl⟩ := hfa
          rcases hq with hq | hq | ⟨hq, hq2⟩
          · exact absurd hq hfl
          · rw [hq]
            clear HDC HFL hfl
            go_wp2_with fail
            refine bodyPost_ret (v := .tuple #[.agg #[.slice none 0 0, .string ⟨#[]⟩, .int .i64 0, .int .i64 0], .int .i64 110]) (by simp [results, Tryz.results85, go_sem, g0, g1', g2', g3']) rfl ⟨_, by rw [hE], by rw [hM]; exact mnOwn_zero _ _, HST.out _ _ _ _⟩
          · rw [hq]
            clear HDC HFL hfl
            go_wp2_with fail
            refine bodyPost_ret (v := .tuple #[.agg #[.slice none 0 0, .string ⟨#[]⟩, .int .i64 0, .int .i64 0], .int .i64 110]) (by simp [results, Tryz.results85, go_sem, g0, g1', g2', g3']) rfl ⟨_, by rw [hE], by rw [hM]; exact mnOwn_zero _ _, HST.out _ _ _ _⟩
end Mf
end Go.Proofs.YtkbdokakoapooaaGreatDoor
