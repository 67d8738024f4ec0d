/- The walk of the law HttpLimits. Conditions: those that each theorem names. -/
import Derived.Test.YtknoikjkbnafoabDoorHtLBack
import Derived.Lib.ConvBytes
import Derived.Laws.MakeOwn
namespace Go.Proofs.YtknoikjkbnafoabDoor
set_option linter.unusedVariables false
open Go Go.RowKit Go.Shelf Ht

/-- A row of so many bytes, the first k of them 47, the others 0. -/
def rowK (P k : Nat) : Array Value := Array.ofFn (fun j : Fin P => if j.val < k then Value.int .u8 47 else Value.int .u8 0)
theorem rowK_size (P k : Nat) : (rowK P k).size = P := by simp [rowK]
theorem rowK_get (P k j : Nat) (h : j < P) : (rowK P k)[j]? = some (if j < k then Value.int .u8 47 else Value.int .u8 0) := by simp [rowK, h]
theorem rowK_out (P k j : Nat) (h : ¬ j < P) : (rowK P k)[j]? = none := by simp [rowK, h]
theorem rowK_next (P k : Nat) (h : k < P) : (rowK P k).setIfInBounds k (.int .u8 47) = rowK P (k + 1) := by
  apply Array.ext_getElem?
  intro j
  rw [Array.getElem?_setIfInBounds, rowK_size]
  by_cases hj : j < P
  · rw [rowK_get P (k + 1) j hj]
    by_cases e : k = j
    · subst e; rw [if_pos rfl, if_pos h, if_pos (by omega)]
    · rw [if_neg e, rowK_get P k j hj]
      by_cases h3 : j < k
      · rw [if_pos h3, if_pos (by omega)]
      · rw [if_neg h3, if_neg (by omega)]
  · rw [rowK_out P (k + 1) j hj, if_neg (by omega), rowK_out P k j hj]
theorem made_row (P : Nat) : madeCells #[Value.int .u8 0] P = rowK P 0 := by
  apply Array.ext
  · simp [madeCells, rowK]
  · intro j h1 h2
    simp [madeCells, rowK, Nat.mod_one]
theorem make_bytes (P : Nat) (hP : P ≤ 16777216) (w : World) :
    (Instr.makeSlice 33 (.int .i64 P) (.int .i64 P)).run Tryd.prog w = .ok (.slice (some ⟨w.heap.size, 0, none⟩) P P) (w.alloc (.cells (rowK P 0) 5)) := by
  obtain ⟨i, hi⟩ := Option.isSome_iff_exists.1 (show (Tryd.prog.info? 5).isSome = true by kernel_rfl)
  have hz : i.zero = some (.int .u8 0) := by
    have h : (Tryd.prog.info? 5).bind (·.zero) = some (.int .u8 0) := by kernel_rfl
    rw [hi] at h; exact h
  have hs : i.size = 1 := by
    have h : (Tryd.prog.info? 5).map (·.size) = some 1 := by kernel_rfl
    rw [hi] at h; simpa using h
  have hb : i.bytes = 1 := by
    have h : (Tryd.prog.info? 5).map (·.bytes) = some 1 := by kernel_rfl
    rw [hi] at h; simpa using h
  have := run_makeSlice (P := Tryd.prog) w 33 5 i (.int .u8 0) Tryd.underlying33 hi hz .i64 .i64 P P (by omega) (by omega) (by rw [hs]; omega) (by rw [hb]; omega) (by omega)
  rw [this, hs]
  simp only [Int.toNat_natCast, Nat.mul_one]
  rw [show (Value.int IntKind.u8 0).cells = #[Value.int .u8 0] from rfl, made_row]
/-- A row of bytes that are all the same, as a text. -/
theorem row_text (w : World) (g P c : Nat) (b : UInt8) (cs : Array Value) (h : w.heap[g]? = some (.cells cs 5 (0, 0))) (hc : ∀ j, j < P → cs[j]? = some (.int .u8 b.toNat)) :
    (convert 33 9 (.slice (some ⟨g, 0, none⟩) P c)).run Tryd.prog w = .ok (.string (B (List.replicate P b))) w := by
  have := run_convert_bytes_back (P := Tryd.prog) w 33 9 5 ⟨g, 0, none⟩ c (List.replicate P b) Tryd.underlying33 Tryd.underlying5 Tryd.underlying9 (fun i hi => by
    have hi' : i < P := by simpa using hi
    have ha : (⟨g, 0, none⟩ : Addr).add i = ⟨g, i, none⟩ := by unfold Addr.add; split <;> simp_all
    rw [ha, cell_of_row _ _ _ _ _ _ h, hc i hi']
    simp)
  rw [List.length_replicate] at this
  exact this
/-- Where the first loop stands. -/
def LimR (P : Nat) (w : World) (k : Nat) (wr : World) : Prop := wr.heap[w.heap.size]? = some (.cells (rowK P k) 5 (0, 0)) ∧ Below w.heap.size w wr
theorem LimR.new (P : Nat) (w : World) : LimR P w 0 (w.alloc (.cells (rowK P 0) 5)) := ⟨heap_alloc_new _ _, below_alloc _ _⟩
theorem LimR.next {P : Nat} {w wr : World} {k : Nat} (h : LimR P w k wr) (hk : k < P) : LimR P w (k + 1) (wr.setCell ⟨w.heap.size, k, none⟩ (.int .u8 47)) := by
  refine ⟨?_, h.2.setCell (p := ⟨w.heap.size, k, none⟩) (Nat.le_refl _) _⟩
  rw [heap_setCell_same _ _ _ _ _ _ h.1, rowK_next P k hk]
theorem path_lim {P : Nat} (h : 1 ≤ P) : pathOk (List.replicate P 47) = true := by
  unfold pathOk
  rw [List.head?_replicate, if_neg (by omega), List.all_replicate, if_neg (by omega)]
  decide
theorem headW_len (P Q : Nat) : (headW [71, 69, 84] (List.replicate P 47) (List.replicate Q 0)).length = 35 + P + (Lib.decDigits Q).length := by
  unfold headW
  rw [List.length_replicate, itoa_nat]
  simp [ver, crlf, clen, hend]
  omega
theorem write_lim {P Q : Nat} (h : 1 ≤ P) : write [71, 69, 84] (List.replicate P 47) (List.replicate Q 0) =
    if 262144 < Q ∨ 4096 < 35 + P + (Lib.decDigits Q).length then ([], 41) else (headW [71, 69, 84] (List.replicate P 47) (List.replicate Q 0) ++ List.replicate Q 0, 0) := by
  unfold write
  rw [if_neg (by rw [path_lim h]; decide), headW_len, List.length_replicate]
theorem lim_write (P Q : Nat) (h1 : 1 ≤ P) (h2 : P ≤ 5000) (h3 : Q ≤ 262147) : ∃ (S : ByteArray) (e0 : Int),
    Hid (((262144 < Q ∨ 4096 < 35 + P + (Lib.decDigits Q).length) ∧ S = ⟨#[]⟩ ∧ e0 = 41) ∨ (¬ (262144 < Q ∨ 4096 < 35 + P + (Lib.decDigits Q).length) ∧ e0 = 0 ∧ S.size = 35 + P + (Lib.decDigits Q).length + Q ∧ ∀ w, Gh w → Calls Tryd.prog 8 #[.string S] w fun e' w' => e' = .returned (.tuple #[.agg #[.string ⟨#[71, 69, 84]⟩, .string (B (List.replicate P 47)), .string (B (List.replicate Q 0))], .int .i64 0]) ∧ Below w.heap.size w w')) ∧
    Hid (∀ w, Gh w → Calls Tryd.prog 6 #[.agg #[.string ⟨#[71, 69, 84]⟩, .string (B (List.replicate P 47)), .string (B (List.replicate Q 0))]] w fun e' w' => e' = .returned (.tuple #[.string S, .int .i64 e0]) ∧ Below w.heap.size w w') := by
  have hW := fun w G => write_any ⟨#[71, 69, 84]⟩ (B (List.replicate P 47)) (B (List.replicate Q 0)) w (by decide) (by rw [B_size, List.length_replicate]; omega) (by rw [B_size, List.length_replicate]; omega) G
  unfold writeV at hW
  rw [B_data, B_data, show (⟨#[71, 69, 84]⟩ : ByteArray).data.toList = [71, 69, 84] from rfl] at hW
  have hw := write_lim (Q := Q) h1
  by_cases hc : 262144 < Q ∨ 4096 < 35 + P + (Lib.decDigits Q).length
  · rw [if_pos hc] at hw
    rw [hw] at hW
    exact ⟨_, _, Lib.hid (.inl ⟨hc, rfl, rfl⟩), Lib.hid hW⟩
  · have hw2 := hw
    rw [if_neg hc] at hw
    have he : (write [71, 69, 84] (List.replicate P 47) (List.replicate Q 0)).2 = 0 := by rw [hw]
    obtain ⟨a1, a2, a3, a4, a5⟩ := write_ok he
    rw [hw] at hW
    refine ⟨_, _, Lib.hid (.inr ⟨hc, rfl, ?_, fun w G => ?_⟩), Lib.hid hW⟩
    · rw [B_size, List.length_append, headW_len, List.length_replicate]
    · have hsz : (B (headW [71, 69, 84] (List.replicate P 47) (List.replicate Q 0) ++ List.replicate Q 0)).size ≤ 16777215 := by
        rw [B_size, List.length_append, headW_len, List.length_replicate]; omega
      have := parse_v (B (headW [71, 69, 84] (List.replicate P 47) (List.replicate Q 0) ++ List.replicate Q 0)) [71, 69, 84] (List.replicate P 47) (List.replicate Q 0) 0
        (by rw [B_data, parse_write a1 a2 a3 a4, if_pos rfl]) hsz (by rw [B_data]; exact read_write a1 a2 _) w G
      exact this
/-- The digits counted so far. -/
def DigR (Q n g : Nat) : Prop := g + (Lib.decDigits n).length = 1 + (Lib.decDigits Q).length
theorem DigR.next {Q n g : Nat} (h : DigR Q n g) (hn : 9 < n) : DigR Q (n / 10) (g + 1) := by
  unfold DigR at h ⊢
  rw [Lib.decDigits, dif_neg (by omega)] at h
  simp at h
  omega
theorem DigR.done {Q n g : Nat} (h : DigR Q n g) (hn : ¬ 9 < n) : g = (Lib.decDigits Q).length := by
  unfold DigR at h
  rw [dec_one n (by omega)] at h
  omega
set_option maxHeartbeats 2000000 in
set_option maxRecDepth 100000 in
theorem limits_walk (p0 b0 : Int) (w : World) (G : Gh w) :
    Calls Tryd.prog 5 #[.int .i64 p0, .int .i64 b0] w fun e w' => e = .returned (.bool true) ∧ Below w.heap.size w w' := by
  have HG := Lib.hid G
  clear G
  obtain ⟨P, hP⟩ : ∃ P : Nat, (P : Int) = max 1 (min p0 5000) := ⟨(max 1 (min p0 5000)).toNat, by omega⟩
  obtain ⟨Q, hQ⟩ : ∃ Q : Nat, (Q : Int) = max 0 (min b0 262147) := ⟨(max 0 (min b0 262147)).toNat, by omega⟩
  go_enter Tryd.func5, Tryd.ntmps5
  have hP0 : P ≤ 5000 := by omega
  have hP1 : 1 ≤ P := by omega
  have hQ0 : Q ≤ 262147 := by omega
  have hmk := make_bytes P (by omega)
  have hmq := make_bytes Q (by omega)
  have HP := Lib.hid hP
  have HQ := Lib.hid hQ
  have HQ0 := Lib.hid hQ0
  clear hP hQ hQ0
  go_wp2_with fail
  rw [← HP.out, ← HQ.out, hmk]
  go_wp2_with fail
  go_loopw [6] (fun i wr => ∃ k : Nat, k ≤ P ∧ i = .int .i64 k ∧ LimR P w k wr) (fun i _ => P - (intOf i).toNat)
  case atStart => exact ⟨0, Nat.zero_le _, rfl, LimR.new P w⟩
  case round =>
    obtain ⟨k, hk, rfl, hR⟩ := hrel
    have HR := Lib.hid hR
    clear hR
    by_cases hlt : k < P
    · have c0 : wr.cell? ⟨w.heap.size, k, none⟩ = some (.int .u8 0) := by rw [cell_of_row _ _ _ _ _ _ HR.out.1, rowK_get P k k hlt, if_neg (by omega)]
      have f0 : wr.frozen? ⟨w.heap.size, k, none⟩ = false := frozen_of_row _ _ _ _ _ HR.out.1
      have HN := Lib.hid (HR.out.next hlt)
      go_wp2_with fail
      go_roundw
      case rel => exact ⟨k + 1, by omega, by go_num, HN.out⟩
      case measure => simp [intOf]; omega
    · obtain rfl : P = k := by omega
      have HB := Lib.hid HR.out.2
      have hrow := HR.out.1
      have e1 : ∀ o, (convert 33 9 (.slice (some ⟨w.heap.size, 0, none⟩) P P)).run Tryd.prog (wr.alloc o) = .ok (.string (B (List.replicate P 47))) (wr.alloc o) := fun o =>
        row_text (wr.alloc o) w.heap.size P P 47 (rowK P P) ((Below.heap_alloc _ _ _ (Array.getElem?_eq_some_iff.1 hrow).1).trans hrow) (fun j hj => by rw [rowK_get P P j hj, if_pos hj]; rfl)
      have e2 : (convert 33 9 (.slice (some ⟨wr.heap.size, 0, none⟩) Q Q)).run Tryd.prog (wr.alloc (.cells (rowK Q 0) 5)) = .ok (.string (B (List.replicate Q 0))) (wr.alloc (.cells (rowK Q 0) 5)) :=
        row_text _ wr.heap.size Q Q 0 (rowK Q 0) (heap_alloc_new _ _) (fun j hj => by rw [rowK_get Q 0 j hj, if_neg (by omega)]; rfl)
      clear HR hrow
      obtain ⟨S, e0, HS, HWV⟩ := lim_write P Q hP1 hP0 HQ0.out
      have HG1 := Lib.hid ((HG.out.below HB.out).alloc (.cells (rowK Q 0) 5))
      have HB1 := Lib.hid (below_then HB.out (below_alloc wr (.cells (rowK Q 0) 5)))
      go_wp2_with fail
      refine (HWV.out _ HG1.out).mono ?_
      rintro e w1 ⟨rfl, h1⟩
      have HB2 := Lib.hid (below_then HB1.out h1)
      have HG2 := Lib.hid (HG1.out.below h1)
      clear h1 e1 e2 HWV
      have HDL : Hid ((Lib.decDigits Q).length ≤ 20) := Lib.hid (by
        have := itoa_len (Q : Nat) (by omega) (by have := HQ0.out; omega)
        rwa [itoa_nat, B_size] at this)
      go_wp2_with fail
      go_loop [10, 11] (fun g n => ∃ g' m : Nat, g = .int .i64 g' ∧ n = .int .i64 m ∧ m ≤ 16777215 ∧ Hid (DigR Q m g')) (fun _ n => (intOf n).toNat)
      case atStart => exact ⟨1, Q, rfl, rfl, (by have := HQ0.out; omega), Lib.hid rfl⟩
      case round =>
        obtain ⟨g, m, rfl, rfl, hm, HD⟩ := hrel
        by_cases h9 : (9 : Int) < m
        · have hg : g ≤ 21 := by have := HD.out; have := HDL.out; unfold DigR at *; omega
          have HN := Lib.hid (HD.out.next (by omega))
          go_wp2_with fail
          go_round
          case rel => exact ⟨g + 1, m / 10, rfl, rfl, by omega, HN⟩
          case measure => simp [intOf]; omega
        · have hge := HD.out.done (by omega)
          have HQS : Hid (Q ≤ 262147) := HQ0
          have hD := HDL.out
          clear HD HDL
          generalize (Lib.decDigits Q).length = D at HS hge hD
          subst hge
          have hQm : (Q : Int) ≤ 16777215 := by have := HQ0.out; omega
          rcases HS.out with ⟨hc, rfl, rfl⟩ | ⟨hc, rfl, hsz, hpa⟩
          · clear HS
            by_cases hA : (262144 : Int) < Q
            · clear hc
              go_wp2_with fail
              refine (sure_yes _ HG2.out).mono ?_
              rintro e w2 ⟨rfl, h2⟩
              have HB3 := Lib.hid (below_then HB2.out h2)
              clear h2
              go_wp2_with fail
              go_ret
              exact ⟨rfl, HB3.out⟩
            · have hB : (4096 : Int) < 4 + (P : Int) + 11 + 16 + g + 4 := by omega
              clear hc
              go_wp2_with fail
              refine (sure_yes _ HG2.out).mono ?_
              rintro e w2 ⟨rfl, h2⟩
              have HB3 := Lib.hid (below_then HB2.out h2)
              clear h2
              go_wp2_with fail
              go_ret
              exact ⟨rfl, HB3.out⟩
          · have HPA := Lib.hid hpa
            have hA : ¬ (262144 : Int) < Q := by omega
            have hB : ¬ (4096 : Int) < 4 + (P : Int) + 11 + 16 + g + 4 := by omega
            have q1 : ((S.size : Int) == 4 + (P : Int) + 11 + 16 + g + 4 + Q) = true := by rw [beq_iff_eq, hsz]; omega
            have hbs : (B (List.replicate Q 0)).size = Q := by rw [B_size, List.length_replicate]
            clear HS hc hsz hpa
            go_wp2_with fail
            refine (HPA.out _ HG2.out).mono ?_
            rintro e w2 ⟨rfl, h2⟩
            have HB3 := Lib.hid (below_then HB2.out h2)
            have HG3 := Lib.hid (HG2.out.below h2)
            have bb := heap_alloc_new w2 (.cells #[.string ⟨#[71, 69, 84]⟩, .string (B (List.replicate P 47)), .string (B (List.replicate Q 0))] 23)
            have c2 : (w2.alloc (.cells #[.string ⟨#[71, 69, 84]⟩, .string (B (List.replicate P 47)), .string (B (List.replicate Q 0))] 23)).cell? ⟨w2.heap.size, 2, none⟩ = some (.string (B (List.replicate Q 0))) := by unfold World.cell?; rw [bb]; rfl
            clear h2 bb
            go_wp2_with fail
            refine (sure_yes _ (HG3.out.alloc _)).mono ?_
            rintro e w3 ⟨rfl, h3⟩
            have HB4 := Lib.hid (below_then HB3.out (below_then (below_alloc _ _) h3))
            clear h3
            go_wp2_with fail
            go_ret
            exact ⟨rfl, HB4.out⟩
end Go.Proofs.YtknoikjkbnafoabDoor
