/- The document's own answers' calls small, bare, number. Conditions: those that each theorem names. -/
import Derived.Test.YtihcihpndckfjabGreatDoorHtQ
import Derived.Lib.ConvBytes
namespace Go.Proofs.YtihcihpndckfjabGreatDoor
set_option linter.unusedVariables false
open Go Go.RowKit Go.Shelf Ht

/-! ### small -/
theorem lower_val (c : UInt8) : ((65 : Int) ≤ c.toNat ∧ (c.toNat : Int) ≤ 90 ∧ ((Lib.lowerB c).toNat : Int) = c.toNat + 32) ∨ (((c.toNat : Int) < 65 ∨ (90 : Int) < c.toNat) ∧ Lib.lowerB c = c) := by
  have e3 : (65 : UInt8).toNat = 65 := rfl
  have e4 : (90 : UInt8).toNat = 90 := rfl
  by_cases h : Lib.isUpperB c = true
  · left
    have h' := h
    unfold Lib.isUpperB at h'
    simp only [Bool.and_eq_true, decide_eq_true_eq, UInt8.le_iff_toNat_le, e3, e4] at h'
    refine ⟨by omega, by omega, ?_⟩
    unfold Lib.lowerB
    rw [if_pos h, UInt8.toNat_add, show (32 : UInt8).toNat = 32 from rfl]
    omega
  · right
    have h' := h
    unfold Lib.isUpperB at h'
    simp only [Bool.and_eq_true, decide_eq_true_eq, UInt8.le_iff_toNat_le, e3, e4] at h'
    refine ⟨by omega, ?_⟩
    unfold Lib.lowerB
    rw [if_neg h]
/-- Where the walk over the letters stands: the first k are small. -/
structure SmallR (s : ByteArray) (w : World) (k : Nat) (wr : World) : Prop where
  below : Below w.heap.size w wr
  row : ∃ (cs : Array Value) (m : Nat × Nat), wr.heap[w.heap.size]? = some (.cells cs 5 m) ∧ s.size ≤ m.1 ∧ (∀ j, j < s.size → cs[j]? = some (.int .u8 (if j < k then (Lib.lowerB (s.data.toList.getD j 0)).toNat else (s.data.toList.getD j 0).toNat)))
theorem frozen_of {w : World} {g j : Nat} {cs : Array Value} {t : TypeId} {m : Nat × Nat} (h : w.heap[g]? = some (.cells cs t m)) (hj : j < m.1) : w.frozen? ⟨g, j, none⟩ = false := by
  simp [World.frozen?, h]; omega
theorem setCell_row {w : World} {g k : Nat} {cs : Array Value} {t : TypeId} {m : Nat × Nat} (h : w.heap[g]? = some (.cells cs t m)) (v : Value) : (w.setCell ⟨g, k, none⟩ v).heap[g]? = some (.cells (cs.setIfInBounds k v) t m) := by
  simp [World.setCell, h, Array.getElem?_modify]
theorem SmallR.new (s : ByteArray) (w : World) : SmallR s w 0 (Lib.bytesWorld w 5 s) := by
  refine ⟨Lib.bytesWorld_below w _ s, _, _, Lib.bytesWorld_at_new w _ s, ?_, fun j hj => ?_⟩
  · show s.size ≤ (Lib.bytesCells w _ s).size
    simp [Lib.bytesCells]
  · have h1 := Lib.bytesWorld_cell w 5 s j hj
    unfold World.cell? at h1
    rw [Lib.bytesWorld_at_new] at h1
    rw [if_neg (by omega)]
    simpa using h1
theorem SmallR.cell {s : ByteArray} {w wr : World} {k : Nat} (h : SmallR s w k wr) (hk : k < s.size) {c : UInt8} (hc : s.data.toList.getD k 0 = c) :
    wr.cell? ⟨w.heap.size, k, none⟩ = some (.int .u8 c.toNat) ∧ wr.frozen? ⟨w.heap.size, k, none⟩ = false := by
  obtain ⟨cs, m, h1, h2, h3⟩ := h.row
  refine ⟨?_, frozen_of h1 (by omega)⟩
  unfold World.cell?
  rw [h1]
  have := h3 k hk
  rw [if_neg (by omega), hc] at this
  simpa using this
theorem SmallR.keep {s : ByteArray} {w wr : World} {k : Nat} (h : SmallR s w k wr) (hl : Lib.lowerB (s.data.toList.getD k 0) = s.data.toList.getD k 0) : SmallR s w (k + 1) wr := by
  obtain ⟨cs, m, h1, h2, h3⟩ := h.row
  refine ⟨h.below, cs, m, h1, h2, fun j hj => ?_⟩
  rw [h3 j hj]
  by_cases e : j = k
  · subst e; rw [if_neg (by omega), if_pos (by omega), hl]
  · by_cases h4 : j < k
    · rw [if_pos h4, if_pos (by omega)]
    · rw [if_neg h4, if_neg (by omega)]
theorem SmallR.turn {s : ByteArray} {w wr : World} {k : Nat} (h : SmallR s w k wr) (hk : k < s.size) {z : Int} (hl : ((Lib.lowerB (s.data.toList.getD k 0)).toNat : Int) = z) :
    SmallR s w (k + 1) (wr.setCell ⟨w.heap.size, k, none⟩ (.int .u8 z)) := by
  obtain ⟨cs, m, h1, h2, h3⟩ := h.row
  refine ⟨h.below.setCell (p := ⟨w.heap.size, k, none⟩) (Nat.le_refl _) _, cs.setIfInBounds k (.int .u8 z), m, ?_, h2, fun j hj => ?_⟩
  · exact setCell_row h1 _
  · rw [Array.getElem?_setIfInBounds]
    by_cases e : k = j
    · subst e
      have := h3 k hk
      rw [if_pos rfl, if_pos (Array.getElem?_eq_some_iff.1 this).1, if_pos (by omega), hl]
    · rw [if_neg e, h3 j hj]
      by_cases h4 : j < k
      · rw [if_pos h4, if_pos (by omega)]
      · rw [if_neg h4, if_neg (by omega)]
theorem SmallR.done {s : ByteArray} {w wr : World} (h : SmallR s w s.size wr) (cap : Nat) :
    (convert 57 9 (.slice (some ⟨w.heap.size, 0, none⟩) s.size cap)).run Tryz.prog wr = .ok (.string (B (Lib.toLowerA s.data.toList))) wr := by
  obtain ⟨cs, m, h1, h2, h3⟩ := h.row
  have hlen : (Lib.toLowerA s.data.toList).length = s.size := by unfold Lib.toLowerA; rw [List.length_map, Lib.size_eq]
  have := run_convert_bytes_back (P := Tryz.prog) wr 57 9 5 ⟨w.heap.size, 0, none⟩ cap (Lib.toLowerA s.data.toList) Tryz.underlying57 Tryz.underlying5 Tryz.underlying9 (fun i hi => by
    rw [hlen] at hi
    have ha : (⟨w.heap.size, 0, none⟩ : Addr).add i = ⟨w.heap.size, i, none⟩ := by unfold Addr.add; split <;> simp_all
    have h5 := h3 i hi
    rw [if_pos hi] at h5
    rw [ha]
    unfold World.cell?
    rw [h1]
    have hi' : i < s.data.toList.length := by rw [← Lib.size_eq]; exact hi
    have e : (Lib.toLowerA s.data.toList)[i] = Lib.lowerB (s.data.toList.getD i 0) := by
      have e1 : (Lib.toLowerA s.data.toList)[i]? = some (Lib.lowerB (s.data.toList.getD i 0)) := by
        show (s.data.toList.map Lib.lowerB)[i]? = _
        rw [List.getElem?_map, List.getD_eq_getElem?_getD, List.getElem?_eq_getElem hi']
        rfl
      rw [List.getElem?_eq_getElem (by rw [hlen]; exact hi)] at e1
      exact Option.some.inj e1
    rw [e]
    simpa using h5)
  rw [hlen] at this
  exact this
set_option maxHeartbeats 1000000 in
set_option maxRecDepth 100000 in
theorem rsmall_any (s : ByteArray) (hs : s.size ≤ 16777215) (w : World) :
    Calls Tryz.prog 34 #[.string s] w fun e w' => e = .returned (.string (B (Lib.toLowerA s.data.toList))) ∧ Below w.heap.size w w' := by
  have hrun := Lib.run_convert_string_bytes (P := Tryz.prog) w 9 57 5 s Tryz.underlying9 Tryz.underlying57 Tryz.underlying5
  have HR := Lib.hid (SmallR.new s w)
  have HD := fun wr cap => Lib.hid (fun h => SmallR.done (s := s) (w := w) (wr := wr) h cap)
  generalize B (Lib.toLowerA s.data.toList) = r at *
  generalize Lib.bytesWorld w 5 s = W at *
  generalize grownCap w s.size 0 5 = cap at *
  go_enter Tryz.func34, Tryz.ntmps34
  go_wp2_with fail
  clear hrun
  go_loopw [4] (fun i wr => ∃ k : Nat, k ≤ s.size ∧ i = .int .i64 k ∧ SmallR s w k wr) (fun i _ => s.size - (intOf i).toNat)
  case atStart => exact ⟨0, Nat.zero_le _, rfl, HR.out⟩
  case round =>
    obtain ⟨k, hk, rfl, hr⟩ := hrel
    have HRR := Lib.hid hr
    clear hr
    by_cases hlt : k < s.size
    · obtain ⟨c, hc⟩ : ∃ c, s.data.toList.getD k 0 = c := ⟨_, rfl⟩
      obtain ⟨d1, d2⟩ := HRR.out.cell hlt hc
      rcases lower_val c with ⟨h1, h2, h3⟩ | ⟨h1 | h1, h3⟩
      · have HN := Lib.hid (HRR.out.turn hlt (z := (c.toNat : Int) + 32) (by rw [hc]; exact h3))
        clear h3 hc
        go_wp2_with fail
        go_roundw
        case rel => exact ⟨k + 1, by omega, by go_num, HN.out⟩
        case measure => simp [intOf]; omega
      · have HN := Lib.hid (HRR.out.keep (by rw [hc]; exact h3))
        clear h3 hc
        go_wp2_with fail
        go_roundw
        case rel => exact ⟨k + 1, by omega, by go_num, HN.out⟩
        case measure => simp [intOf]; omega
      · have HN := Lib.hid (HRR.out.keep (by rw [hc]; exact h3))
        have g1 : (65 : Int) ≤ c.toNat := by omega
        clear h3 hc
        go_wp2_with fail
        go_roundw
        case rel => exact ⟨k + 1, by omega, by go_num, HN.out⟩
        case measure => simp [intOf]; omega
    · obtain rfl : k = s.size := by omega
      have hd := (HD wr cap).out HRR.out
      go_wp2_with fail
      go_ret
      exact ⟨rfl, HRR.out.below⟩
/-! ### bare -/
def blankB (c : UInt8) : Bool := ([32, 9] : List UInt8).contains c
def strLen : Value → Nat | .string b => b.size | _ => 0
theorem drop_first (c : UInt8) (l : List UInt8) : (B (c :: l)).extract 1 (B (c :: l)).size = B l := by
  rw [Lib.extract_eq, B_data, B_size]
  simp [B]
theorem drop_last (c : UInt8) (l : List UInt8) : (B (l ++ [c])).extract 0 ((B (l ++ [c])).size - 1) = B l := by
  rw [Lib.extract_eq, B_data, B_size]
  simp [B]
theorem blank_ways (c : UInt8) : (blankB c = true ∧ (c.toNat : Int) = 32) ∨ (blankB c = true ∧ (c.toNat : Int) = 9) ∨ (blankB c = false ∧ ((c.toNat : Int) == 32) = false ∧ ((c.toNat : Int) == 9) = false) := by
  by_cases h1 : c = 32
  · subst h1; exact .inl ⟨rfl, rfl⟩
  · by_cases h2 : c = 9
    · subst h2; exact .inr (.inl ⟨rfl, rfl⟩)
    · right; right
      refine ⟨?_, ?_, ?_⟩
      · unfold blankB
        rw [← Bool.not_eq_true, List.contains_iff_mem]
        simp [h1, h2]
      · rw [beq_eq_false_iff_ne]
        intro e
        exact h1 (UInt8.toNat_inj.1 (show c.toNat = 32 by omega))
      · rw [beq_eq_false_iff_ne]
        intro e
        exact h2 (UInt8.toNat_inj.1 (show c.toNat = 9 by omega))
/-! ### number -/
theorem dig_ways (c : UInt8) : (digB c = true ∧ (48 : Int) ≤ c.toNat ∧ (c.toNat : Int) ≤ 57) ∨ (digB c = false ∧ ((c.toNat : Int) < 48 ∨ (57 : Int) < c.toNat)) := by
  cases h : digB c with
  | true => left; have := (digB_iff c).1 h; exact ⟨rfl, by omega, by omega⟩
  | false =>
    right
    refine ⟨rfl, ?_⟩
    have : ¬ (48 ≤ c.toNat ∧ c.toNat ≤ 57) := fun h' => by rw [(digB_iff c).2 h'] at h; cases h
    omega
end Go.Proofs.YtihcihpndckfjabGreatDoor
