/- Rows of bytes of one's own, also such as a conversion of a text has made: appends, and back to a text. Conditions: those that each theorem names. -/
import Derived.Test.YtmfoihalganggaaFr
import Derived.Test.YtmfoihalganggaaRun
import Derived.ArgAppend
import Derived.Lib.ConvBytes
import Derived.Laws.IdiomStrings
import Derived.Maps.AppendAt
namespace Go.Proofs.Ytmfoihalganggaa
set_option linter.unusedVariables false
open Go Go.RowKit
/-- A row of bytes of one's own. -/
def Byt (w : World) (base : Nat) (v : Value) (L : List UInt8) : Prop :=
  ∃ g cap, v = .slice (some ⟨g, 0, none⟩) L.length cap ∧ (base ≤ g ∧ g < w.heap.size) ∧ (L.length ≤ cap ∧ cap ≤ maxLen) ∧ (∀ j (h : j < L.length), w.cell? ⟨g, j, none⟩ = some (.int .u8 (L[j]).toNat)) ∧
    (∀ j, L.length ≤ j → j < cap → (w.cell? ⟨g, j, none⟩).isSome = true ∧ w.frozen? ⟨g, j, none⟩ = false)
theorem Byt.below {w w' : World} {base : Nat} {v : Value} {L : List UInt8} (h : Byt w base v L) (hb : Below w.heap.size w w') : Byt w' base v L := by
  obtain ⟨g, cap, rfl, ⟨h1, h2⟩, h3, h4, h5⟩ := h
  have hg := hb.block g h2
  exact ⟨g, cap, rfl, ⟨h1, Nat.lt_of_lt_of_le h2 hb.size⟩, h3, fun j hj => by rw [World.cell?_of_block (a := ⟨g, j, none⟩) hg]; exact h4 j hj,
    fun j h6 h7 => by rw [World.cell?_of_block (a := ⟨g, j, none⟩) hg, World.frozen?_of_block (a := ⟨g, j, none⟩) hg]; exact h5 j h6 h7⟩
theorem Byt.form {w : World} {base : Nat} {v : Value} {L : List UInt8} (h : Byt w base v L) : ∃ g cap, v = .slice (some ⟨g, 0, none⟩) L.length cap := by
  obtain ⟨g, cap, rfl, _⟩ := h
  exact ⟨g, cap, rfl⟩
/-- Out of a row that is owned. -/
theorem Byt.of_own {w : World} {base : Nat} {v : Value} {L : List UInt8} (h : w.ownsRow base 5 1 v L.length (u8s L)) (h0 : 1 ≤ L.length) : Byt w base v L := by
  rcases h.2 with ⟨_, h1⟩ | ⟨g, cap, cur, rfl, hb, hg, h1, h2, h3, h4⟩
  · omega
  · have hlt : g < w.heap.size := (Array.getElem?_eq_some_iff.1 hg).1
    refine ⟨g, cap, rfl, ⟨hb, hlt⟩, ⟨h1, h2⟩, fun j hj => ?_, fun j h5 h6 => ⟨?_, frozen_of_row _ _ _ _ _ hg⟩⟩
    · rw [cell_of_row _ _ _ _ _ _ hg]
      have e : (cur.toList.take (L.length * 1))[j]? = (u8s L)[j]? := by rw [h4]
      rw [List.getElem?_take_of_lt (by omega), Array.getElem?_toList] at e
      rw [e]
      simp [u8s, hj]
    · rw [cell_of_row _ _ _ _ _ _ hg, Array.getElem?_eq_getElem (by omega)]
      rfl
/-- What a conversion of a text makes. -/
theorem Byt.conv (w : World) (s : ByteArray) (hs : s.size ≤ 1099511627776) : Byt (Lib.bytesWorld w 5 s) w.heap.size (.slice (some ⟨w.heap.size, 0, none⟩) s.size (grownCap w s.size 0 5)) s.data.toList := by
  have hl : s.data.toList.length = s.size := by simp
  have hge := grownCap_ge w s.size 0 5
  have hcm : grownCap w s.size 0 5 ≤ maxLen := grownCap_le_maxLen w s.size 0 5 (by unfold maxLen; omega)
  have hsz : (Lib.bytesCells w 5 s).size = grownCap w s.size 0 5 := by
    simp [Lib.bytesCells]; omega
  refine ⟨w.heap.size, _, by rw [hl], ⟨Nat.le_refl _, by rw [Lib.bytesWorld_size]; omega⟩, ⟨by rw [hl]; exact hge, hcm⟩, fun j hj => ?_, fun j h5 h6 => ⟨?_, ?_⟩⟩
  · rw [Lib.bytesWorld_cell w _ s j (by rw [← hl]; exact hj)]
    have hj' : j < s.data.size := by simpa using hj
    rw [List.getD_eq_getElem?_getD, List.getElem?_eq_getElem hj]
    rfl
  · rw [World.cell?, Lib.bytesWorld_at_new]
    simp only [Option.isSome_none, Bool.false_eq_true, if_false]
    rw [Array.getElem?_eq_getElem (by rw [hsz]; exact h6)]
    rfl
  · rw [World.frozen?, Lib.bytesWorld_at_new]
    simp only [Bool.and_eq_false_iff, decide_eq_false_iff_not]
    left
    rw [hsz]; omega
/-- One byte more. -/
theorem append_byte {w : World} {base : Nat} {v : Value} {L : List UInt8} (c : UInt8) (h : Byt w base v L) (hl : L.length + 1 ≤ 140737488355328) (hbase : base ≤ w.heap.size) :
    ∃ v' w', (∀ ty, (Builtin.append_ #[42, 42] ty #[v, .slice (some ⟨w.heap.size, 0, none⟩) 1 1]).run Try.prog (w.alloc (.cells #[.int .u8 (c.toNat : Int)] 5)) = .ok v' w') ∧ Byt w' base v' (L ++ [c]) ∧ Below base w w' := by
  obtain ⟨i0, hi, hz0, hz1, hz2⟩ := info_parts Try.infoU8
  have hbo : Below w.heap.size w (w.alloc (.cells #[.int .u8 (c.toNat : Int)] 5)) := (Below.refl _ _).alloc (Nat.le_refl _) _
  obtain ⟨g, cap, rfl, ⟨h1, h2⟩, ⟨h3, h3'⟩, h4, h5⟩ := h.below hbo
  have hg0 : g < w.heap.size := by
    obtain ⟨g2, cap2, e, ⟨_, h7⟩, _⟩ := h
    injection e with e1; injection e1 with e1; injection e1 with e1; omega
  have hB0 : Below base w (w.alloc (.cells #[.int .u8 (c.toNat : Int)] 5)) := (Below.refl _ _).alloc hbase _
  have hnews : ∀ j u, [Value.int .u8 (c.toNat : Int)][j]? = some u → (w.alloc (.cells #[.int .u8 (c.toNat : Int)] 5)).cell? ((⟨w.heap.size, 0, none⟩ : Addr).add j) = some u := cell_one_new w _ _
  have hone : ∀ u ∈ [Value.int .u8 (c.toNat : Int)], u.oneCell' = true := by intro u hu; simp at hu; subst hu; rfl
  generalize w.alloc (.cells #[.int .u8 (c.toNat : Int)] 5) = W at *
  by_cases hroom : L.length + 1 ≤ cap
  · have hin : ∀ j, j < [Value.int .u8 (c.toNat : Int)].length → (W.cell? ⟨g, 0 + L.length * i0.size + j, none⟩).isSome = true := by
      intro j hj
      obtain rfl : j = 0 := by simpa using hj
      rw [hz1]
      simpa using (h5 L.length (Nat.le_refl _) (by omega)).1
    have hfz : ∀ j, j < [Value.int .u8 (c.toNat : Int)].length → W.frozen? ⟨g, 0 + L.length * i0.size + j, none⟩ = false := by
      intro j hj
      obtain rfl : j = 0 := by simpa using hj
      rw [hz1]
      simpa using (h5 L.length (Nat.le_refl _) (by omega)).2
    have hr := fun ty => run_append_room_cells (P := Try.prog) W 42 ty 5 i0 Try.underlying42 hi g 0 L.length cap ⟨w.heap.size, 0, none⟩ 1 1 [.int .u8 (c.toNat : Int)] (by simp [hz1]) hnews hone hroom hin hfz
    rw [hz1] at hr hin
    simp only [Nat.zero_add, Nat.mul_one, World.setCells] at hr
    have hc0 := hin 0 (by simp)
    simp only [Nat.zero_add, Nat.mul_one, Nat.add_zero] at hc0
    refine ⟨_, _, hr, ⟨g, cap, by simp, ⟨h1, by simpa using h2⟩, ⟨by simpa using hroom, h3'⟩, fun j hj => ?_, fun j h6 h7 => ?_⟩, hB0.setCell h1 _⟩
    · rcases Nat.lt_or_ge j L.length with d | d
      · rw [World.cell?_setCell_other _ _ _ _ (by (try simp) <;> omega)]
        rw [h4 j d, List.getElem_append_left d]
      · obtain rfl : j = L.length := by simp at hj; omega
        rw [World.cell?_setCell_same' _ _ _ hc0, List.getElem_append_right (Nat.le_refl _)]
        simp
    · simp only [List.length_append, List.length_cons, List.length_nil] at h6
      rw [World.cell?_setCell_other _ _ _ _ (by (try simp) <;> omega), World.frozen?_setCell]
      exact h5 j (by omega) h7
  · obtain ⟨v', w', hr, ho, hg⟩ := run_append_arg_grows (P := Try.prog) W 42 0 5 i0 _ 1 1 Try.underlying42 hi hz0 hz1 hz2 rfl (by decide) ⟨g, 0, none⟩ L.length cap (u8s L) (by simp [u8s]) (fun j u hj => by
        have hj' : j < L.length := by
          rcases Nat.lt_or_ge j L.length with d | d
          · exact d
          · rw [List.getElem?_eq_none (by simp [u8s]; omega)] at hj; cases hj
        have ha : (⟨g, 0, none⟩ : Addr).add j = ⟨g, j, none⟩ := by unfold Addr.add; split <;> simp_all
        rw [ha, h4 j hj']
        simp [u8s, hj'] at hj
        rw [hj]) ⟨w.heap.size, 0, none⟩ 1 1 [.int .u8 (c.toNat : Int)] rfl hnews (by omega) (by unfold maxLen; omega) (by omega)
    have e : u8s L ++ [.int .u8 (c.toNat : Int)] = u8s (L ++ [c]) := by simp [u8s]
    rw [e] at ho
    have hsz := hB0.size
    have hob := Byt.of_own (L := L ++ [c]) (by simpa using ho) (by simp)
    obtain ⟨g2, cap2, hv2, ⟨k1, k2⟩, k3, k4, k5⟩ := hob
    exact ⟨v', w', fun ty => hr, ⟨g2, cap2, hv2, ⟨by omega, k2⟩, k3, k4, k5⟩, hB0.grown hg (Nat.le_trans hbase hsz) (fun j hj => by cases hj)⟩
/-- Back to a text. -/
theorem Byt.text {w : World} {base : Nat} {v : Value} {L : List UInt8} (h : Byt w base v L) : (convert 42 9 v).run Try.prog w = .ok (.string ⟨L.toArray⟩) w := by
  obtain ⟨g, cap, rfl, _, _, h4, _⟩ := h
  refine run_convert_bytes_back (P := Try.prog) w _ _ 5 _ _ L Try.underlying42 Try.underlying5 Try.underlying9 fun j hj => ?_
  have ha : (⟨g, 0, none⟩ : Addr).add j = ⟨g, j, none⟩ := by unfold Addr.add; split <;> simp_all
  rw [ha]; exact h4 j hj
end Go.Proofs.Ytmfoihalganggaa
