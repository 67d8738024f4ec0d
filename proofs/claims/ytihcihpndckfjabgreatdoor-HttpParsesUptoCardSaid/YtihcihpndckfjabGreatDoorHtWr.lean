/- http's call Write. Conditions: those that each theorem names. -/
import Derived.Test.YtihcihpndckfjabGreatDoorHtW
namespace Go.Proofs.YtihcihpndckfjabGreatDoor
set_option linter.unusedVariables false
open Go Go.RowKit Ht

theorem held3_gh {w x : World} {K : Nat} {a b c : Value} (h : x.cell? ⟨K, 0, none⟩ = some a ∧ x.cell? ⟨K, 1, none⟩ = some b ∧ x.cell? ⟨K, 2, none⟩ = some c ∧ Gh x ∧ Below w.heap.size w x) : Gh x := h.2.2.2.1
theorem held3_drew {w x : World} {K : Nat} {a b c : Value} (h : x.cell? ⟨K, 0, none⟩ = some a ∧ x.cell? ⟨K, 1, none⟩ = some b ∧ x.cell? ⟨K, 2, none⟩ = some c ∧ Gh x ∧ Below w.heap.size w x) :
    x.drew.cell? ⟨K, 0, none⟩ = some a ∧ x.drew.cell? ⟨K, 1, none⟩ = some b ∧ x.drew.cell? ⟨K, 2, none⟩ = some c ∧ Gh x.drew ∧ Below w.heap.size w x.drew :=
  ⟨h.1, h.2.1, h.2.2.1, h.2.2.2.1.drewN 1, below_then h.2.2.2.2 (below_drewN _ 1)⟩
theorem held3 {w x y : World} {K : Nat} {a b c : Value} (h : x.cell? ⟨K, 0, none⟩ = some a ∧ x.cell? ⟨K, 1, none⟩ = some b ∧ x.cell? ⟨K, 2, none⟩ = some c ∧ Gh x ∧ Below w.heap.size w x) (g : Below x.heap.size x y) :
    y.cell? ⟨K, 0, none⟩ = some a ∧ y.cell? ⟨K, 1, none⟩ = some b ∧ y.cell? ⟨K, 2, none⟩ = some c ∧ Gh y ∧ Below w.heap.size w y := by
  obtain ⟨h0, h1, h2, h3, h4⟩ := h
  have hK : K < x.heap.size := Lib.lt_of_cell h0
  exact ⟨(g.cell hK).trans h0, (g.cell hK).trans h1, (g.cell hK).trans h2, h3.below g, below_then h4 g⟩
theorem held3_new {w : World} (a b c : Value) (G : Gh w) : let x := w.alloc (.cells #[a, b, c] 23); x.cell? ⟨w.heap.size, 0, none⟩ = some a ∧ x.cell? ⟨w.heap.size, 1, none⟩ = some b ∧ x.cell? ⟨w.heap.size, 2, none⟩ = some c ∧ Gh x ∧ Below w.heap.size w x := by
  have b1 := heap_alloc_new w (.cells #[a, b, c] 23)
  have hb := (Below.refl w.heap.size w).alloc (Nat.le_refl _) (.cells #[a, b, c] 23)
  refine ⟨?_, ?_, ?_, G.below hb, hb⟩
  all_goals (show World.cell? (w.alloc (.cells #[a, b, c] 23)) _ = _; unfold World.cell?; rw [b1]; rfl)
/-- What Write answers, as a value. -/
def writeV (m p b : ByteArray) : Value := .tuple #[.string (B (write m.data.toList p.data.toList b.data.toList).1), .int .i64 (write m.data.toList p.data.toList b.data.toList).2]
set_option maxHeartbeats 2000000 in
set_option maxRecDepth 100000 in
theorem write_any (m p b : ByteArray) (w : World) (hm : m.size ≤ 140737488355328) (hp : p.size ≤ 140737488355328) (hb : b.size ≤ 140737488355328) (G : Gh w) :
    Calls Tryz.prog 9 #[.agg #[.string m, .string p, .string b]] w fun e w' => e = .returned (writeV m p b) ∧ Below w.heap.size w w' := by
  have HS := Lib.hid (held3_new (.string m) (.string p) (.string b) G)
  have HM := Lib.hid (method_any m (by unfold maxLen; omega))
  have HP := Lib.hid (path_any p (by unfold maxLen; omega))
  have HZ : Hid (m.size ≤ 140737488355328 ∧ p.size ≤ 140737488355328 ∧ b.size ≤ 140737488355328) := Lib.hid ⟨hm, hp, hb⟩
  clear hm hp hb G
  cases h1 : methodOk m.data.toList with
  | false =>
    have HE : Hid (writeV m p b = .tuple #[.string ⟨#[]⟩, .int .i64 40]) := Lib.hid (by unfold writeV write; rw [if_pos (.inl h1)]; rfl)
    rw [h1] at HM
    clear h1
    go_enter Tryz.func9, Tryz.ntmps9
    go_wp2_with fail
    refine (HM.out _).mono ?_
    rintro e w1 ⟨rfl, rfl⟩
    have hs := HS.out
    go_wp2_with fail
    go_ret2
    rw [HE.out]
    exact ⟨rfl, HS.out.2.2.2.2⟩
  | true =>
    rw [h1] at HM
    cases h2 : pathOk p.data.toList with
    | false =>
      have HE : Hid (writeV m p b = .tuple #[.string ⟨#[]⟩, .int .i64 40]) := Lib.hid (by unfold writeV write; rw [if_pos (.inr h2)]; rfl)
      rw [h2] at HP
      clear h1 h2
      have b0 := HS.out.2.1
      go_enter Tryz.func9, Tryz.ntmps9
      go_wp2_with fail
      refine (HM.out _).mono ?_
      rintro e w1 ⟨rfl, rfl⟩
      go_wp2_with fail
      refine (HP.out _).mono ?_
      rintro e w1 ⟨rfl, rfl⟩
      go_wp2_with fail
      go_ret2
      rw [HE.out]
      exact ⟨rfl, HS.out.2.2.2.2⟩
    | true =>
      rw [h2] at HP
      have hm16 : m.size ≤ 16 := by rw [Lib.size_eq]; exact (method_parts h1).2.1
      have HWR : Hid (write m.data.toList p.data.toList b.data.toList = if 262144 < b.data.toList.length ∨ 4096 < (headW m.data.toList p.data.toList b.data.toList).length then ([], 41) else (headW m.data.toList p.data.toList b.data.toList ++ b.data.toList, 0)) := Lib.hid (by unfold write; rw [if_neg (by rw [h1, h2]; simp)])
      clear h1 h2
      obtain ⟨l, hl⟩ : ∃ l, l = m ++ ⟨#[32]⟩ ++ p ++ ⟨#[32]⟩ ++ ⟨#[72, 84, 84, 80, 47, 49, 46, 49]⟩ := ⟨_, rfl⟩
      have hls : l.size = m.size + 1 + p.size + 1 + 8 := by rw [hl]; simp only [ByteArray.size_append', ByteArray.size_mk', List.size_toArray, List.length_cons, List.length_nil]
      have HT : Hid ((B (tailB b.size)).size ≤ 42) := Lib.hid (tail_len b.size (by have := HZ.out; omega))
      have HH : Hid (∀ w, Gh w → Calls Tryz.prog 24 #[.string l, .string b] w fun e w' => e = .returned (.string (l ++ B (tailB b.size))) ∧ Below w.heap.size w w') :=
        Lib.hid (fun w G => head_any l b w (by have := HZ.out; unfold most; omega) (by have := HZ.out; unfold most; omega) G)
      obtain ⟨q, hq⟩ : ∃ q, q = l ++ B (tailB b.size) := ⟨_, rfl⟩
      have HQ : Hid (B (headW m.data.toList p.data.toList b.data.toList) = q) := Lib.hid (by
        rw [hq, hl, Lib.size_eq b]
        conv => rhs; rw [← B_of m, ← B_of p]
        rw [show (⟨#[32]⟩ : ByteArray) = B [32] from rfl, show (⟨#[72, 84, 84, 80, 47, 49, 46, 49]⟩ : ByteArray) = B ver from rfl]
        simp only [B_append, B_data]
        simp [headW, tailB])
      have hqs : q.size ≤ l.size + 42 := by rw [hq]; have := HT.out; simp only [ByteArray.size_append']; omega
      rw [← hq] at HH
      clear hq HT
      have hql : (headW m.data.toList p.data.toList b.data.toList).length = q.size := by rw [← HQ.out, B_size]
      rw [hql, ← Lib.size_eq b] at HWR
      clear hql
      have g1 : m.size + 1 ≤ 9223372036854775807 := by omega
      have g2 : m.size + 1 + p.size ≤ 9223372036854775807 := by have := HZ.out; omega
      have g3 : m.size + 1 + p.size + 1 ≤ 9223372036854775807 := by have := HZ.out; omega
      have g4 : m.size + 1 + p.size + 1 + 8 ≤ 9223372036854775807 := by have := HZ.out; omega
      have g5 : q.size + b.size ≤ 9223372036854775807 := by have := HZ.out; omega
      clear hls hm16
      go_enter Tryz.func9, Tryz.ntmps9
      go_wp2_with fail
      refine (HM.out _).mono ?_
      rintro e w1 ⟨rfl, rfl⟩
      go_wp2_with fail
      refine (HP.out _).mono ?_
      rintro e w1 ⟨rfl, rfl⟩
      go_wp2_with fail
      rw [← hl]
      refine (HH.out _ HS.out.2.2.2.1).mono ?_
      rintro e w1 ⟨rfl, hb1⟩
      have H3 := Lib.hid (held3 HS.out hb1)
      have k2 := H3.out.2.2.1
      clear hb1
      have hqe : q ++ b = B (headW m.data.toList p.data.toList b.data.toList ++ b.data.toList) := by
        rw [← HQ.out, ← B_append, B_of]
      have HQE := Lib.hid hqe
      clear hqe
      by_cases hA : (262144 : Int) < b.size
      · have HE : Hid (writeV m p b = .tuple #[.string ⟨#[]⟩, .int .i64 41]) := Lib.hid (by unfold writeV; rw [HWR.out, if_pos (.inl (by omega))]; rfl)
        go_wp2_with fail
        go_ret2
        rw [HE.out]
        exact ⟨rfl, H3.out.2.2.2.2⟩
      · by_cases hB : (4096 : Int) < q.size
        · have HE : Hid (writeV m p b = .tuple #[.string ⟨#[]⟩, .int .i64 41]) := Lib.hid (by unfold writeV; rw [HWR.out, if_pos (.inr (by omega))]; rfl)
          go_wp2_with fail
          go_ret2
          rw [HE.out]
          exact ⟨rfl, H3.out.2.2.2.2⟩
        · have HE : Hid (writeV m p b = .tuple #[.string (q ++ b), .int .i64 0]) := Lib.hid (by unfold writeV; rw [HWR.out, if_neg (by omega), HQE.out])
          go_wp2_with fail
          go_ret2
          rw [HE.out]
          exact ⟨rfl, H3.out.2.2.2.2⟩
end Go.Proofs.YtihcihpndckfjabGreatDoor
