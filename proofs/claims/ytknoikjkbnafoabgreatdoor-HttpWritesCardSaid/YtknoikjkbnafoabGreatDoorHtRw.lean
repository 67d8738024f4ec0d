/- The document's own answers' calls Write and Print. Conditions: those that each theorem names. -/
import Derived.Test.YtknoikjkbnafoabGreatDoorHtRd
namespace Go.Proofs.YtknoikjkbnafoabGreatDoor
set_option linter.unusedVariables false
open Go Go.RowKit Go.Shelf Ht

theorem held2_new {w : World} (n : Int) (b : ByteArray) (G : Gh w) : (w.alloc (.cells #[.int .i64 n, .string b] 37)).cell? ⟨w.heap.size, 0, none⟩ = some (.int .i64 n) ∧ (w.alloc (.cells #[.int .i64 n, .string b] 37)).cell? ⟨w.heap.size, 1, none⟩ = some (.string b) ∧ Gh (w.alloc (.cells #[.int .i64 n, .string b] 37)) ∧ Below w.heap.size w (w.alloc (.cells #[.int .i64 n, .string b] 37)) := by
  have b1 := heap_alloc_new w (.cells #[.int .i64 n, .string b] 37)
  refine ⟨?_, ?_, G.alloc _, below_alloc _ _⟩
  all_goals (unfold World.cell?; rw [b1]; rfl)
set_option maxHeartbeats 2000000 in
set_option maxRecDepth 100000 in
theorem rprint_any (n : Int) (b : ByteArray) (w : World) (h0 : -9223372036854775808 ≤ n) (h1 : n ≤ 9223372036854775807) (hb : b.size ≤ 140737488355328) (G : Gh w) :
    Calls Tryz.prog 12 #[.agg #[.int .i64 n, .string b]] w fun e w' => e = .returned (.string (B (print n b.data.toList))) ∧ Below w.heap.size w w' := by
  have hs0 := held2_new n b G
  have hs1 := held_drew hs0
  have HS := Lib.hid hs1
  have HI := Lib.hid (digits_any n h0 h1)
  have HJ := Lib.hid (digits_any b.size (by omega) (by omega))
  have HR := Lib.hid (rreason_any n)
  have h20 := itoa_len n h0 h1
  have h21 := itoa_len b.size (by omega) (by omega)
  have h22 := reason_len n
  have HE : Hid ((⟨#[72, 84, 84, 80, 47, 49, 46, 49, 32]⟩ : ByteArray) ++ B (Lib.itoa n) ++ ⟨#[32]⟩ ++ B (reason n) ++ ⟨#[13, 10, 67, 111, 110, 116, 101, 110, 116, 45, 84, 121, 112, 101, 58, 32, 97, 112, 112, 108, 105, 99, 97, 116, 105, 111, 110, 47, 106, 115, 111, 110, 13, 10, 67, 111, 110, 116, 101, 110, 116, 45, 76, 101, 110, 103, 116, 104, 58, 32]⟩ ++ B (Lib.itoa b.size) ++ ⟨#[13, 10, 13, 10]⟩ ++ b = B (print n b.data.toList)) := Lib.hid (by
    have eb : b = B b.data.toList := (B_of b).symm
    have es : b.size = b.data.toList.length := Lib.size_eq b
    rw [es]
    conv => lhs; rw [eb]
    simp only [B_data]
    rw [show (⟨#[72, 84, 84, 80, 47, 49, 46, 49, 32]⟩ : ByteArray) = B (ver ++ [32]) from rfl, show (⟨#[32]⟩ : ByteArray) = B [32] from rfl, show (⟨#[13, 10, 13, 10]⟩ : ByteArray) = B hend from rfl, show (⟨#[13, 10, 67, 111, 110, 116, 101, 110, 116, 45, 84, 121, 112, 101, 58, 32, 97, 112, 112, 108, 105, 99, 97, 116, 105, 111, 110, 47, 106, 115, 111, 110, 13, 10, 67, 111, 110, 116, 101, 110, 116, 45, 76, 101, 110, 103, 116, 104, 58, 32]⟩ : ByteArray) = B (crlf ++ ctype ++ crlf ++ clen) from rfl]
    simp only [B_append]
    simp [print])
  generalize B (Lib.itoa n) = d at HI h20 HE
  generalize B (reason n) = q at HR h22 HE
  generalize B (Lib.itoa b.size) = t at HJ h21 HE
  have HB := Lib.hid hb
  clear G hs0 hs1 h0 h1 hb
  go_enter Tryz.func12, Tryz.ntmps12
  go_wp2_with fail
  have hs1 := HS.out
  have g1 : ¬ 9223372036854775807 < 9 + d.size := by omega
  have g2 : ¬ 9223372036854775807 < 9 + d.size + 1 := by omega
  have g3 : ¬ 9223372036854775807 < 9 + d.size + 1 + q.size := by omega
  have g4 : ¬ 9223372036854775807 < 9 + d.size + 1 + q.size + 50 := by omega
  have g5 : ¬ 9223372036854775807 < 9 + d.size + 1 + q.size + 50 + t.size := by omega
  have g6 : ¬ 9223372036854775807 < 9 + d.size + 1 + q.size + 50 + t.size + 4 := by omega
  have g7 : ¬ 9223372036854775807 < 9 + d.size + 1 + q.size + 50 + t.size + 4 + b.size := by have := HB.out; omega
  clear h20 h21 h22
  go_region_held3 (fun x => x.cell? ⟨w.heap.size, 0, none⟩ = some (.int .i64 n) ∧ x.cell? ⟨w.heap.size, 1, none⟩ = some (.string b) ∧ Gh x ∧ Below w.heap.size w x)
    (assumption)
    (first
      | (go_at_call 27; (with_reducible refine (HI.out _).mono ?_); rintro e w1 ⟨rfl, hb⟩; have hs2 := held2 (by assumption) hb)
      | (go_at_call 27; (with_reducible refine (HJ.out _).mono ?_); rintro e w3 ⟨rfl, hb⟩; have hs3 := held2 (by assumption) hb)
      | (go_at_call 14; refine (HR.out _).mono ?_; rintro e w2 ⟨rfl, rfl⟩))
  have HF : Hid (Below w.heap.size w w3) := Lib.hid hs3.2.2.2
  clear hs1 hs2 hs3 g1 g2 g3 g4 g5 g6 g7
  go_wp2_with fail
  go_ret
  rw [← HE.out]
  exact ⟨rfl, HF.out⟩
set_option maxHeartbeats 2000000 in
set_option maxRecDepth 100000 in
theorem rwrite_any (m p b : ByteArray) (w : World) (hm : m.size ≤ 140737488355328) (hp : p.size ≤ 140737488355328) (hb : b.size ≤ 140737488355328) (G : Gh w) :
    Calls Tryz.prog 10 #[.agg #[.string m, .string p, .string b]] w fun e w' => e = .returned (writeV m p b) ∧ Below w.heap.size w w' := by
  have HS := Lib.hid (held3_new (.string m) (.string p) (.string b) G)
  have HM := Lib.hid (rmethod_any m (by unfold maxLen; omega))
  have HP := Lib.hid (rpath_any p (by unfold maxLen; omega))
  have HZ : Hid (m.size ≤ 140737488355328 ∧ p.size ≤ 140737488355328 ∧ b.size ≤ 140737488355328) := Lib.hid ⟨hm, hp, hb⟩
  clear hm hp hb G
  cases h1 : methodOk m.data.toList with
  | false =>
    have HE : Hid (writeV m p b = .tuple #[.string ⟨#[]⟩, .int .i64 40]) := Lib.hid (by unfold writeV write; rw [if_pos (.inl h1)]; rfl)
    rw [h1] at HM
    clear h1
    go_enter Tryz.func10, Tryz.ntmps10
    go_wp2_with fail
    refine (HM.out _).mono ?_
    rintro e w1 ⟨rfl, rfl⟩
    have hs := HS.out
    go_wp2_with fail
    go_ret2
    rw [HE.out]
    exact ⟨rfl, HS.out.2.2.2.2⟩
  | true =>
    rw [h1] at HM
    cases h2 : pathOk p.data.toList with
    | false =>
      have HE : Hid (writeV m p b = .tuple #[.string ⟨#[]⟩, .int .i64 40]) := Lib.hid (by unfold writeV write; rw [if_pos (.inr h2)]; rfl)
      rw [h2] at HP
      clear h1 h2
      have b0 := HS.out.2.1
      go_enter Tryz.func10, Tryz.ntmps10
      go_wp2_with fail
      refine (HM.out _).mono ?_
      rintro e w1 ⟨rfl, rfl⟩
      go_wp2_with fail
      refine (HP.out _).mono ?_
      rintro e w1 ⟨rfl, rfl⟩
      go_wp2_with fail
      go_ret2
      rw [HE.out]
      exact ⟨rfl, HS.out.2.2.2.2⟩
    | true =>
      rw [h2] at HP
      have hm16 : m.size ≤ 16 := by rw [Lib.size_eq]; exact (method_parts h1).2.1
      have HWR : Hid (write m.data.toList p.data.toList b.data.toList = if 262144 < b.data.toList.length ∨ 4096 < (headW m.data.toList p.data.toList b.data.toList).length then ([], 41) else (headW m.data.toList p.data.toList b.data.toList ++ b.data.toList, 0)) := Lib.hid (by unfold write; rw [if_neg (by rw [h1, h2]; simp)])
      clear h1 h2
      have HD := Lib.hid (digits_any b.size (by omega) (by have := HZ.out; omega))
      have h20 := itoa_len b.size (by omega) (by have := HZ.out; omega)
      have HQ0 : Hid (m ++ ⟨#[32]⟩ ++ p ++ ⟨#[32, 72, 84, 84, 80, 47, 49, 46, 49, 13, 10, 67, 111, 110, 116, 101, 110, 116, 45, 76, 101, 110, 103, 116, 104, 58, 32]⟩ ++ B (Lib.itoa b.size) ++ ⟨#[13, 10, 13, 10]⟩ = B (headW m.data.toList p.data.toList b.data.toList)) := Lib.hid (by
        rw [Lib.size_eq b]
        conv => lhs; rw [← B_of m, ← B_of p]
        rw [show (⟨#[32]⟩ : ByteArray) = B [32] from rfl, show (⟨#[13, 10, 13, 10]⟩ : ByteArray) = B hend from rfl, show (⟨#[32, 72, 84, 84, 80, 47, 49, 46, 49, 13, 10, 67, 111, 110, 116, 101, 110, 116, 45, 76, 101, 110, 103, 116, 104, 58, 32]⟩ : ByteArray) = B ([32] ++ ver ++ crlf ++ clen) from rfl]
        simp only [B_append, B_data]
        simp [headW])
      generalize B (Lib.itoa b.size) = t at HD h20 HQ0
      obtain ⟨q, hq⟩ : ∃ q, q = m ++ ⟨#[32]⟩ ++ p ++ ⟨#[32, 72, 84, 84, 80, 47, 49, 46, 49, 13, 10, 67, 111, 110, 116, 101, 110, 116, 45, 76, 101, 110, 103, 116, 104, 58, 32]⟩ ++ t ++ ⟨#[13, 10, 13, 10]⟩ := ⟨_, rfl⟩
      have HQ : Hid (B (headW m.data.toList p.data.toList b.data.toList) = q) := Lib.hid (by rw [hq]; exact HQ0.out.symm)
      have hqs : q.size = m.size + 1 + p.size + 27 + t.size + 4 := by rw [hq]; simp only [ByteArray.size_append', ByteArray.size_mk', List.size_toArray, List.length_cons, List.length_nil]
      have hql : (headW m.data.toList p.data.toList b.data.toList).length = q.size := by rw [← HQ.out, B_size]
      rw [hql, ← Lib.size_eq b] at HWR
      clear hql HQ0
      have HQS := Lib.hid hqs
      have g1 : ¬ 9223372036854775807 < m.size + 1 := by omega
      have g2 : ¬ 9223372036854775807 < m.size + 1 + p.size := by have := HZ.out; omega
      have g3 : ¬ 9223372036854775807 < m.size + 1 + p.size + 27 := by have := HZ.out; omega
      have g4 : ¬ 9223372036854775807 < m.size + 1 + p.size + 27 + t.size := by have := HZ.out; omega
      have g5 : ¬ 9223372036854775807 < m.size + 1 + p.size + 27 + t.size + 4 := by have := HZ.out; omega
      have g6 : q.size + b.size ≤ 9223372036854775807 := by have := HZ.out; omega
      clear hm16 hqs h20
      have k0 := HS.out.1
      have k1 := HS.out.2.1
      have k2 := HS.out.2.2.1
      go_enter Tryz.func10, Tryz.ntmps10
      go_wp2_with fail
      refine (HM.out _).mono ?_
      rintro e w1 ⟨rfl, rfl⟩
      go_wp2_with fail
      refine (HP.out _).mono ?_
      rintro e w1 ⟨rfl, rfl⟩
      go_wp2_with fail
      have hs1 := held3_drew HS.out
      go_region_held3 (fun x => x.cell? ⟨w.heap.size, 0, none⟩ = some (.string m) ∧ x.cell? ⟨w.heap.size, 1, none⟩ = some (.string p) ∧ x.cell? ⟨w.heap.size, 2, none⟩ = some (.string b) ∧ Gh x ∧ Below w.heap.size w x)
        (assumption)
        (first
          | (go_at_call 27; refine (HD.out _).mono ?_; rintro e w3 ⟨rfl, hb⟩; have hs3 := held3 (by assumption) hb))
      clear g1 g2 g3 g4 g5 hs1
      have H3 := Lib.hid hs3
      rw [← hq]
      have k3 := hs3.2.2.1
      clear hs3 k0 k1 k2
      have hqe : q ++ b = B (headW m.data.toList p.data.toList b.data.toList ++ b.data.toList) := by
        rw [← HQ.out, ← B_append, B_of]
      have HQE := Lib.hid hqe
      clear hqe hq
      by_cases hA : (262144 : Int) < b.size
      · have HE : Hid (writeV m p b = .tuple #[.string ⟨#[]⟩, .int .i64 41]) := Lib.hid (by unfold writeV; rw [HWR.out, if_pos (.inl (by omega))]; rfl)
        go_wp2_with fail
        go_ret2
        rw [HE.out]
        exact ⟨rfl, H3.out.2.2.2.2⟩
      · by_cases hB : (4096 : Int) < q.size
        · have HE : Hid (writeV m p b = .tuple #[.string ⟨#[]⟩, .int .i64 41]) := Lib.hid (by unfold writeV; rw [HWR.out, if_pos (.inr (by omega))]; rfl)
          go_wp2_with fail
          go_ret2
          rw [HE.out]
          exact ⟨rfl, H3.out.2.2.2.2⟩
        · have HE : Hid (writeV m p b = .tuple #[.string (q ++ b), .int .i64 0]) := Lib.hid (by unfold writeV; rw [HWR.out, if_neg (by omega), HQE.out])
          go_wp2_with fail
          go_ret2
          rw [HE.out]
          exact ⟨rfl, H3.out.2.2.2.2⟩
end Go.Proofs.YtknoikjkbnafoabGreatDoor
