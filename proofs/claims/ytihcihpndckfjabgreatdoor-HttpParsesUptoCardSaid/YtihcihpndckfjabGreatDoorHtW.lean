/- http's calls headOf, Reason, Print, Write. Conditions: those that each theorem names. -/
import Derived.Test.YtihcihpndckfjabGreatDoorHtGh
namespace Go.Proofs.YtihcihpndckfjabGreatDoor
set_option linter.unusedVariables false
open Go Go.RowKit Ht

theorem itoa_any (n : Int) (h0 : -9223372036854775808 ≤ n) (h1 : n ≤ 9223372036854775807) (w : World) (G : Gh w) :
    Calls Tryz.prog 28 #[.int .i64 n] w fun e w' => e = .returned (.string (B (Lib.itoa n))) ∧ Below w.heap.size w w' := by
  refine (Tryz.strconv_Itoa n h0 h1 w (G.pow w fun _ _ => rfl)).mono ?_
  rintro e w' ⟨rfl, k, os, rfl⟩
  exact ⟨rfl, below_grow w k os⟩
/-- The bytes behind the lines of a head whose body has so many. -/
def tailB (n : Nat) : List UInt8 := crlf ++ clen ++ Lib.itoa n ++ hend
def most : Nat := 4611686018427387904
theorem dec_len : ∀ (k u : Nat), u < 10 ^ (k + 1) → (Lib.decDigits u).length ≤ k + 1
  | 0, u, h => by rw [dec_one u (by omega)]; omega
  | k + 1, u, h => by
    rw [Lib.decDigits]
    split
    · simp
    · have := dec_len k (u / 10) (by rw [Nat.pow_succ] at h; omega)
      simp; omega
theorem itoa_len (n : Int) (h0 : -9223372036854775808 ≤ n) (h1 : n ≤ 9223372036854775807) : (B (Lib.itoa n)).size ≤ 20 := by
  rw [B_size]
  unfold Lib.itoa
  split
  · have := dec_len 18 n.natAbs (by omega)
    simp; omega
  · have := dec_len 18 n.toNat (by omega)
    omega
theorem tail_len (n : Nat) (h : n ≤ 9223372036854775807) : (B (tailB n)).size ≤ 42 := by
  have := itoa_len n (by omega) (by omega)
  rw [B_size] at this ⊢
  simp [tailB, crlf, clen, hend]
  omega
theorem mk_B (l : List UInt8) : (⟨l.toArray⟩ : ByteArray) = B l := rfl
set_option maxHeartbeats 1000000 in
set_option maxRecDepth 100000 in
theorem head_any (l b : ByteArray) (w : World) (hl : l.size ≤ most) (hb : b.size ≤ most) (G : Gh w) :
    Calls Tryz.prog 24 #[.string l, .string b] w fun e w' => e = .returned (.string (l ++ B (tailB b.size))) ∧ Below w.heap.size w w' := by
  have HI := Lib.hid (itoa_any b.size (by omega) (by unfold most at hb; omega) w G)
  have h20 := itoa_len b.size (by omega) (by unfold most at hb; omega)
  have HE : Hid (l ++ ⟨#[13, 10]⟩ ++ ⟨#[67, 111, 110, 116, 101, 110, 116, 45, 76, 101, 110, 103, 116, 104, 58, 32]⟩ ++ B (Lib.itoa b.size) ++ ⟨#[13, 10, 13, 10]⟩ = l ++ B (tailB b.size)) := Lib.hid (by
    rw [show (⟨#[13, 10]⟩ : ByteArray) = B crlf from rfl, show (⟨#[67, 111, 110, 116, 101, 110, 116, 45, 76, 101, 110, 103, 116, 104, 58, 32]⟩ : ByteArray) = B clen from rfl, show (⟨#[13, 10, 13, 10]⟩ : ByteArray) = B hend from rfl]
    rw [ByteArray.append_assoc, ByteArray.append_assoc, ByteArray.append_assoc, B_append, B_append, B_append]
    simp [tailB])
  generalize B (Lib.itoa b.size) = d at HI h20 HE
  have HL := Lib.hid hl
  clear G hl hb
  go_enter Tryz.func24, Tryz.ntmps24
  have h1 : l.size + 2 ≤ 9223372036854775807 := by have := HL.out; unfold most at this; omega
  have h2 : l.size + 2 + 16 ≤ 9223372036854775807 := by have := HL.out; unfold most at this; omega
  have h3 : l.size + 2 + 16 + d.size ≤ 9223372036854775807 := by have := HL.out; unfold most at this; omega
  have h4 : l.size + 2 + 16 + d.size + 4 ≤ 9223372036854775807 := by have := HL.out; unfold most at this; omega
  clear h20
  go_wp2_with fail
  refine HI.out.mono ?_
  rintro e w1 ⟨rfl, hb1⟩
  have HB := Lib.hid hb1
  clear hb1
  go_wp2_with fail
  go_ret
  rw [← HE.out]
  exact ⟨rfl, HB.out⟩
set_option maxHeartbeats 1000000 in
set_option maxRecDepth 100000 in
theorem reason_any (n : Int) (w : World) :
    Calls Tryz.prog 13 #[.int .i64 n] w fun e w' => e = .returned (.string (B (reason n))) ∧ w' = w := by
  by_cases h200 : n = 200
  · subst h200
    go_enter Tryz.func13, Tryz.ntmps13
    go_wp2_with fail
    go_ret
    exact ⟨rfl, rfl⟩
  by_cases h400 : n = 400
  · subst h400
    go_enter Tryz.func13, Tryz.ntmps13
    go_wp2_with fail
    go_ret
    exact ⟨rfl, rfl⟩
  by_cases h404 : n = 404
  · subst h404
    go_enter Tryz.func13, Tryz.ntmps13
    go_wp2_with fail
    go_ret
    exact ⟨rfl, rfl⟩
  by_cases h405 : n = 405
  · subst h405
    go_enter Tryz.func13, Tryz.ntmps13
    go_wp2_with fail
    go_ret
    exact ⟨rfl, rfl⟩
  by_cases h413 : n = 413
  · subst h413
    go_enter Tryz.func13, Tryz.ntmps13
    go_wp2_with fail
    go_ret
    exact ⟨rfl, rfl⟩
  by_cases h422 : n = 422
  · subst h422
    go_enter Tryz.func13, Tryz.ntmps13
    go_wp2_with fail
    go_ret
    exact ⟨rfl, rfl⟩
  by_cases h500 : n = 500
  · subst h500
    go_enter Tryz.func13, Tryz.ntmps13
    go_wp2_with fail
    go_ret
    exact ⟨rfl, rfl⟩
  by_cases h507 : n = 507
  · subst h507
    go_enter Tryz.func13, Tryz.ntmps13
    go_wp2_with fail
    go_ret
    exact ⟨rfl, rfl⟩
  have he : B (reason n) = ⟨#[]⟩ := by unfold reason; rw [if_neg h200, if_neg h400, if_neg h404, if_neg h405, if_neg h413, if_neg h422, if_neg h500, if_neg h507]; rfl
  rw [he]
  replace h200 : (n == 200) = false := by simpa using h200
  replace h400 : (n == 400) = false := by simpa using h400
  replace h404 : (n == 404) = false := by simpa using h404
  replace h405 : (n == 405) = false := by simpa using h405
  replace h413 : (n == 413) = false := by simpa using h413
  replace h422 : (n == 422) = false := by simpa using h422
  replace h500 : (n == 500) = false := by simpa using h500
  replace h507 : (n == 507) = false := by simpa using h507
  clear he
  go_enter Tryz.func13, Tryz.ntmps13
  go_wp2_with fail
  go_ret
  exact ⟨rfl, rfl⟩
theorem reason_len (n : Int) : (B (reason n)).size ≤ 22 := by
  rw [B_size]
  unfold reason
  repeat' split
  all_goals simp
theorem held_gh {w x : World} {K : Nat} {a b : Value} (h : x.cell? ⟨K, 0, none⟩ = some a ∧ x.cell? ⟨K, 1, none⟩ = some b ∧ Gh x ∧ Below w.heap.size w x) : Gh x := h.2.2.1
theorem held_drew {w x : World} {K : Nat} {a b : Value} (h : x.cell? ⟨K, 0, none⟩ = some a ∧ x.cell? ⟨K, 1, none⟩ = some b ∧ Gh x ∧ Below w.heap.size w x) :
    x.drew.cell? ⟨K, 0, none⟩ = some a ∧ x.drew.cell? ⟨K, 1, none⟩ = some b ∧ Gh x.drew ∧ Below w.heap.size w x.drew :=
  ⟨h.1, h.2.1, h.2.2.1.drewN 1, below_then h.2.2.2 (below_drewN _ 1)⟩
theorem held2 {w x y : World} {K : Nat} {a b : Value} (h : x.cell? ⟨K, 0, none⟩ = some a ∧ x.cell? ⟨K, 1, none⟩ = some b ∧ Gh x ∧ Below w.heap.size w x) (g : Below x.heap.size x y) :
    y.cell? ⟨K, 0, none⟩ = some a ∧ y.cell? ⟨K, 1, none⟩ = some b ∧ Gh y ∧ Below w.heap.size w y := by
  obtain ⟨h0, h1, h2, h3⟩ := h
  have hK : K < x.heap.size := Lib.lt_of_cell h0
  exact ⟨(g.cell hK).trans h0, (g.cell hK).trans h1, h2.below g, below_then h3 g⟩
set_option maxHeartbeats 1000000 in
set_option maxRecDepth 100000 in
theorem print_any (n : Int) (b : ByteArray) (w : World) (h0 : -9223372036854775808 ≤ n) (h1 : n ≤ 9223372036854775807) (hb : b.size ≤ 140737488355328) (G : Gh w) :
    Calls Tryz.prog 11 #[.agg #[.int .i64 n, .string b]] w fun e w' => e = .returned (.string (B (print n b.data.toList))) ∧ Below w.heap.size w w' := by
  have h20 := itoa_len n h0 h1
  have h22 := reason_len n
  have HI := Lib.hid (fun w G => itoa_any n h0 h1 w G)
  have HR := Lib.hid (fun w => reason_any n w)
  have HB := Lib.hid hb
  have HG := Lib.hid G
  have HE : Hid ((⟨#[72, 84, 84, 80, 47, 49, 46, 49, 32]⟩ : ByteArray) ++ B (Lib.itoa n) ++ ⟨#[32]⟩ ++ B (reason n) ++ ⟨#[13, 10]⟩ ++ ⟨#[67, 111, 110, 116, 101, 110, 116, 45, 84, 121, 112, 101, 58, 32, 97, 112, 112, 108, 105, 99, 97, 116, 105, 111, 110, 47, 106, 115, 111, 110]⟩ ++ B (tailB b.size) ++ b = B (print n b.data.toList)) := Lib.hid (by
    have eb : b = B b.data.toList := (B_of b).symm
    have es : b.size = b.data.toList.length := Lib.size_eq b
    rw [es]
    conv => lhs; rw [eb]
    simp only [B_data]
    rw [show (⟨#[72, 84, 84, 80, 47, 49, 46, 49, 32]⟩ : ByteArray) = B (ver ++ [32]) from rfl, show (⟨#[32]⟩ : ByteArray) = B [32] from rfl, show (⟨#[13, 10]⟩ : ByteArray) = B crlf from rfl, show (⟨#[67, 111, 110, 116, 101, 110, 116, 45, 84, 121, 112, 101, 58, 32, 97, 112, 112, 108, 105, 99, 97, 116, 105, 111, 110, 47, 106, 115, 111, 110]⟩ : ByteArray) = B ctype from rfl]
    simp only [B_append]
    simp [print, tailB])
  clear G hb h0 h1
  generalize B (Lib.itoa n) = d at HI h20 HE
  generalize B (reason n) = q at HR h22 HE
  have HT : Hid ((B (tailB b.size)).size ≤ 42) := Lib.hid (tail_len b.size (by have := HB.out; omega))
  have HW : Hid (∀ z : ByteArray, z.size ≤ 1000 → ∀ w, Gh w → Calls Tryz.prog 24 #[.string z, .string b] w fun e w' => e = .returned (.string (z ++ B (tailB b.size))) ∧ Below w.heap.size w w') :=
    Lib.hid (fun z hz w G => head_any z b w (by unfold most; omega) (by have := HB.out; unfold most; omega) G)
  generalize B (tailB b.size) = t at HW HE HT
  have b1 := heap_alloc_new w (.cells #[.int .i64 n, .string b] 37)
  go_enter Tryz.func11, Tryz.ntmps11
  have hS : ∀ o : Obj, o = .cells #[.int .i64 n, .string b] 37 → (w.alloc o).drew.cell? ⟨w.heap.size, 0, none⟩ = some (.int .i64 n) ∧ (w.alloc o).drew.cell? ⟨w.heap.size, 1, none⟩ = some (.string b) ∧ Gh (w.alloc o).drew ∧ Below w.heap.size w (w.alloc o).drew := by
    rintro o rfl
    have hb := (Below.refl w.heap.size w).alloc (Nat.le_refl _) (.cells #[.int .i64 n, .string b] 37)
    refine ⟨?_, ?_, (HG.out.below hb).drewN 1, below_then hb (below_drewN _ 1)⟩
    · show World.cell? (w.alloc (.cells #[.int .i64 n, .string b] 37)) _ = _
      unfold World.cell?; rw [b1]; rfl
    · show World.cell? (w.alloc (.cells #[.int .i64 n, .string b] 37)) _ = _
      unfold World.cell?; rw [b1]; rfl
  have HS := Lib.hid hS
  clear hS b1
  go_wp2_with fail
  have hs0 := HS.out _ rfl
  have g1 : ¬ 9223372036854775807 < 9 + d.size := by omega
  have g2 : ¬ 9223372036854775807 < 9 + d.size + 1 := by omega
  have g3 : ¬ 9223372036854775807 < 9 + d.size + 1 + q.size := by omega
  have g4 : ¬ 9223372036854775807 < 9 + d.size + 1 + q.size + 2 := by omega
  have g5 : ¬ 9223372036854775807 < 9 + d.size + 1 + q.size + 2 + 30 := by omega
  go_region_held3 (fun x => x.cell? ⟨w.heap.size, 0, none⟩ = some (.int .i64 n) ∧ x.cell? ⟨w.heap.size, 1, none⟩ = some (.string b) ∧ Gh x ∧ Below w.heap.size w x)
    (assumption)
    (first
      | (go_at_call 28; refine (HI.out _ (held_gh (by assumption))).mono ?_; rintro e w1 ⟨rfl, hb⟩; have hs1 := held2 (by assumption) hb)
      | (go_at_call 13; refine (HR.out _).mono ?_; rintro e w1 ⟨rfl, rfl⟩))
  clear hs0 g1 g2 g3
  have HE2 := HE
  clear HE
  have hzs : ((⟨#[72, 84, 84, 80, 47, 49, 46, 49, 32]⟩ : ByteArray) ++ d ++ ⟨#[32]⟩ ++ q).size ≤ 60 := by simp only [ByteArray.size_append', ByteArray.size_mk', List.size_toArray, List.length_cons, List.length_nil]; omega
  generalize (⟨#[72, 84, 84, 80, 47, 49, 46, 49, 32]⟩ : ByteArray) ++ d ++ ⟨#[32]⟩ ++ q = z at HE2 hzs ⊢
  clear g4 g5
  have g4 : ¬ 9223372036854775807 < z.size + 2 := by omega
  have g5 : ¬ 9223372036854775807 < z.size + 2 + 30 := by omega
  have g6 : ¬ 9223372036854775807 < z.size + 2 + 30 + t.size + b.size := by have := HB.out; have := HT.out; omega
  have HW2 := Lib.hid (HW.out (z ++ ⟨#[13, 10]⟩ ++ ⟨#[67, 111, 110, 116, 101, 110, 116, 45, 84, 121, 112, 101, 58, 32, 97, 112, 112, 108, 105, 99, 97, 116, 105, 111, 110, 47, 106, 115, 111, 110]⟩) (by simp only [ByteArray.size_append', ByteArray.size_mk', List.size_toArray, List.length_cons, List.length_nil]; omega))
  go_wp2_with fail
  have hs2 := held_drew hs1
  go_region_held3 (fun x => x.cell? ⟨w.heap.size, 0, none⟩ = some (.int .i64 n) ∧ x.cell? ⟨w.heap.size, 1, none⟩ = some (.string b) ∧ Gh x ∧ Below w.heap.size w x)
    (assumption)
    (first
      | (go_at_call 24; refine (HW2.out _ (held_gh (by assumption))).mono ?_; rintro e w1 ⟨rfl, hb⟩; have hs1 := held2 (by assumption) hb))
  have HF : Hid (Below w.heap.size w w1) := Lib.hid hs1.2.2.2
  clear hs1 hs2 g4 g5 g6 hzs hb
  go_wp2_with fail
  go_ret
  rw [← HE2.out]
  exact ⟨rfl, HF.out⟩
end Go.Proofs.YtihcihpndckfjabGreatDoor
