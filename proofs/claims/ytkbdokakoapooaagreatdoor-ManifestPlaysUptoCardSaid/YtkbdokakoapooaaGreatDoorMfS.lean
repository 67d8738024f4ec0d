/- The document's Encode of a manifest. Conditions: those that each theorem names. -/
import Derived.Test.YtkbdokakoapooaaGreatDoorMfQ
namespace Go.Proofs.YtkbdokakoapooaaGreatDoor
set_option linter.unusedVariables false
open Go Go.RowKit Go.Shelf Go.Sort
namespace Mf
def cA : ByteArray := ⟨#[108, 111, 100, 101, 115, 116, 97, 114, 32, 49, 10, 110, 101, 120, 116, 32]⟩
def cB : ByteArray := ⟨#[10, 115, 101, 113, 32]⟩
def cC : ByteArray := ⟨#[10, 108, 111, 103, 32]⟩
/-- The head's lines. -/
def headB (a b : Nat) (l : ByteArray) : Bs := joinL (heads ⟨[], l, a, b⟩)
theorem headB_eq (a b : Nat) (l : ByteArray) : cA ++ tx (Lib.decDigits a) ++ cB ++ tx (Lib.decDigits b) ++ cC ++ l ++ ⟨#[10]⟩ = tx (headB a b l) := by
  apply by_ext
  simp only [app_list, tx_list]
  unfold headB heads
  dsimp only
  rw [itoa_nat, itoa_nat]
  simp [joinL, ln0, wLode, wNext, wSeq, wLog, cA, cB, cC]
def segsB (A : List ByteArray) : Bs := A.flatMap fun s => lineB wSeg (bl s)
theorem body_head (A : List ByteArray) (l : ByteArray) (a b : Nat) : bodyB ⟨A, l, a, b⟩ = headB a b l ++ segsB A := by
  unfold bodyB linesOf headB segsB
  rw [joinL_app]
  simp [joinL, lineB_eq, List.flatMap_map, heads]
theorem segsB_next {A : List ByteArray} {k : Nat} {x : ByteArray} (h : A[k]? = some x) : segsB (A.take (k + 1)) = segsB (A.take k) ++ lineB wSeg (bl x) := by
  unfold segsB
  rw [List.take_add_one, h]; simp
theorem segsB_len (A : List ByteArray) (h : ∀ s ∈ A, s.size ≤ 16777215) : (segsB A).length ≤ A.length * 16777300 := by
  induction A with
  | nil => simp [segsB]
  | cons s A ih =>
    have h1 := ih (fun y hy => h y (by simp [hy]))
    have h2 := h s (by simp)
    have h3 := bl_len s
    unfold segsB at h1 ⊢
    rw [List.flatMap_cons, List.length_append, List.length_cons, Nat.add_mul]
    have : (lineB wSeg (bl s)).length = s.size + 9 := by simp [lineB, wSeg]
    omega
theorem headB_len (a b : Nat) (l : ByteArray) (ha : a ≤ 4503599627370496) (hb : b ≤ 4503599627370496) : (headB a b l).length ≤ l.size + 100 := by
  have h1 := dec_len 15 a (by omega)
  have h2 := dec_len 15 b (by omega)
  have h3 := bl_len l
  unfold headB heads
  dsimp only
  rw [itoa_nat, itoa_nat]
  simp [joinL, ln0, wLode, wNext, wSeq, wLog]
  omega
theorem sz_drew {w0 x : World} {K : Nat} {a b c d : Value} (h : x.cell? ⟨K, 0, none⟩ = some a ∧ x.cell? ⟨K, 1, none⟩ = some b ∧ x.cell? ⟨K, 2, none⟩ = some c ∧ x.cell? ⟨K, 3, none⟩ = some d ∧ Below (K + 1) w0 x) :
    x.drew.cell? ⟨K, 0, none⟩ = some a ∧ x.drew.cell? ⟨K, 1, none⟩ = some b ∧ x.drew.cell? ⟨K, 2, none⟩ = some c ∧ x.drew.cell? ⟨K, 3, none⟩ = some d ∧ Below (K + 1) w0 x.drew :=
  ⟨h.1, h.2.1, h.2.2.1, h.2.2.2.1, below_q h.2.2.2.2 1⟩
theorem sz_then {w0 x y : World} {K : Nat} {a b c d : Value} (h : x.cell? ⟨K, 0, none⟩ = some a ∧ x.cell? ⟨K, 1, none⟩ = some b ∧ x.cell? ⟨K, 2, none⟩ = some c ∧ x.cell? ⟨K, 3, none⟩ = some d ∧ Below (K + 1) w0 x) (g : Below x.heap.size x y) :
    y.cell? ⟨K, 0, none⟩ = some a ∧ y.cell? ⟨K, 1, none⟩ = some b ∧ y.cell? ⟨K, 2, none⟩ = some c ∧ y.cell? ⟨K, 3, none⟩ = some d ∧ Below (K + 1) w0 y := by
  obtain ⟨h0, h1, h2, h3, h5⟩ := h
  have hK : K < x.heap.size := Lib.lt_of_cell h0
  exact ⟨(g.cell hK).trans h0, (g.cell hK).trans h1, (g.cell hK).trans h2, (g.cell hK).trans h3, h5.trans (g.mono (by omega))⟩
set_option maxHeartbeats 4000000 in
set_option maxRecDepth 100000 in
theorem rencode_any (m : Mn) (v : Value) (w : World) (hv : MnAt w v m) (hm : Small m) :
    Calls Tryz.prog 40 #[v] w fun e w' => e = .returned (.tuple #[.string (encS m), .int .i64 (encE m)]) ∧ Below w.heap.size w w' := by
  have hMB := fun W (hW : Below w.heap.size w W) => rmay_any m v W (hv.below hW) hm
  obtain ⟨p, c, rfl, ht⟩ := hv
  obtain ⟨A, l, nx, sq⟩ := m
  obtain ⟨m1, m2, m3, m4, m5, m6, m7⟩ := hm
  dsimp only at *
  have HT := Lib.hid ht
  have HM2 := Lib.hid m2
  have HM3 := Lib.hid m3
  have hb0 := below_new w (.cells #[.slice p A.length c, .string l, .int .i64 nx, .int .i64 sq] 61)
  obtain ⟨d0, d1, d2, d3⟩ := cells4 w (.slice p A.length c) (.string l) (.int .i64 nx) (.int .i64 sq) 61
  have HC := Lib.hid (hMB _ hb0)
  have HB := Lib.hid hb0
  clear hMB ht hb0 m2 m3 m1 m4 m5 m6 m7
  cases hmay : may ⟨A, l, nx, sq⟩ with
  | false =>
    have HV : Hid (encS ⟨A, l, nx, sq⟩ = ⟨#[]⟩ ∧ encE ⟨A, l, nx, sq⟩ = 110) := Lib.hid (by unfold encS encE; rw [hmay]; exact ⟨rfl, rfl⟩)
    rw [hmay] at HC
    clear hmay
    go_enter Tryz.func40, Tryz.ntmps40
    generalize A.length = n at *
    go_wp2_with fail
    refine HC.out.mono ?_
    rintro e w1 ⟨rfl, h1⟩
    have HB1 := Lib.hid (below_then HB.out h1)
    clear h1
    go_wp2_with fail
    go_ret2
    rw [HV.out.1, HV.out.2]
    exact ⟨rfl, HB1.out⟩
  | true =>
    have HV : Hid (encS ⟨A, l, nx, sq⟩ = tx (encB ⟨A, l, nx, sq⟩) ∧ encE ⟨A, l, nx, sq⟩ = 0) := Lib.hid (by unfold encS encE; rw [hmay]; exact ⟨rfl, rfl⟩)
    obtain ⟨y1, y2, y3, y4, y5, _⟩ := (may_iff _).1 hmay
    dsimp only at y1 y2 y3 y4 y5
    rw [hmay] at HC
    obtain ⟨a, rfl⟩ := Int.eq_ofNat_of_zero_le (show 0 ≤ nx by omega)
    obtain ⟨b, rfl⟩ := Int.eq_ofNat_of_zero_le y3
    have ha : a ≤ 4503599627370496 := by omega
    have hb : b ≤ 4503599627370496 := by omega
    clear hmay y1 y2 y3 y4
    have HI := Lib.hid (fun n h W => rdigits_any n h W)
    have a1 : a ≤ 9223372036854775807 := by omega
    have b1 : b ≤ 9223372036854775807 := by omega
    have s1 : (tx (Lib.decDigits a)).size ≤ 16 := by rw [tx_size]; exact dec_len 15 a (by omega)
    have s2 : (tx (Lib.decDigits b)).size ≤ 16 := by rw [tx_size]; exact dec_len 15 b (by omega)
    have s3 := HM2.out
    have g1 : ¬ 9223372036854775807 < 16 + (tx (Lib.decDigits a)).size := by omega
    have g2 : ¬ 9223372036854775807 < 16 + (tx (Lib.decDigits a)).size + 5 := by omega
    have g3 : ¬ 9223372036854775807 < 16 + (tx (Lib.decDigits a)).size + 5 + (tx (Lib.decDigits b)).size := by omega
    have g4 : ¬ 9223372036854775807 < 16 + (tx (Lib.decDigits a)).size + 5 + (tx (Lib.decDigits b)).size + 5 := by omega
    have g5 : ¬ 9223372036854775807 < 16 + (tx (Lib.decDigits a)).size + 5 + (tx (Lib.decDigits b)).size + 5 + l.size := by omega
    have g6 : ¬ 9223372036854775807 < 16 + (tx (Lib.decDigits a)).size + 5 + (tx (Lib.decDigits b)).size + 5 + l.size + 1 := by omega
    have HA := Lib.hid ha
    have HBb := Lib.hid hb
    have HHD := Lib.hid (headB_eq a b l)
    unfold cA cB cC at HHD
    have hz0 := heap_new w (.cells #[.slice p A.length c, .string l, .int .i64 a, .int .i64 b] 61)
    have hss : (w.alloc (.cells #[.slice p A.length c, .string l, .int .i64 a, .int .i64 b] 61)).heap.size = w.heap.size + 1 := by simp
    have HW : Hid (∀ W : World, Below (w.heap.size + 1) (w.alloc (.cells #[.slice p A.length c, .string l, .int .i64 a, .int .i64 b] 61)) W → W.heap[w.heap.size]? = some (.cells #[.slice p A.length c, .string l, .int .i64 a, .int .i64 b] 61 (0, 0))) := Lib.hid (fun W hW => (hW.block _ (by omega)).trans hz0)
    have hS := Lib.hid (show _ ∧ _ ∧ _ ∧ _ ∧ Below (w.heap.size + 1) (w.alloc (.cells #[.slice p A.length c, .string l, .int .i64 a, .int .i64 b] 61)) (w.alloc (.cells #[.slice p A.length c, .string l, .int .i64 a, .int .i64 b] 61)) from ⟨d0, d1, d2, d3, Below.refl _ _⟩)
    clear ha hb hz0 hss
    go_enter Tryz.func40, Tryz.ntmps40
    generalize hn : A.length = n at *
    have HN := Lib.hid hn
    clear hn
    go_wp2_with fail
    refine HC.out.mono ?_
    clear HC
    rintro e w1 ⟨rfl, h1⟩
    have hs1 := sz_drew (sz_then hS.out h1)
    clear h1 hS d0 d1 d2 d3
    generalize w.alloc (.cells #[.slice p n c, .string l, .int .i64 a, .int .i64 b] 61) = W0 at *
    have HLE := Lib.hid y5
    clear y5 s1 s2 s3
    go_wp2_with fail
    go_region_held3 (fun x => x.cell? ⟨w.heap.size, 0, none⟩ = some (.slice p n c) ∧ x.cell? ⟨w.heap.size, 1, none⟩ = some (.string l) ∧ x.cell? ⟨w.heap.size, 2, none⟩ = some (.int .i64 a) ∧ x.cell? ⟨w.heap.size, 3, none⟩ = some (.int .i64 b) ∧ Below (w.heap.size + 1) W0 x)
      (first | assumption | exact sz_drew (by assumption) | go_keep)
      (first
        | (go_at_call 81; refine (HI.out _ (by assumption) _).mono ?_; rintro e y1 ⟨rfl, hy⟩; have hs2 := sz_then (by assumption) hy; clear hy))
    rw [HHD.out]
    rename_i hz2
    clear g1 g2 g3 g4 g5 g6 HI HHD a1 b1
    obtain ⟨d0, d1, d2, d3, hb9⟩ := hz2
    have HB9 := Lib.hid (HB.out.trans (hb9.mono (by omega)))
    have hhl := headB_len a b l HA.out HBb.out
    obtain ⟨HD, hHD⟩ : ∃ HD, HD = headB a b l := ⟨_, rfl⟩
    have HBO : Hid (bodyB ⟨A, l, a, b⟩ = HD ++ segsB A) := Lib.hid (by rw [body_head, hHD])
    rw [← hHD] at hhl ⊢
    have HHL : Hid (HD.length ≤ 16777400) := Lib.hid (by have := HM2.out; omega)
    clear hb9 hhl hHD hs1 hs2
    obtain ⟨wz, hwz⟩ : ∃ wz : World, wz = y1 := ⟨_, rfl⟩
    go_wp2_with fail
    go_loop [4, 5] (fun s i => ∃ k : Nat, k ≤ n ∧ i = .int .i64 k ∧ s = .string (tx (HD ++ segsB (A.take k)))) (fun _ i => n - (intOf i).toNat)
    case atStart => exact ⟨0, Nat.zero_le _, rfl, by simp [segsB]⟩
    case round =>
      obtain ⟨k, hk, rfl, rfl⟩ := hrel
      by_cases hlt : k < n
      · have hla : k < A.length := by rw [HN.out]; exact hlt
        obtain ⟨g, off, rfl, hc⟩ := txs_cell HT.out hla
        have ca := hc _ HB9.out
        have hx : A[k]? = some A[k] := List.getElem?_eq_getElem hla
        have hxs := HM3.out A[k] (List.getElem_mem hla)
        generalize A[k] = x at ca hx hxs
        have hse := segsB_next hx
        have hlen := segsB_len (A.take k) (fun s hs => HM3.out s (List.mem_of_mem_take hs))
        have hss : (tx (HD ++ segsB (A.take k))).size ≤ 17247064400 := by
          rw [tx_size, List.length_append]
          have h1 := HHL.out
          have h2 := HLE.out
          rw [List.length_take] at hlen
          have h3 : min k A.length ≤ 1024 := by omega
          have h4 := Nat.mul_le_mul_right 16777300 h3
          omega
        have HE : Hid (tx (HD ++ segsB (A.take k)) ++ (⟨#[115, 101, 103, 109, 101, 110, 116, 32]⟩ ++ x ++ ⟨#[10]⟩) = tx (HD ++ segsB (A.take (k + 1)))) := Lib.hid (by
          apply by_ext
          rw [hse]
          simp only [app_list, tx_list]
          simp [lineB, wSeg])
        generalize tx (HD ++ segsB (A.take k)) = S0 at *
        have s8 : (⟨#[115, 101, 103, 109, 101, 110, 116, 32]⟩ : ByteArray).size = 8 := rfl
        have s1 : (⟨#[10]⟩ : ByteArray).size = 1 := rfl
        have g1 : 8 + x.size ≤ 9223372036854775807 := by omega
        have g2 : 8 + x.size + 1 ≤ 9223372036854775807 := by omega
        have g3 : S0.size + (8 + x.size + 1) ≤ 9223372036854775807 := by omega
        clear hc hx hxs hse hlen hss s8 s1
        go_wp2_with fail
        go_round
        case rel =>
          refine ⟨k + 1, by omega, congrArg _ (show wrap64 ((k : Int) + 1) = ((k + 1 : Nat) : Int) by unfold wrap64; have := HLE.out; omega), congrArg _ HE.out⟩
        case measure =>
          rw [show wrap64 ((k : Int) + 1) = ((k + 1 : Nat) : Int) by unfold wrap64; have := HLE.out; omega]
          exact int_down hlt
      · obtain rfl : k = n := by omega
        have hta : A.take k = A := by rw [← HN.out, List.take_length]
        have hlen := segsB_len A HM3.out
        rw [hta, ← HBO.out]
        have hbs : (tx (bodyB ⟨A, l, a, b⟩)).size ≤ 17247064400 := by
          rw [tx_size, HBO.out, List.length_append]
          have h1 := HHL.out
          have h2 := HLE.out
          have h4 := Nat.mul_le_mul_right 16777300 h2
          rw [HN.out] at hlen
          omega
        have hcl := crcN_lt (tx (bodyB ⟨A, l, a, b⟩))
        have HSU := Lib.hid (fun W => sumRef_any (tx (bodyB ⟨A, l, a, b⟩)) W (by unfold maxLen; omega))
        have HDG := Lib.hid (fun W => rdigits_any (crcN (tx (bodyB ⟨A, l, a, b⟩))) (by omega) W)
        have hd10 : (tx (Lib.decDigits (crcN (tx (bodyB ⟨A, l, a, b⟩))))).size ≤ 10 := by
          rw [tx_size]; exact dec_len 9 _ (by omega)
        have hcw : wrap64 (crcN (tx (bodyB ⟨A, l, a, b⟩)) : Int) = (crcN (tx (bodyB ⟨A, l, a, b⟩)) : Int) := by unfold wrap64; omega
        have hcw2 : IntKind.i64.wrap (crcN (tx (bodyB ⟨A, l, a, b⟩)) : Int) = (crcN (tx (bodyB ⟨A, l, a, b⟩)) : Int) := by rw [IntKind.wrap_i64]; omega
        have HE : Hid (tx (bodyB ⟨A, l, a, b⟩) ++ ⟨#[115, 117, 109, 32]⟩ ++ tx (Lib.decDigits (crcN (tx (bodyB ⟨A, l, a, b⟩)))) ++ ⟨#[10]⟩ = tx (encB ⟨A, l, a, b⟩)) := Lib.hid (by
          apply by_ext
          simp only [app_list, tx_list]
          unfold encB tailB lineB wSum
          rw [show Wl.crcL (bodyB ⟨A, l, a, b⟩) = crcN (tx (bodyB ⟨A, l, a, b⟩)) from rfl]
          simp)
        have s4 : (⟨#[115, 117, 109, 32]⟩ : ByteArray).size = 4 := rfl
        have s1 : (⟨#[10]⟩ : ByteArray).size = 1 := rfl
        clear hta hlen HBO
        generalize tx (bodyB ⟨A, l, a, b⟩) = S0 at *
        generalize tx (Lib.decDigits (crcN S0)) = dg at *
        have g1 : S0.size + 4 ≤ 9223372036854775807 := by omega
        have g2 : S0.size + 4 + dg.size ≤ 9223372036854775807 := by omega
        have g3 : S0.size + 4 + dg.size + 1 ≤ 9223372036854775807 := by omega
        clear s4 s1 hbs hd10 hcl d1 d2 d3
        go_wp2_with (first
          | (go_at_call 82; refine (HSU.out _).mono ?_; rintro e w6 ⟨rfl, rfl⟩)
          | (go_at_call 81; refine (HDG.out _).mono ?_; rintro e w7 ⟨rfl, hb7⟩; have HB7 := Lib.hid (below_then HB9.out hb7); clear hb7))
        go_ret2
        rw [HV.out.1, HV.out.2, ← HE.out]
        exact ⟨rfl, HB7.out⟩
end Mf
end Go.Proofs.YtkbdokakoapooaaGreatDoor
