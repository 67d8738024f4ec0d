/- The law's 'do' on both logs: opened again, a crash. Conditions: those that each theorem names. -/
import Derived.Test.YtioidkbpjkcjeaaGreatDoorWlBw
import Derived.Test.YtioidkbpjkcjeaaGreatDoorRfBoC
namespace Go.Proofs.YtioidkbpjkcjeaaGreatDoor
set_option linter.unusedVariables false
open Go Go.RowKit Dk
namespace Wl
def dV (kd : Int) (s : ByteArray) (sq st fs fk fn cn : Int) (q : Option Addr) (n2 c2 : Nat) : Value := .agg #[.int .i64 kd, .string s, .int .i64 sq, .int .i64 st, .int .i64 fs, .int .i64 fk, .int .i64 fn, .int .i64 cn, .slice q n2 c2]
def dO (kd : Int) (s : ByteArray) (sq st fs fk fn cn : Int) (q : Option Addr) (n2 c2 : Nat) : Obj := .cells #[.int .i64 kd, .string s, .int .i64 sq, .int .i64 st, .int .i64 fs, .int .i64 fk, .int .i64 fn, .int .i64 cn, .slice q n2 c2] 45 (0, 0)
theorem dO_cells {w : World} {g : Nat} {kd : Int} {s : ByteArray} {sq st fs fk fn cn : Int} {q : Option Addr} {n2 c2 : Nat} (h : w.heap[g]? = some (dO kd s sq st fs fk fn cn q n2 c2)) :
    (w.cell? ⟨g, 0, none⟩ = some (.int .i64 kd) ∧ w.cell? ⟨g, 1, none⟩ = some (.string s) ∧ w.cell? ⟨g, 2, none⟩ = some (.int .i64 sq) ∧ w.cell? ⟨g, 3, none⟩ = some (.int .i64 st)) ∧
    (w.cell? ⟨g, 4, none⟩ = some (.int .i64 fs) ∧ w.cell? ⟨g, 5, none⟩ = some (.int .i64 fk) ∧ w.cell? ⟨g, 6, none⟩ = some (.int .i64 fn)) ∧ w.cell? ⟨g, 7, none⟩ = some (.int .i64 cn) ∧ w.cell? ⟨g, 8, none⟩ = some (.slice q n2 c2) :=
  ⟨⟨by rw [cell_of_row _ _ _ _ _ _ h]; rfl, by rw [cell_of_row _ _ _ _ _ _ h]; rfl, by rw [cell_of_row _ _ _ _ _ _ h]; rfl, by rw [cell_of_row _ _ _ _ _ _ h]; rfl⟩,
   ⟨by rw [cell_of_row _ _ _ _ _ _ h]; rfl, by rw [cell_of_row _ _ _ _ _ _ h]; rfl, by rw [cell_of_row _ _ _ _ _ _ h]; rfl⟩, by rw [cell_of_row _ _ _ _ _ _ h]; rfl, by rw [cell_of_row _ _ _ _ _ _ h]; rfl⟩
section
variable {w0 w : World} {A B P k : Nat}
theorem DisksW.others (h : DisksW w0 A B P k w) {w' : World} (hb : Below w.heap.size w w') : DisksW w0 A B P k w' := by
  obtain ⟨φ, D, M, l, m, nx, tw, b, bm, h0, hP, h⟩ := h
  exact ⟨φ, D, M, l, m, nx, tw, b, bm, h0, (hb.block P (h.lt rfl)).trans hP, h.others hb⟩
theorem DisksW.cells (h : DisksW w0 A B P k w) : w.cell? ⟨P, 0, none⟩ = some (.pointer (some ⟨A, 0, none⟩)) ∧ w.cell? ⟨P, 1, none⟩ = some (.pointer (some ⟨B, 0, none⟩)) := by
  obtain ⟨φ, D, M, l, m, nx, tw, b, bm, h0, hP, h⟩ := h
  exact ⟨(pairO_cells hP).1, (pairO_cells hP).2.1⟩
set_option maxHeartbeats 2000000 in
set_option maxRecDepth 100000 in
theorem wdo_open (h : DisksW w0 A B P k w) (hk : k + 4 ≤ 1048577) (G : Hd w0) (kd : Int) (s : ByteArray) (sq st fs fk fn cn : Int) (q : Option Addr) (n2 c2 : Nat) (k0 : (kd == 0) = false) (k1 : (kd == 1) = false) (k2 : (kd == 2) = false) (k3 : (kd == 3) = false) :
    Calls Tryz.prog 7 #[.pointer (some ⟨P, 0, none⟩), dV kd s sq st fs fk fn cn q n2 c2] w fun e w' => e = .returned (.bool true) ∧ PairW w0 A B P (k + 4) w' := by
  have hb : Below w.heap.size w (w.alloc (dO kd s sq st fs fk fn cn q n2 c2)) := below_new w _
  have C := Lib.hid (pair_open (h.others hb) hk G)
  obtain ⟨⟨c0, -⟩, -⟩ := dO_cells (heap_alloc_new w (dO kd s sq st fs fk fn cn q n2 c2))
  clear hb h hk G
  have mixed : Tryz.prog.follows .mixedOrders = true := by kernel_rfl
  unfold dV
  unfold dO at *
  go_enter Tryz.func7, Tryz.ntmps7
  go_wp2_with fail
  refine C.out.mono ?_
  rintro e w1 ⟨rfl, h1⟩
  go_wp2_with fail
  go_ret
  exact ⟨rfl, h1⟩
set_option maxHeartbeats 2000000 in
set_option maxRecDepth 100000 in
theorem wdo_crash (h : DisksW w0 A B P k w) (hk : k + 5 ≤ 1048577) (G : Hd w0) (s : ByteArray) (sq st fs fk fn cn : Int) (q : Option Addr) (n2 c2 : Nat) (bs : List Int) (hi : IntsAt w0 (.slice q n2 c2) bs) (hbl : bs.length ≤ maxLen) (hbr : ∀ x ∈ bs, -9223372036854775808 ≤ x ∧ x ≤ 9223372036854775807) (hbo : bs = [] ∨ ∀ g, (Value.slice q n2 c2).ownBlock = some g → g < w0.heap.size) :
    Calls Tryz.prog 7 #[.pointer (some ⟨P, 0, none⟩), dV 3 s sq st fs fk fn cn q n2 c2] w fun e w' => e = .returned (.bool true) ∧ PairW w0 A B P (k + 5) w' := by
  obtain ⟨φ, D, M, l, m, nx, tw, b, bm, h0, hP, h⟩ := h
  have hb : Below w.heap.size w (w.alloc (dO 3 s sq st fs fk fn cn q n2 c2)) := below_new w _
  have hbox := heap_alloc_new w (dO 3 s sq st fs fk fn cn q n2 c2)
  have hlt := h.lt (b := P) rfl
  have hP0 := (hb.block P hlt).trans hP
  have HY : Hid (Two w0 A B (fun b => b = P ∨ b = w.heap.size) D M (w.alloc (dO 3 s sq st fs fk fn cn q n2 c2))) := Lib.hid (h.add hb (fun b hb => hb.imp id (fun e => by subst e; exact ⟨Nat.le_refl _, by simp⟩)))
  have hkk : max cn 0 = (((max cn 0).toNat : Nat) : Int) := by omega
  have HPC := Lib.hid (fun (W : World) (t' : Two w0 A B (fun b => b = P ∨ b = w.heap.size) D M W) => t'.pCrash b (by omega) cn _ hkk (.slice q n2 c2) bs (ints_below hi t'.below) hbl hbr hbo)
  have HRC := Lib.hid (fun (W : World) (t' : Two w0 A B (fun b => b = P ∨ b = w.heap.size) (D.crash (max cn 0).toNat bs) M W) => t'.rCrash b bm tw (by omega) (by decide) cn _ hkk (.slice q n2 c2) bs (ints_below hi t'.below) hbl)
  obtain ⟨b2, bm2⟩ := bd_crash b bm tw (max cn 0).toNat bs
  have HT : Hid (∃ ψ, Dk.Twin ψ (D.crash (max cn 0).toNat bs) (M.crash (max cn 0).toNat bs)) := Lib.hid (tw.crash _ _)
  have HB := Lib.hid b2
  have HM := Lib.hid bm2
  have H0 := Lib.hid h0
  have HK := Lib.hid hk
  have HG := Lib.hid G
  obtain ⟨p0, p1, -, -, -⟩ := pairO_cells hP0
  have HP0 := Lib.hid hP0
  have HBX := Lib.hid hbox
  obtain ⟨⟨c0, -⟩, -, c7, c8⟩ := dO_cells hbox
  clear hb h hk G hP hP0 hbox hlt hi hbl hbr hbo hkk b2 bm2 b bm tw h0
  generalize D.crash (max cn 0).toNat bs = D1 at *
  generalize M.crash (max cn 0).toNat bs = M1 at *
  have mixed : Tryz.prog.follows .mixedOrders = true := by kernel_rfl
  unfold dV
  unfold dO at *
  go_enter Tryz.func7, Tryz.ntmps7
  go_wp2_with fail
  generalize w.alloc (.cells #[.int .i64 3, .string s, .int .i64 sq, .int .i64 st, .int .i64 fs, .int .i64 fk, .int .i64 fn, .int .i64 cn, .slice q n2 c2] 45) = W0 at *
  have hv : Below W0.heap.size W0 W0.drew := (Below.refl _ _).drew
  have SV : Hid (Stay (fun b => b = P ∨ b = w.heap.size) W0 W0.drew) := Lib.hid (stay_two HY.out hv)
  obtain ⟨v0, -, -, -, -⟩ := pairO_cells ((SV.out.2 P (.inl rfl)).trans HP0.out)
  obtain ⟨-, -, v7, v8⟩ := dO_cells ((SV.out.2 w.heap.size (.inr rfl)).trans HBX.out)
  have C1 := Lib.hid (HPC.out _ (HY.out.others hv))
  clear hv HPC
  go_region_with (go_at_call 24; refine C1.out.mono ?_; rintro e w1 ⟨rfl, t1, s1⟩)
  all_goals
    have s1' := SV.out.trans s1
    have hP1 := (s1'.2 P (.inl rfl)).trans HP0.out
    obtain ⟨⟨e0, -⟩, -, e7, e8⟩ := dO_cells ((s1'.2 w.heap.size (.inr rfl)).trans HBX.out)
    obtain ⟨r0, r1, -, -, -⟩ := pairO_cells hP1
    have hu : Below w1.heap.size w1 w1.drew := (Below.refl _ _).drew
    have SU : Hid (Stay (fun b => b = P ∨ b = w.heap.size) w1 w1.drew) := Lib.hid (stay_two t1 hu)
    have C2 := Lib.hid (HRC.out _ (t1.others hu))
    have HP1 := Lib.hid hP1
    obtain ⟨-, u1, -, -, -⟩ := pairO_cells ((SU.out.2 P (.inl rfl)).trans hP1)
    obtain ⟨-, -, u7, u8⟩ := dO_cells ((SU.out.2 w.heap.size (.inr rfl)).trans ((s1'.2 w.heap.size (.inr rfl)).trans HBX.out))
    clear t1 s1 s1' hP1 c0 c7 c8 p0 p1 v0 v7 v8 hu C1 HRC
    try go_wp2_with fail
    go_region_with (go_at_call 25; refine C2.out.mono ?_; rintro e w2 ⟨rfl, t2, s3⟩)
    all_goals
      have s2 := SU.out.trans s3
      have HD : Hid (DisksW w0 A B P (k + 1) w2) := Lib.hid (by
        obtain ⟨ψ, t⟩ := HT.out
        exact ⟨ψ, D1, M1, l, m, nx, t, HB.out, HM.out, H0.out, (s2.2 P (.inl rfl)).trans HP1.out, t2.add (Below.refl _ _) (fun b hb => .inl (.inl hb))⟩)
      have C3 := Lib.hid (pair_open HD.out (by have := HK.out; omega) HG.out)
      clear t2 s2 s3 e0 e7 e8 r0 r1 u1 u7 u8 C2
      try go_wp2_with fail
      refine C3.out.mono ?_
      rintro e w3 ⟨rfl, h3⟩
      go_wp2_with fail
      go_ret
      exact ⟨rfl, h3⟩
end
end Wl
end Go.Proofs.YtioidkbpjkcjeaaGreatDoor
