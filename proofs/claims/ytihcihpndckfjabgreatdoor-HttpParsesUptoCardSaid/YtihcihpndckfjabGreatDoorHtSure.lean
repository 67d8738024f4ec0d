/- The law's own call sure. Conditions: those that each theorem names. -/
import Derived.Test.YtihcihpndckfjabGreatDoorHtPa
namespace Go.Proofs.YtihcihpndckfjabGreatDoor
set_option linter.unusedVariables false
open Go Go.RowKit Go.Shelf Ht

def r1 : List UInt8 := [80, 79, 83, 84, 32, 47, 113, 32, 72, 84, 84, 80, 47, 49, 46, 49, 13, 10, 99, 111, 110, 116, 101, 110, 116, 45, 76, 69, 78, 71, 84, 72, 58, 32, 50, 13, 10, 88, 45, 121, 58, 122, 13, 10, 13, 10, 123, 125]
def r2 : List UInt8 := [71, 69, 84, 32, 47, 32, 72, 84, 84, 80, 47, 49, 46, 48, 13, 10, 13, 10]
def r3 : List UInt8 := [71, 69, 84, 32, 47, 32, 72, 84, 84, 80, 47, 49, 46, 49, 13, 10, 67, 111, 110, 116, 101, 110, 116, 45, 76, 101, 110, 103, 116, 104, 58, 32, 50, 54, 50, 49, 52, 53, 13, 10, 13, 10]
theorem asc_all {l : List UInt8} (h : l.all (fun b => decide (b.toNat < 128)) = true) : asc l := fun b hb => by simpa using List.all_eq_true.1 h b hb
theorem p1 : parse r1 = (([80, 79, 83, 84], [47, 113], [123, 125]), 0) := by decide +kernel
theorem p2 : parse r2 = (([], [], []), 40) := by decide +kernel
theorem p3 : parse r3 = (([], [], []), 41) := by decide +kernel
theorem s1 (w : World) (G : Gh w) : Calls Tryz.prog 6 #[.string (B r1)] w fun e w' => e = .returned (.tuple #[.agg #[.string ⟨#[80, 79, 83, 84]⟩, .string ⟨#[47, 113]⟩, .string ⟨#[123, 125]⟩], .int .i64 0]) ∧ Below w.heap.size w w' := by
  have := parse_any (B r1) w (by rw [B_size]; decide) (fun _ => by rw [B_data]; exact asc_all (by decide +kernel)) G
  rw [B_data] at this
  unfold parseV reqV at this
  rw [p1] at this
  exact this
theorem s2 (w : World) (G : Gh w) : Calls Tryz.prog 6 #[.string (B r2)] w fun e w' => e = .returned (.tuple #[.agg #[.string ⟨#[]⟩, .string ⟨#[]⟩, .string ⟨#[]⟩], .int .i64 40]) ∧ Below w.heap.size w w' := by
  have := parse_any (B r2) w (by rw [B_size]; decide) (fun _ => by rw [B_data]; exact asc_all (by decide +kernel)) G
  rw [B_data] at this
  unfold parseV reqV at this
  rw [p2] at this
  exact this
theorem s3 (w : World) (G : Gh w) : Calls Tryz.prog 6 #[.string (B r3)] w fun e w' => e = .returned (.tuple #[.agg #[.string ⟨#[]⟩, .string ⟨#[]⟩, .string ⟨#[]⟩], .int .i64 41]) ∧ Below w.heap.size w w' := by
  have := parse_any (B r3) w (by rw [B_size]; decide) (fun _ => by rw [B_data]; exact asc_all (by decide +kernel)) G
  rw [B_data] at this
  unfold parseV reqV at this
  rw [p3] at this
  exact this
theorem itoa0 : Lib.itoa 0 = [48] := by rw [show (0 : Int) = ((0 : Nat) : Int) from rfl, itoa_nat, Lib.decDigits, dif_pos (by decide)]; rfl
theorem itoa2 : Lib.itoa 2 = [50] := by rw [show (2 : Int) = ((2 : Nat) : Int) from rfl, itoa_nat, Lib.decDigits, dif_pos (by decide)]; rfl
theorem itoa404 : Lib.itoa 404 = [52, 48, 52] := by
  rw [show (404 : Int) = ((404 : Nat) : Int) from rfl, itoa_nat, Lib.decDigits, dif_neg (by decide), Lib.decDigits, dif_neg (by decide), Lib.decDigits, dif_pos (by decide)]; rfl
theorem s4 (w : World) (G : Gh w) : Calls Tryz.prog 9 #[.agg #[.string ⟨#[71, 69, 84]⟩, .string ⟨#[47, 97]⟩, .string ⟨#[]⟩]] w fun e w' => e = .returned (.tuple #[.string ⟨#[71, 69, 84, 32, 47, 97, 32, 72, 84, 84, 80, 47, 49, 46, 49, 13, 10, 67, 111, 110, 116, 101, 110, 116, 45, 76, 101, 110, 103, 116, 104, 58, 32, 48, 13, 10, 13, 10]⟩, .int .i64 0]) ∧ Below w.heap.size w w' := by
  have := write_any ⟨#[71, 69, 84]⟩ ⟨#[47, 97]⟩ ⟨#[]⟩ w (by decide) (by decide) (by decide) G
  have hw : write [71, 69, 84] [47, 97] [] = ([71, 69, 84, 32, 47, 97, 32, 72, 84, 84, 80, 47, 49, 46, 49, 13, 10, 67, 111, 110, 116, 101, 110, 116, 45, 76, 101, 110, 103, 116, 104, 58, 32, 48, 13, 10, 13, 10], 0) := by
    unfold write headW
    rw [show (([] : List UInt8).length : Int) = 0 from rfl, itoa0]
    decide +kernel
  unfold writeV at this
  rw [hw] at this
  exact this
theorem s5 (w : World) (G : Gh w) : Calls Tryz.prog 11 #[.agg #[.int .i64 404, .string ⟨#[123, 125]⟩]] w fun e w' => e = .returned (.string ⟨#[72, 84, 84, 80, 47, 49, 46, 49, 32, 52, 48, 52, 32, 78, 111, 116, 32, 70, 111, 117, 110, 100, 13, 10, 67, 111, 110, 116, 101, 110, 116, 45, 84, 121, 112, 101, 58, 32, 97, 112, 112, 108, 105, 99, 97, 116, 105, 111, 110, 47, 106, 115, 111, 110, 13, 10, 67, 111, 110, 116, 101, 110, 116, 45, 76, 101, 110, 103, 116, 104, 58, 32, 50, 13, 10, 13, 10, 123, 125]⟩) ∧ Below w.heap.size w w' := by
  have := print_any 404 ⟨#[123, 125]⟩ w (by decide) (by decide) (by decide) G
  have hw : print 404 [123, 125] = [72, 84, 84, 80, 47, 49, 46, 49, 32, 52, 48, 52, 32, 78, 111, 116, 32, 70, 111, 117, 110, 100, 13, 10, 67, 111, 110, 116, 101, 110, 116, 45, 84, 121, 112, 101, 58, 32, 97, 112, 112, 108, 105, 99, 97, 116, 105, 111, 110, 47, 106, 115, 111, 110, 13, 10, 67, 111, 110, 116, 101, 110, 116, 45, 76, 101, 110, 103, 116, 104, 58, 32, 50, 13, 10, 13, 10, 123, 125] := by
    unfold print
    rw [show (([123, 125] : List UInt8).length : Int) = 2 from rfl, itoa2, itoa404]
    decide +kernel
  rw [show (⟨#[123, 125]⟩ : ByteArray).data.toList = [123, 125] from rfl, hw] at this
  exact this
theorem s6 (w : World) : Calls Tryz.prog 13 #[.int .i64 507] w fun e w' => e = .returned (.string ⟨#[73, 110, 115, 117, 102, 102, 105, 99, 105, 101, 110, 116, 32, 83, 116, 111, 114, 97, 103, 101]⟩) ∧ w' = w := reason_any 507 w
theorem keepBlk {x y : World} {K : Nat} {o : Obj} (h : x.heap[K]? = some o) (g : Below x.heap.size x y) : y.heap[K]? = some o := (g.block K (Array.getElem?_eq_some_iff.1 h).1).trans h
def obj1 : Obj := .cells #[.string ⟨#[80, 79, 83, 84]⟩, .string ⟨#[47, 113]⟩, .string ⟨#[123, 125]⟩] 23
theorem below_alloc (w : World) (o : Obj) : Below w.heap.size w (w.alloc o) := (Below.refl _ _).alloc (Nat.le_refl _) o
theorem Gh.alloc {w : World} (h : Gh w) (o : Obj) : Gh (w.alloc o) := h.below (below_alloc w o)
set_option maxHeartbeats 1000000 in
set_option maxRecDepth 100000 in
theorem sure_yes (w : World) (G : Gh w) : Calls Tryz.prog 8 #[] w fun e w' => e = .returned (.bool true) ∧ Below w.heap.size w w' := by
  have HG := Lib.hid G
  clear G
  go_enter Tryz.func8, Tryz.ntmps8
  go_wp2_with fail
  refine (s1 _ HG.out).mono ?_
  rintro e w1 ⟨rfl, h1⟩
  have H1 := Lib.hid h1
  have HG1 := Lib.hid (HG.out.below h1)
  clear h1
  go_wp2_with fail
  refine (s2 _ (HG1.out.alloc _)).mono ?_
  rintro e w2 ⟨rfl, h2⟩
  have H2 := Lib.hid (below_then H1.out (below_then (below_alloc _ _) h2))
  have HG2 := Lib.hid ((HG1.out.alloc _).below h2)
  have X2 := Lib.hid (keepBlk (heap_alloc_new w1 obj1) h2)
  clear h2
  go_wp2_with fail
  refine (s3 _ (HG2.out.alloc _)).mono ?_
  rintro e w3 ⟨rfl, h3⟩
  have H3 := Lib.hid (below_then H2.out (below_then (below_alloc _ _) h3))
  have HG3 := Lib.hid ((HG2.out.alloc _).below h3)
  have X3 := Lib.hid (keepBlk (keepBlk X2.out (below_alloc _ _)) h3)
  clear h3
  go_wp2_with fail
  refine (s4 _ (HG3.out.alloc _)).mono ?_
  rintro e w4 ⟨rfl, h4⟩
  have H4 := Lib.hid (below_then H3.out (below_then (below_alloc _ _) h4))
  have HG4 := Lib.hid ((HG3.out.alloc _).below h4)
  have X4 := Lib.hid (keepBlk (keepBlk X3.out (below_alloc _ _)) h4)
  have c0 : w4.cell? ⟨w1.heap.size, 0, none⟩ = some (.string ⟨#[80, 79, 83, 84]⟩) := by unfold World.cell?; rw [X4.out]; rfl
  have c1 : w4.cell? ⟨w1.heap.size, 1, none⟩ = some (.string ⟨#[47, 113]⟩) := by unfold World.cell?; rw [X4.out]; rfl
  have c2 : w4.cell? ⟨w1.heap.size, 2, none⟩ = some (.string ⟨#[123, 125]⟩) := by unfold World.cell?; rw [X4.out]; rfl
  clear X2 X3 X4
  clear h4
  go_wp2_with fail
  refine (s6 _).mono ?_
  rintro e w5 ⟨rfl, rfl⟩
  go_wp2_with fail
  refine (s5 _ HG4.out).mono ?_
  rintro e w6 ⟨rfl, h6⟩
  have H6 := Lib.hid (below_then H4.out h6)
  clear h6
  go_wp2_with fail
  go_ret
  exact ⟨rfl, H6.out⟩
end Go.Proofs.YtihcihpndckfjabGreatDoor
