/- What the variables of Go's library hold, as manifest's calls ask it, and that it stays; numbers and their digits; a line. Conditions: those that each theorem names. -/
import Derived.Test.YtkbdokakoapooaaGreatDoorShelf
import Derived.Test.YtkbdokakoapooaaGreatDoorGaG
import Derived.Test.YtkbdokakoapooaaGreatDoorSm
import Derived.Shelf.Lay
import Derived.Lib.Walk
import Derived.Lib.ItoaMem
import Derived.Lib.AppendIntMem
import Derived.WalkKit
import Derived.BigCall
import Derived.BigGuard
namespace Go.Proofs.YtkbdokakoapooaaGreatDoor
set_option linter.unusedVariables false
open Go Go.RowKit Go.Shelf Go.Sort
namespace Mf
noncomputable def gN : Nat := Tryz.prog.globals.size
def Same8 (w W : World) : Prop := ∀ b, b < gN → W.heap[b]? = w.heap[b]?
structure Gh (w : World) : Prop where
  size : gN ≤ w.heap.size
  mx : ∃ m, ∀ W, Same8 w W → W.cell? ⟨2, 0, none⟩ = some (.int .i64 m)
  syn : ∃ t p, ∀ W, Same8 w W → W.cell? ⟨5, 0, none⟩ = some (.iface t p)
  rng : ∃ t p, ∀ W, Same8 w W → W.cell? ⟨6, 0, none⟩ = some (.iface t p)
  pow : ∀ W, Same8 w W → Lib.TabIs Tryz.prog W "internal/strconv.uint64pow10" .u64 Lib.pow10Tab
theorem Gh.keep {w w' : World} (h : Gh w) (hs : w.heap.size ≤ w'.heap.size) (hb : Same8 w w') : Gh w' := by
  obtain ⟨h0, ⟨m, h5⟩, ⟨t, p, h1⟩, ⟨t', p', h2⟩, h3⟩ := h
  exact ⟨Nat.le_trans h0 hs, ⟨m, fun W hW => h5 W fun b hb' => (hW b hb').trans (hb b hb')⟩, ⟨t, p, fun W hW => h1 W fun b hb' => (hW b hb').trans (hb b hb')⟩, ⟨t', p', fun W hW => h2 W fun b hb' => (hW b hb').trans (hb b hb')⟩,
    fun W hW => h3 W fun b hb' => (hW b hb').trans (hb b hb')⟩
theorem Gh.below {w w' : World} (h : Gh w) (g : Below w.heap.size w w') : Gh w' := h.keep g.size fun b hb => g.block b (Nat.lt_of_lt_of_le hb h.size)
theorem Gh.drewN {w : World} (h : Gh w) (n : Nat) : Gh (w.drewN n) := h.keep (Nat.le_refl _) fun _ _ => rfl
theorem below_drewN (w : World) (n : Nat) : Below w.heap.size w (w.drewN n) := ⟨rfl, rfl, rfl, Nat.le_refl _, fun _ _ => rfl⟩
theorem below_then {w w1 w2 : World} (h : Below w.heap.size w w1) (k : Below w1.heap.size w1 w2) : Below w.heap.size w w2 := h.trans (k.mono h.size)
theorem below_new (w : World) (o : Obj) : Below w.heap.size w (w.alloc o) := (Below.refl w.heap.size w).alloc (Nat.le_refl _) o
theorem below_grow (w : World) (k : Nat) (os : Array Obj) : Below w.heap.size w (Go.Sort.grow (w.drewN k) os) := by
  refine ⟨rfl, rfl, rfl, by show w.heap.size ≤ (w.heap ++ os).size; simp, fun b hb => ?_⟩
  show (w.heap ++ os)[b]? = w.heap[b]?
  rw [Array.getElem?_append_left hb]
theorem itoa_any (n : Int) (h0 : -9223372036854775808 ≤ n) (h1 : n ≤ 9223372036854775807) (w : World) (G : Gh w) :
    Calls Tryz.prog 69 #[.int .i64 n] w fun e w' => e = .returned (.string (tx (Lib.itoa n))) ∧ Below w.heap.size w w' := by
  refine (Tryz.strconv_Itoa n h0 h1 w (G.pow w fun _ _ => rfl)).mono ?_
  rintro e w' ⟨rfl, k, os, rfl⟩
  exact ⟨rfl, below_grow w k os⟩
theorem atoi_any (s : ByteArray) (w : World) (hs : s.size ≤ 16777215) (G : Gh w) :
    Calls Tryz.prog 142 #[.string s] w fun e w' => ∃ v, e = .returned (.tuple #[.int .i64 (numS (bl s)), v]) ∧ Below w.heap.size w w' := by
  cases h : Lib.atoiAll s.data.toList with
  | ok v =>
    have e : numS (bl s) = v := by unfold numS; rw [show bl s = s.data.toList from rfl, h]
    refine (Tryz.strconv_Atoi_ok s (by omega) v h w).mono ?_
    rintro x w' ⟨rfl, hw⟩
    refine ⟨_, by rw [e], ?_⟩
    rcases hw with rfl | ⟨t, rfl⟩
    · exact Below.refl _ _
    · exact Lib.bytesWorld_below _ _ _
  | range =>
    have e : numS (bl s) = Lib.atoiSat s.data.toList := by unfold numS; rw [show bl s = s.data.toList from rfl, h]
    obtain ⟨t, p, hv⟩ := G.rng
    refine (Tryz.strconv_Atoi_range s (by omega) h _ w (hv w fun _ _ => rfl) (.inr ⟨_, _, rfl⟩)).mono ?_
    rintro x w' ⟨N, rfl, _, _, hb⟩
    exact ⟨_, by rw [e], hb⟩
  | _ =>
    have e : numS (bl s) = 0 := by unfold numS; rw [show bl s = s.data.toList from rfl, h]
    obtain ⟨t, p, hv⟩ := G.syn
    refine (Any.strconv_Atoi_syntax Tryz.laysC172 s (by omega) h _ w (hv w fun _ _ => rfl) (.inr ⟨_, _, rfl⟩)).mono ?_
    rintro x w' ⟨N, rfl, _, _, hb⟩
    exact ⟨_, by rw [e], hb⟩
set_option maxHeartbeats 1000000 in
theorem number_any (s : ByteArray) (w : World) (hs : s.size ≤ 16777215) (G : Gh w) :
    Calls Tryz.prog 113 #[.string s] w fun e w' => e = .returned (.int .i64 (numS (bl s))) ∧ Below w.heap.size w w' := by
  have C := Lib.hid (atoi_any s w hs G)
  go_enter Tryz.func113, Tryz.ntmps113
  go_wp2_with fail
  refine C.out.mono ?_
  rintro e w1 ⟨v, rfl, hb⟩
  have HB := Lib.hid hb
  clear hb
  go_wp2_with fail
  go_ret
  exact ⟨rfl, HB.out⟩
theorem cut_any (s : ByteArray) (w : World) (hs : s.size ≤ 16777215) (G : Gh w) :
    Calls Tryz.prog 112 #[.string s, .string ⟨#[32]⟩] w fun e w' => e = .returned (.tuple #[.string (tx (Lib.cut (bl s) [32]).1), .string (tx (Lib.cut (bl s) [32]).2.1), .bool (Lib.cut (bl s) [32]).2.2]) ∧ Below w.heap.size w w' := by
  obtain ⟨m, hm⟩ := G.mx
  refine (Tryz.strings_Cut s ⟨#[32]⟩ m w (by omega) (hm w fun _ _ => rfl)).mono ?_
  rintro e w' ⟨rfl, n, rfl⟩
  exact ⟨rfl, below_drewN w n⟩
set_option maxHeartbeats 1000000 in
theorem line_any (a b : ByteArray) (w : World) (ha : a.size ≤ 16777215) (hb : b.size ≤ 16777215) :
    Calls Tryz.prog 68 #[.string a, .string b] w fun e w' => e = .returned (.string (tx (lineB (bl a) (bl b)))) ∧ w' = w := by
  have e : tx (lineB (bl a) (bl b)) = a ++ ⟨#[32]⟩ ++ b ++ ⟨#[10]⟩ := by
    apply by_ext
    rw [tx_list, app_list, app_list, app_list]
    simp [lineB]
  rw [e]
  have h0 : (⟨#[32]⟩ : ByteArray).size = 1 := rfl
  have h1 : (⟨#[10]⟩ : ByteArray).size = 1 := rfl
  have g1 : a.size + (⟨#[32]⟩ : ByteArray).size ≤ 9223372036854775807 := by omega
  have g2 : (a ++ ⟨#[32]⟩).size + b.size ≤ 9223372036854775807 := by rw [ByteArray.size_append]; omega
  have g3 : (a ++ ⟨#[32]⟩ ++ b).size + (⟨#[10]⟩ : ByteArray).size ≤ 9223372036854775807 := by rw [ByteArray.size_append, ByteArray.size_append]; omega
  clear e ha hb
  go_enter Tryz.func68, Tryz.ntmps68
  go_wp2_with fail
  go_ret
  exact ⟨rfl, rfl⟩
set_option maxHeartbeats 6400000 in
set_option maxRecDepth 100000 in
theorem fmt_in (u : Nat) (hu64 : u < 18446744073709551616) (w : World) (G : Gh w) :
    Calls Tryz.prog 109 #[.int .u64 u, .int .i64 10] w fun e w' => e = .returned (.string (tx (Lib.decDigits u))) ∧ Below w.heap.size w w' := by
  have htab := G.pow w fun _ _ => rfl
  by_cases hs : u < 100
  · have hw : IntKind.i64.wrap (u : Int) = (u : Int) := by rw [IntKind.wrap_i64]; omega
    have C := Lib.hid (fun W => Tryz.internal_strconv_small u hs W)
    clear htab
    go_enter Tryz.func109, Tryz.ntmps109
    go_wp2_with (go_at_call 136; refine (C.out _).mono ?_; rintro e w' ⟨rfl, rfl⟩)
    go_ret
    exact ⟨rfl, Below.refl _ _⟩
  · have hu1 : 1 ≤ u := by omega
    have hnd20 : Lib.nDigits u ≤ 20 := by have := Lib.numDigits_eq u hu1 hu64; split at this <;> omega
    have hb3 : Lib.nDigits u ≤ 24 := by omega
    have hal : Tryz.prog.arrayLen 224 = 24 := by simp [Program.arrayLen, Tryz.underlying224]
    have hsl1 : ∀ W, (Instr.sliceAt 224 (.pointer (some ⟨w.heap.size, 0, none⟩)) none (some (.int .i64 (Lib.nDigits u : Int))) none).run Tryz.prog W = .ok (.slice (some ⟨w.heap.size, 0, none⟩) (Lib.nDigits u) 24) W := fun W => by
      rw [run_sliceAt_array_h W 224 ⟨w.heap.size, 0, none⟩ (by simp [Program.arrayLen, Program.elem, Tryz.underlying224]) .i64 (Lib.nDigits u : Int) (by omega) (by rw [hal]; omega)]
      go_simp
    have hH0 := Lib.holds_zero0 w 224 (Lib.nDigits u) (by omega)
    have hfmt := Tryz.internal_strconv_formatBase10 w.heap.size 0 24 u (Array.replicate (Lib.nDigits u) 0) (w.alloc (.cells Lib.zeros24 224)) hH0 (by rw [Array.size_replicate]; exact Lib.lt_pow_nDigits u) hu64 (by rw [Array.size_replicate]; omega)
    rw [Array.size_replicate] at hfmt
    have HH0 := Lib.hid hH0
    clear hH0 hal
    go_enter Tryz.func109, Tryz.ntmps109
    go_wp2_with (first
      | (go_at_call 137; refine (Tryz.internal_strconv_numDigits u hu1 hu64 _ (Lib.tabIs_alloc htab _)).mono ?_; rintro e w' ⟨rfl, rfl⟩))
    go_at_call 138
    refine hfmt.mono ?_
    rintro e w' ⟨rfl, k, v', dk, rfl, hF⟩
    have hcv : (convert 88 9 (.slice (some ⟨w.heap.size, 0, none⟩) (Lib.nDigits u) 24)).run Tryz.prog ((putRow (fun (b : UInt8) => Value.int .u8 (b.toNat : Int)) (w.alloc (.cells Lib.zeros24 224)) w.heap.size 0 dk).drewN k) = .ok (.string ⟨(Lib.decDigits u).toArray⟩) ((putRow (fun (b : UInt8) => Value.int .u8 (b.toNat : Int)) (w.alloc (.cells Lib.zeros24 224)) w.heap.size 0 dk).drewN k) := by
      have h := run_convert_bytes_back (P := Tryz.prog) ((putRow (fun (b : UInt8) => Value.int .u8 (b.toNat : Int)) (w.alloc (.cells Lib.zeros24 224)) w.heap.size 0 dk).drewN k) 88 9 5 ⟨w.heap.size, 0, none⟩ 24 (Lib.decDigits u) Tryz.underlying88 Tryz.underlying5 Tryz.underlying9 (fun j hj => by
        rw [Lib.row_is_numeral hF j hj, Lib.add_plain, World.cell?_drewN]
        exact cell?_putRow (fun (b : UInt8) => Value.int .u8 (b.toNat : Int)) _ w.heap.size 0 _ dk HH0.out (by rw [hF.size, Array.size_replicate]) j (by rw [hF.size]; rw [Lib.decDigits_length] at hj; exact hj))
      rw [Lib.decDigits_length] at h
      exact h
    go_wp2
    go_ret
    obtain ⟨os, eo⟩ := Lib.fin_at w (.cells Lib.zeros24 224) dk k 0
    rw [eo]
    exact ⟨rfl, below_grow w k os⟩
theorem fmt_any (u : Nat) (hu64 : u < 18446744073709551616) (w : World) (G : Gh w) :
    Calls Tryz.prog 71 #[.int .u64 u, .int .i64 10] w fun e w' => e = .returned (.string (tx (Lib.decDigits u))) ∧ Below w.heap.size w w' := by
  have C := Lib.hid (fmt_in u hu64 w G)
  go_enter Tryz.func71, Tryz.ntmps71
  go_wp2_with (go_at_call 109; refine C.out.mono ?_; rintro e w' ⟨rfl, hb⟩)
  go_ret
  exact ⟨rfl, hb⟩
end Mf
end Go.Proofs.YtkbdokakoapooaaGreatDoor
