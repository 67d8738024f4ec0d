/- The walks of the laws HttpWrites and HttpPrints. Conditions: those that each theorem names. -/
import Derived.Test.YtknoikjkbnafoabGreatDoorHtRw
namespace Go.Proofs.YtknoikjkbnafoabGreatDoor
set_option linter.unusedVariables false
open Go Go.RowKit Go.Shelf Ht

set_option maxHeartbeats 1000000 in
set_option maxRecDepth 100000 in
theorem writes_walk (m p b : ByteArray) (w : World) (hm : m.size ≤ 140737488351232) (hp : p.size ≤ 140737488351232) (hb : b.size ≤ 140737488351232) (G : Gh w) :
    Calls Tryz.prog 4 #[.agg #[.string m, .string p, .string b]] w fun e w' => e = .returned (.bool true) ∧ Below w.heap.size w w' := by
  have HW := Lib.hid (fun w G => write_any m p b w (by omega) (by omega) (by omega) G)
  have HR := Lib.hid (fun w G => rwrite_any m p b w (by omega) (by omega) (by omega) G)
  have HG := Lib.hid G
  have hV : writeV m p b = .tuple #[.string (B (write m.data.toList p.data.toList b.data.toList).1), .int .i64 (write m.data.toList p.data.toList b.data.toList).2] := rfl
  rw [hV] at HW HR
  generalize B (write m.data.toList p.data.toList b.data.toList).1 = x at HW HR
  generalize (write m.data.toList p.data.toList b.data.toList).2 = y at HW HR
  have HS := Lib.hid (held3_new (.string m) (.string p) (.string b) G)
  have k0 := HS.out.1
  have k1 := HS.out.2.1
  have k2 := HS.out.2.2.1
  clear hV G hm hp hb
  go_enter Tryz.func4, Tryz.ntmps4
  go_wp2_with fail
  refine (HW.out _ HS.out.2.2.2.1).mono ?_
  rintro e w1 ⟨rfl, h1⟩
  have H1 := Lib.hid (held3 HS.out h1)
  have c0 := H1.out.1
  have c1 := H1.out.2.1
  have c2 := H1.out.2.2.1
  clear h1
  go_wp2_with fail
  refine (HR.out _ H1.out.2.2.2.1).mono ?_
  rintro e w2 ⟨rfl, h2⟩
  have H2 := Lib.hid (held3 H1.out h2)
  clear h2 c0 c1 c2 k0 k1 k2
  go_wp2_with fail
  refine (sure_yes _ H2.out.2.2.2.1).mono ?_
  rintro e w3 ⟨rfl, h3⟩
  have H3 := Lib.hid (below_then H2.out.2.2.2.2 h3)
  clear h3
  go_wp2_with fail
  go_ret
  exact ⟨rfl, H3.out⟩
set_option maxHeartbeats 1000000 in
set_option maxRecDepth 100000 in
theorem prints_walk (n : Int) (b : ByteArray) (w : World) (h0 : -9223372036854775808 ≤ n) (h1 : n ≤ 9223372036854775807) (hb : b.size ≤ 140737488351232) (G : Gh w) :
    Calls Tryz.prog 5 #[.agg #[.int .i64 n, .string b]] w fun e w' => e = .returned (.bool true) ∧ Below w.heap.size w w' := by
  have HP := Lib.hid (fun w G => print_any n b w h0 h1 (by omega) G)
  have HQ := Lib.hid (fun w G => rprint_any n b w h0 h1 (by omega) G)
  have HR := Lib.hid (reason_any n)
  have HT := Lib.hid (rreason_any n)
  have HS := Lib.hid (held2_new n b G)
  generalize B (print n b.data.toList) = x at HP HQ
  generalize B (reason n) = y at HR HT
  clear G hb h0 h1
  go_enter Tryz.func5, Tryz.ntmps5
  go_wp2_with fail
  have hs1 := held_drew HS.out
  go_region_held3 (fun x => x.cell? ⟨w.heap.size, 0, none⟩ = some (.int .i64 n) ∧ x.cell? ⟨w.heap.size, 1, none⟩ = some (.string b) ∧ Gh x ∧ Below w.heap.size w x)
    (assumption)
    (first
      | (go_at_call 11; refine (HP.out _ (held_gh (by assumption))).mono ?_; rintro e w1 ⟨rfl, hb⟩; have hs2 := held2 (by assumption) hb)
      | (go_at_call 12; refine (HQ.out _ (held_gh (by assumption))).mono ?_; rintro e w2 ⟨rfl, hb⟩; have hs3 := held2 (by assumption) hb)
      | (go_at_call 13; refine (HR.out _).mono ?_; rintro e w3 ⟨rfl, rfl⟩)
      | (go_at_call 14; refine (HT.out _).mono ?_; rintro e w4 ⟨rfl, rfl⟩)
      | (go_at_call 8; refine (sure_yes _ (held_gh (by assumption))).mono ?_; rintro e w5 ⟨rfl, hb⟩; have hs5 := held2 (by assumption) hb))
  have HF : Hid (Below w.heap.size w w5) := Lib.hid hs5.2.2.2
  clear hs1 hs2 hs3 hs5
  go_wp2_with fail
  go_ret
  exact ⟨rfl, HF.out⟩
end Go.Proofs.YtknoikjkbnafoabGreatDoor
