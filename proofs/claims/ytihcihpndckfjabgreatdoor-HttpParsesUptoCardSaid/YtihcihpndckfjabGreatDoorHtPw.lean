/- The walk of the law HttpParses. Conditions: those that each theorem names. -/
import Derived.Test.YtihcihpndckfjabGreatDoorHtQp
import Derived.Test.YtihcihpndckfjabGreatDoorHtPg
import Derived.Test.YtihcihpndckfjabGreatDoorHtSure
namespace Go.Proofs.YtihcihpndckfjabGreatDoor
set_option linter.unusedVariables false
open Go Go.RowKit Go.Shelf Ht

set_option maxHeartbeats 1000000 in
set_option maxRecDepth 100000 in
theorem parses_walk (s : ByteArray) (w : World) (hs : s.size ≤ 1048576) (G : GhC w) :
    Calls Tryz.prog 3 #[.string s] w fun e w' => e = .returned (.bool true) ∧ Below w.heap.size w w' := by
  have HP := Lib.hid (fun w G => parse_all s w (by omega) G)
  have HR : Hid (∀ w, Gh w → Calls Tryz.prog 7 #[.string s] w fun e w' => e = .returned (parseV s.data.toList) ∧ Below w.heap.size w w') := Lib.hid (fun w G => rparse_any s w (by omega) G)
  have HG := Lib.hid G
  obtain ⟨m, p, b, x, hV⟩ : ∃ m p b x, parseV s.data.toList = .tuple #[.agg #[.string m, .string p, .string b], .int .i64 x] := ⟨_, _, _, _, rfl⟩
  rw [hV] at HP HR
  clear hV G
  go_enter Tryz.func3, Tryz.ntmps3
  go_wp2_with fail
  refine (HP.out _ HG.out).mono ?_
  rintro e w1 ⟨rfl, h1⟩
  have H1 := Lib.hid h1
  have HG1 := Lib.hid (HG.out.gh.below h1)
  clear h1
  go_wp2_with fail
  refine (HR.out _ (HG1.out.alloc _)).mono ?_
  rintro e w2 ⟨rfl, h2⟩
  have H2 := Lib.hid (below_then H1.out (below_then (below_alloc _ _) h2))
  have HG2 := Lib.hid ((HG1.out.alloc _).below h2)
  have x2 := keepBlk (heap_alloc_new w1 (.cells #[.string m, .string p, .string b] 23)) h2
  have hlt : w1.heap.size < w2.heap.size := (Array.getElem?_eq_some_iff.1 x2).1
  have c : ∀ o : Obj, (w2.alloc o).heap[w1.heap.size]? = some (.cells #[.string m, .string p, .string b] 23 (0, 0)) := fun o => (Below.heap_alloc w2 o w1.heap.size hlt).trans x2
  have c0 : ∀ o : Obj, (w2.alloc o).cell? ⟨w1.heap.size, 0, none⟩ = some (.string m) := fun o => by simp [World.cell?, c o]
  have c1 : ∀ o : Obj, (w2.alloc o).cell? ⟨w1.heap.size, 1, none⟩ = some (.string p) := fun o => by simp [World.cell?, c o]
  have c2 : ∀ o : Obj, (w2.alloc o).cell? ⟨w1.heap.size, 2, none⟩ = some (.string b) := fun o => by simp [World.cell?, c o]
  clear h2 x2 c hlt
  go_wp2_with fail
  refine (sure_yes _ (HG2.out.alloc _)).mono ?_
  rintro e w3 ⟨rfl, h3⟩
  have H3 := Lib.hid (below_then (below_then H2.out (below_alloc _ _)) h3)
  clear h3
  go_wp2_with fail
  go_ret
  exact ⟨rfl, H3.out⟩
end Go.Proofs.YtihcihpndckfjabGreatDoor
