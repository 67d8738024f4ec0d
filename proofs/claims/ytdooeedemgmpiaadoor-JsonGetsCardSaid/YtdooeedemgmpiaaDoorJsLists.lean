/- The reader's call that reads a list. Conditions: those that each theorem names. -/
import Derived.Test.YtdooeedemgmpiaaDoorJsParts
namespace Go.Proofs.YtdooeedemgmpiaaDoor
set_option linter.unusedVariables false
open Go Go.RowKit Js

def ListP (R : Nat) (s : ByteArray) (x : Js.R (List J)) (w : World) (e : Ending) (w' : World) : Prop :=
  ∃ v j, e = .returned (.tuple #[v, .int .i64 x.err]) ∧ JAt (fun b => w.heap.size ≤ b) w' j v ∧ (∀ js r, x = .ok js r → j = .mk 5 0 ByteArray.empty [] js) ∧ Gr (one' R) w w' ∧ Rd R s x.rest w'
set_option maxHeartbeats 1000000 in
set_option maxRecDepth 100000 in
theorem list_any (d : Nat) (hv : ValueOk d) (hd : d ≤ 32) (R : Nat) (s : ByteArray) (b : UInt8) (l : Bs) (w : World) (h : Rd R s (b :: l) w) (hs : s.size ≤ 16777215) (G : Gl w) (hR : gN ≤ R) :
    Calls Tryd.prog 32 #[.pointer (some ⟨R, 0, none⟩), .int .i64 ((32 : Int) - d)] w (ListP R s (parts (fun _ => value d) 93 l) w) := by
  have hmf : ∀ (fn : Fn) (first cap : Array Value) (w : World), (Instr.makeFunc fn first cap).run Tryd.prog w = .ok (.func fn first cap) w := fun _ _ _ _ => rfl
  have hlt := h.lt
  have hW : ∃ W, W = (((w.alloc (.cells #[.pointer (some ⟨R, 0, none⟩)] 42)).alloc (.cells #[.int .i64 ((32 : Int) - d)] 3)).alloc zero5).alloc (.cells #[.int .i64 5, .int .i64 0, .string ⟨#[]⟩, .slice none 0 0, .slice none 0 0] 25) := ⟨_, rfl⟩
  obtain ⟨W, hW⟩ := hW
  have hsz : W.heap.size = w.heap.size + 4 := by rw [hW]; simp
  have hgW : Gr (one' R) w W := by rw [hW]; exact ((((Gr.refl _ w).alloc _).alloc _).alloc _).alloc _
  have b0 : W.heap[w.heap.size]? = some (.cells #[.pointer (some ⟨R, 0, none⟩)] 42 (0, 0)) := by
    rw [hW, Below.heap_alloc _ _ _ (by first | (simp; done) | (simp; omega)), Below.heap_alloc _ _ _ (by first | (simp; done) | (simp; omega)), Below.heap_alloc _ _ _ (by first | (simp; done) | (simp; omega))]; exact heap_alloc_new _ _
  have b1 : W.heap[w.heap.size + 1]? = some (.cells #[.int .i64 ((32 : Int) - d)] 3 (0, 0)) := by
    rw [hW, Below.heap_alloc _ _ _ (by first | (simp; done) | (simp; omega)), Below.heap_alloc _ _ _ (by first | (simp; done) | (simp; omega))]
    have := heap_alloc_new (w.alloc (.cells #[.pointer (some ⟨R, 0, none⟩)] 42)) (.cells #[.int .i64 ((32 : Int) - d)] 3)
    simpa using this
  have b2 : W.heap[w.heap.size + 2]? = some zero5 := by
    rw [hW, Below.heap_alloc _ _ _ (by first | (simp; done) | (simp; omega))]
    have := heap_alloc_new ((w.alloc (.cells #[.pointer (some ⟨R, 0, none⟩)] 42)).alloc (.cells #[.int .i64 ((32 : Int) - d)] 3)) zero5
    simpa using this
  have b3 : W.heap[w.heap.size + 3]? = some (.cells #[.int .i64 5, .int .i64 0, .string ⟨#[]⟩, .slice none 0 0, .slice none 0 0] 25 (0, 0)) := by
    rw [hW]
    have := heap_alloc_new (((w.alloc (.cells #[.pointer (some ⟨R, 0, none⟩)] 42)).alloc (.cells #[.int .i64 ((32 : Int) - d)] 3)).alloc zero5) (.cells #[.int .i64 5, .int .i64 0, .string ⟨#[]⟩, .slice none 0 0, .slice none 0 0] 25)
    simpa using this
  have hL : LSt R w.heap.size (w.heap.size + 1) (w.heap.size + 3) (w.heap.size + 4) ((32 : Int) - d) [] W :=
    ⟨b0, b1, .slice none 0 0, [], b3, World.ownsRow_nil _ _ _ _, Kids.nil _ _ _⟩
  have hrW : Rd R s (b :: l) W := by rw [hW]; exact (((h.alloc _).alloc _).alloc _).alloc _
  have HP := Lib.hid (parts_list d hv hd R w.heap.size (w.heap.size + 1) (w.heap.size + 3) (w.heap.size + 4) s b l W hL hrW hs (G.gr hgW (fun k hk e => by unfold one' at e; omega)) hR (by omega) (by omega) (by omega) (by omega) (by omega))
  have B2 := Lib.hid b2
  have HGW := Lib.hid hgW
  have HS := Lib.hid hsz
  have HLT := Lib.hid hlt
  have HW := Lib.hid hW
  unfold zero5 at HW
  clear hW hsz hgW b0 b1 b2 b3 hL hrW h hR G hlt
  go_enter Tryd.func32, Tryd.ntmps32
  go_wp2_with fail
  rw [← HW.out]
  refine HP.out.mono ?_
  rintro e w4 ⟨js, rfl, hjs, ⟨_, _, lv, cells, hp2, hown, hkid⟩, hg4, hr4⟩
  obtain ⟨lp, lc, hlv, hkids⟩ := hkid.done hown
  subst hlv
  have hG : Gr (one' R) w w4 := HGW.out.trans' hg4 (fun k hk hx => by
    rcases hx with e | e | e
    · exact e
    · omega
    · omega)
  have r2 : w4.heap[w.heap.size + 2]? = some zero5 := (hg4.block _ (by have := HS.out; omega) (fun hx => by
    have := HLT.out
    rcases hx with e | e | e <;> omega)).trans B2.out
  have c0 : w4.cell? ⟨w.heap.size + 3, 0, none⟩ = some (.int .i64 5) := by simp [World.cell?, hp2]
  have c1 : w4.cell? ⟨w.heap.size + 3, 1, none⟩ = some (.int .i64 0) := by simp [World.cell?, hp2]
  have c2 : w4.cell? ⟨w.heap.size + 3, 2, none⟩ = some (.string ⟨#[]⟩) := by simp [World.cell?, hp2]
  have c3 : w4.cell? ⟨w.heap.size + 3, 3, none⟩ = some (.slice none 0 0) := by simp [World.cell?, hp2]
  have c4 : w4.cell? ⟨w.heap.size + 3, 4, none⟩ = some (.slice lp js.length lc) := by simp [World.cell?, hp2]
  obtain ⟨d0, d1, d2, d3, d4, k0, k1, k2, k3, k4⟩ := ResAt.cells (B := w.heap.size + 2) (w := w4) r2
  have HX := Lib.hid hjs
  have HG4 := Lib.hid hG
  have HR4 := Lib.hid hr4
  have HK4 := Lib.hid hkids
  clear hjs hG hr4 hkids hp2 hown hkid hg4 r2
  go_wp2_with fail
  refine bodyPost_ret (v := .tuple #[.agg #[.int .i64 5, .int .i64 0, .string ⟨#[]⟩, .slice none 0 0, .slice lp js.length lc], .int .i64 (parts (fun _ => value d) 93 l).err]) (by simp [results, Tryd.results32, go_sem, d0, d1, d2, d3, d4]) rfl ⟨_, .mk 5 0 ⟨#[]⟩ [] js, rfl, ?_, fun js0 r hx => by rw [HX.out js0 r hx]; rfl, HG4.out.five (by omega) _ _ _ _ _, HR4.out.five (by have := HLT.out; omega) _ _ _ _ _⟩
  unfold JAt
  refine ⟨none, 0, lp, lc, rfl, .inl rfl, KidsAt.frame (S := fun k => w.heap.size + 4 ≤ k) (w := w4) (fun k _ hk => by omega) (fun k hk _ => five_block (by omega) _ _ _ _ _) (by unfold five; simp) lp 0 js HK4.out⟩
end Go.Proofs.YtdooeedemgmpiaaDoor
