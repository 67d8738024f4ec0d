/- The reader's call that reads an object. Conditions: those that each theorem names. -/
import Derived.Test.YtdooeedemgmpiaaDoorJsPartsO
namespace Go.Proofs.YtdooeedemgmpiaaDoor
set_option linter.unusedVariables false
open Go Go.RowKit Js

def ObjP (R : Nat) (s : ByteArray) (x : Js.R (List (ByteArray × J))) (w : World) (e : Ending) (w' : World) : Prop :=
  ∃ v j, e = .returned (.tuple #[v, .int .i64 x.err]) ∧ JAt (fun b => w.heap.size ≤ b) w' j v ∧ (∀ ps r, x = .ok ps r → j = .mk 6 0 ByteArray.empty (ps.map (·.1)) (ps.map (·.2))) ∧ Gr (one' R) w w' ∧ Rd R s x.rest w'
set_option maxHeartbeats 1000000 in
set_option maxRecDepth 100000 in
theorem object_any (d : Nat) (hv : ValueOk d) (hd : d ≤ 32) (R : Nat) (s : ByteArray) (b : UInt8) (l : Bs) (w : World) (h : Rd R s (b :: l) w) (hs : s.size ≤ 16777215) (G : Gl w) (hR : gN ≤ R) :
    Calls Tryd.prog 31 #[.pointer (some ⟨R, 0, none⟩), .int .i64 ((32 : Int) - d)] w (ObjP R s (parts (pair (value d)) 125 l) w) := by
  have hmf : ∀ (fn : Fn) (first cap : Array Value) (w : World), (Instr.makeFunc fn first cap).run Tryd.prog w = .ok (.func fn first cap) w := fun _ _ _ _ => rfl
  have hmm := @run_makeMap Tryd.prog
  have hlt := h.lt
  obtain ⟨W3, hW3⟩ : ∃ W, W = (((w.alloc (.cells #[.pointer (some ⟨R, 0, none⟩)] 42)).alloc (.cells #[.int .i64 ((32 : Int) - d)] 3)).alloc zero5).alloc (.cells #[.int .i64 6, .int .i64 0, .string ⟨#[]⟩, .slice none 0 0, .slice none 0 0] 25) := ⟨_, rfl⟩
  have hsz3 : W3.heap.size = w.heap.size + 4 := by rw [hW3]; simp
  have b0' : W3.heap[w.heap.size]? = some (.cells #[.pointer (some ⟨R, 0, none⟩)] 42 (0, 0)) := by
    rw [hW3, Below.heap_alloc _ _ _ (by first | (simp; done) | (simp; omega)), Below.heap_alloc _ _ _ (by first | (simp; done) | (simp; omega)), Below.heap_alloc _ _ _ (by first | (simp; done) | (simp; omega))]; exact heap_alloc_new _ _
  have b1' : W3.heap[w.heap.size + 1]? = some (.cells #[.int .i64 ((32 : Int) - d)] 3 (0, 0)) := by
    rw [hW3, Below.heap_alloc _ _ _ (by first | (simp; done) | (simp; omega)), Below.heap_alloc _ _ _ (by first | (simp; done) | (simp; omega))]
    have := heap_alloc_new (w.alloc (.cells #[.pointer (some ⟨R, 0, none⟩)] 42)) (.cells #[.int .i64 ((32 : Int) - d)] 3)
    simpa using this
  have b2' : W3.heap[w.heap.size + 2]? = some zero5 := by
    rw [hW3, Below.heap_alloc _ _ _ (by first | (simp; done) | (simp; omega))]
    have := heap_alloc_new ((w.alloc (.cells #[.pointer (some ⟨R, 0, none⟩)] 42)).alloc (.cells #[.int .i64 ((32 : Int) - d)] 3)) zero5
    simpa using this
  have b3' : W3.heap[w.heap.size + 3]? = some (.cells #[.int .i64 6, .int .i64 0, .string ⟨#[]⟩, .slice none 0 0, .slice none 0 0] 25 (0, 0)) := by
    rw [hW3]
    have := heap_alloc_new (((w.alloc (.cells #[.pointer (some ⟨R, 0, none⟩)] 42)).alloc (.cells #[.int .i64 ((32 : Int) - d)] 3)).alloc zero5) (.cells #[.int .i64 6, .int .i64 0, .string ⟨#[]⟩, .slice none 0 0, .slice none 0 0] 25)
    simpa using this
  have hg3 : Gr (one' R) w W3 := by rw [hW3]; exact ((((Gr.refl _ w).alloc _).alloc _).alloc _).alloc _
  have hr3 : Rd R s (b :: l) W3 := by rw [hW3]; exact (((h.alloc _).alloc _).alloc _).alloc _
  obtain ⟨W, hW⟩ : ∃ W, W = (W3.alloc (.map #[] 0)).alloc (.cells #[.map (some (w.heap.size + 4))] 67) := ⟨_, rfl⟩
  have hsz : W.heap.size = w.heap.size + 6 := by rw [hW]; simp; omega
  have kp : ∀ k, k < w.heap.size + 4 → W.heap[k]? = W3.heap[k]? := fun k hk => by
    rw [hW, Below.heap_alloc _ _ _ (by first | (simp; omega) | omega), Below.heap_alloc _ _ _ (by omega)]
  have b4 : Seen (w.heap.size + 4) [] W := by
    have hm : Mp Tryd.prog 9 (W3.alloc (.map #[] 0)) (w.heap.size + 4) (fun _ _ => False) 0 := by rw [← hsz3]; exact Mp.made W3 9
    have hk : Mp Tryd.prog 9 W (w.heap.size + 4) (fun _ _ => False) 0 := hm.kept (by rw [hW]; exact Below.heap_alloc _ _ _ (by simp; omega))
    exact hk.congr fun y u => by unfold SeenS; simp
  have b5 : W.heap[w.heap.size + 5]? = some (.cells #[.map (some (w.heap.size + 4))] 67 (0, 0)) := by
    rw [hW]
    have := heap_alloc_new (W3.alloc (.map #[] 0)) (.cells #[.map (some (w.heap.size + 4))] 67)
    rw [show (W3.alloc (.map #[] 0)).heap.size = w.heap.size + 5 by simp; omega] at this
    exact this
  have hgW : Gr (one' R) w W := by rw [hW]; exact (hg3.alloc _).alloc _
  have hrW : Rd R s (b :: l) W := by rw [hW]; exact (hr3.alloc _).alloc _
  have hL : OSt R w.heap.size (w.heap.size + 5) (w.heap.size + 1) (w.heap.size + 3) (w.heap.size + 4) (w.heap.size + 6) ((32 : Int) - d) [] W :=
    ⟨⟨(kp _ (by omega)).trans b0', b5, (kp _ (by omega)).trans b1', .slice none 0 0, .slice none 0 0, [], (kp _ (by omega)).trans b3', World.ownsRow_nil _ _ _ _, World.ownsRow_nil _ _ _ _, fun g hg => by simp [Value.ownBlock] at hg, Kids2.nil _ _⟩, b4⟩
  have HP := Lib.hid (parts_obj d hv hd R w.heap.size (w.heap.size + 5) (w.heap.size + 1) (w.heap.size + 3) (w.heap.size + 4) (w.heap.size + 6) s b l W hL hrW hs (G.gr hgW (fun k hk e => by unfold one' at e; omega)) hR (by omega) (by omega) (by omega) (by omega) (by omega) (by omega) (by omega))
  have B2 := Lib.hid ((kp _ (by omega)).trans b2')
  have HGW := Lib.hid hgW
  have HS := Lib.hid hsz
  have HLT := Lib.hid hlt
  rw [hW3] at hW
  have HW := Lib.hid hW
  unfold zero5 at HW
  clear hW hW3 hsz hsz3 hgW b0' b1' b2' b3' b4 b5 kp hg3 hr3 hL hrW h hR G hlt
  go_enter Tryd.func31, Tryd.ntmps31
  go_wp2_with fail
  rw [← HW.out]
  refine HP.out.mono ?_
  rintro e w4 ⟨ns, js, rfl, hjs, ⟨_, _, _, nv, lv, cells, hp2, hownn, hown, hap, hkid⟩, hg4, hr4⟩
  obtain ⟨lp, lc, hlv, hkids⟩ := hkid.kids.done hown
  obtain ⟨np, nc, hnv, hnames⟩ := names_done hownn
  subst hlv hnv
  have hG : Gr (one' R) w w4 := HGW.out.trans' hg4 (fun k hk hx => by
    rcases hx with e | e | e | e
    · exact e
    all_goals omega)
  have r2 : w4.heap[w.heap.size + 2]? = some zero5 := (hg4.block _ (by have := HS.out; omega) (fun hx => by
    have := HLT.out
    rcases hx with e | e | e | e <;> omega)).trans B2.out
  have c0 : w4.cell? ⟨w.heap.size + 3, 0, none⟩ = some (.int .i64 6) := by simp [World.cell?, hp2]
  have c1 : w4.cell? ⟨w.heap.size + 3, 1, none⟩ = some (.int .i64 0) := by simp [World.cell?, hp2]
  have c2 : w4.cell? ⟨w.heap.size + 3, 2, none⟩ = some (.string ⟨#[]⟩) := by simp [World.cell?, hp2]
  have c3 : w4.cell? ⟨w.heap.size + 3, 3, none⟩ = some (.slice np ns.length nc) := by simp [World.cell?, hp2]
  have c4 : w4.cell? ⟨w.heap.size + 3, 4, none⟩ = some (.slice lp js.length lc) := by simp [World.cell?, hp2]
  obtain ⟨d0, d1, d2, d3, d4, k0, k1, k2, k3, k4⟩ := ResAt.cells (B := w.heap.size + 2) (w := w4) r2
  have HX := Lib.hid hjs
  have HG4 := Lib.hid hG
  have HR4 := Lib.hid hr4
  have HK4 := Lib.hid hkids
  have HN4 := Lib.hid hnames
  clear hjs hG hr4 hkids hnames hp2 hown hownn hap hkid hg4 r2
  go_wp2_with fail
  refine bodyPost_ret (v := .tuple #[.agg #[.int .i64 6, .int .i64 0, .string ⟨#[]⟩, .slice np ns.length nc, .slice lp js.length lc], .int .i64 (parts (pair (value d)) 125 l).err]) (by simp [results, Tryd.results31, go_sem, d0, d1, d2, d3, d4]) rfl ⟨_, .mk 6 0 ⟨#[]⟩ ns js, rfl, ?_, fun ps r hx => by rw [(HX.out ps r hx).1, (HX.out ps r hx).2]; rfl, HG4.out.five (by omega) _ _ _ _ _, HR4.out.five (by have := HLT.out; omega) _ _ _ _ _⟩
  unfold JAt
  exact ⟨np, nc, lp, lc, rfl, NamesAt.frame (S := fun k => w.heap.size + 6 ≤ k) (w := w4) HN4.out (fun k _ hk => by omega) (fun k hk _ => five_block (by omega) _ _ _ _ _) (by simp), KidsAt.frame (S := fun k => w.heap.size + 6 ≤ k) (w := w4) (fun k _ hk => by omega) (fun k hk _ => five_block (by omega) _ _ _ _ _) (by unfold five; simp) lp 0 js HK4.out⟩
end Go.Proofs.YtdooeedemgmpiaaDoor
