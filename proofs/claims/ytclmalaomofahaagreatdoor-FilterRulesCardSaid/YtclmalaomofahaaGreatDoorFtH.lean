/- What a condition says, as the program's said answers it. Conditions: those that each theorem names. -/
import Derived.Test.YtclmalaomofahaaGreatDoorFtG
import Derived.Test.YtclmalaomofahaaGreatDoorFtF
namespace Go.Proofs.YtclmalaomofahaaGreatDoor
set_option linter.unusedVariables false
namespace Ft
open Go Go.RowKit Pq Pq.Pl Rk Px
set_option maxHeartbeats 1000000 in
set_option maxRecDepth 100000 in
theorem said_1 (nm : Nm) (v : Val) (lo hi : Int) (p : Option Addr) (n cc : Nat) (w : World) :
    Calls Tryz.prog 26 #[cv ⟨1, nm, v, lo, hi, ⟨p, n, cc⟩⟩] w fun e w' => e = .returned (.iface 65 (.bool true)) ∧ Below w.heap.size w w' := by
  have HA := Lib.hid (Rk.fresh_alloc w (cobj ⟨1, nm, v, lo, hi, ⟨p, n, cc⟩⟩))
  go_enter Tryz.func26, Tryz.ntmps26
  go_wp2_with fail
  go_ret
  exact ⟨rfl, HA.out⟩
set_option maxHeartbeats 1000000 in
set_option maxRecDepth 100000 in
theorem said_2 (nm : Nm) (v : Val) (lo hi : Int) (p : Option Addr) (n cc : Nat) (w : World) :
    Calls Tryz.prog 26 #[cv ⟨2, nm, v, lo, hi, ⟨p, n, cc⟩⟩] w fun e w' => e = .returned (.iface 65 (.bool false)) ∧ Below w.heap.size w w' := by
  have HA := Lib.hid (Rk.fresh_alloc w (cobj ⟨2, nm, v, lo, hi, ⟨p, n, cc⟩⟩))
  go_enter Tryz.func26, Tryz.ntmps26
  go_wp2_with fail
  go_ret
  exact ⟨rfl, HA.out⟩
set_option maxHeartbeats 1000000 in
set_option maxRecDepth 100000 in
theorem said_3 (nm : Nm) (v : Val) (lo hi : Int) (p : Option Addr) (n cc : Nat) (w : World) :
    Calls Tryz.prog 26 #[cv ⟨3, nm, v, lo, hi, ⟨p, n, cc⟩⟩] w fun e w' => e = .returned (.iface 66 (.string nm)) ∧ Below w.heap.size w w' := by
  have HA := Lib.hid (Rk.fresh_alloc w (cobj ⟨3, nm, v, lo, hi, ⟨p, n, cc⟩⟩))
  go_enter Tryz.func26, Tryz.ntmps26
  go_wp2_with fail
  go_ret
  exact ⟨rfl, HA.out⟩
set_option maxHeartbeats 1000000 in
set_option maxRecDepth 100000 in
theorem said_4 (nm : Nm) (v : Val) (lo hi : Int) (p : Option Addr) (n cc : Nat) (w : World) :
    Calls Tryz.prog 26 #[cv ⟨4, nm, v, lo, hi, ⟨p, n, cc⟩⟩] w fun e w' => e = .returned (.iface 68 (.agg #[.string nm, .int .i64 v.kind, .int .i64 v.n, .string v.text])) ∧ Below w.heap.size w w' := by
  have HA := Lib.hid (Rk.fresh_alloc w (cobj ⟨4, nm, v, lo, hi, ⟨p, n, cc⟩⟩))
  go_enter Tryz.func26, Tryz.ntmps26
  go_wp2_with fail
  go_ret
  exact ⟨rfl, HA.out⟩
set_option maxHeartbeats 1000000 in
set_option maxRecDepth 100000 in
theorem said_5 (nm : Nm) (v : Val) (lo hi : Int) (p : Option Addr) (n cc : Nat) (w : World) :
    Calls Tryz.prog 26 #[cv ⟨5, nm, v, lo, hi, ⟨p, n, cc⟩⟩] w fun e w' => e = .returned (.iface 70 (.agg #[.string nm, .int .i64 lo, .int .i64 hi])) ∧ Below w.heap.size w w' := by
  have HA := Lib.hid (Rk.fresh_alloc w (cobj ⟨5, nm, v, lo, hi, ⟨p, n, cc⟩⟩))
  go_enter Tryz.func26, Tryz.ntmps26
  go_wp2_with fail
  go_ret
  exact ⟨rfl, HA.out⟩
set_option maxHeartbeats 1000000 in
set_option maxRecDepth 100000 in
theorem said_7 (nm : Nm) (v : Val) (lo hi : Int) (p : Option Addr) (n cc : Nat) (w : World) :
    Calls Tryz.prog 26 #[cv ⟨7, nm, v, lo, hi, ⟨p, n, cc⟩⟩] w fun e w' => e = .returned (.iface 73 (.slice p n cc)) ∧ Below w.heap.size w w' := by
  have HA := Lib.hid (Rk.fresh_alloc w (cobj ⟨7, nm, v, lo, hi, ⟨p, n, cc⟩⟩))
  go_enter Tryz.func26, Tryz.ntmps26
  go_wp2_with fail
  go_ret
  exact ⟨rfl, HA.out⟩
set_option maxHeartbeats 1000000 in
set_option maxRecDepth 100000 in
theorem said_8 (nm : Nm) (v : Val) (lo hi : Int) (p : Option Addr) (n cc : Nat) (w : World) :
    Calls Tryz.prog 26 #[cv ⟨8, nm, v, lo, hi, ⟨p, n, cc⟩⟩] w fun e w' => e = .returned (.iface 76 (.slice p n cc)) ∧ Below w.heap.size w w' := by
  have HA := Lib.hid (Rk.fresh_alloc w (cobj ⟨8, nm, v, lo, hi, ⟨p, n, cc⟩⟩))
  go_enter Tryz.func26, Tryz.ntmps26
  go_wp2_with fail
  go_ret
  exact ⟨rfl, HA.out⟩
set_option maxHeartbeats 1000000 in
set_option maxRecDepth 100000 in
theorem said_6no (nm : Nm) (v : Val) (lo hi : Int) (p : Option Addr) (n cc : Nat) (w : World) (h : ¬ n = 1) :
    Calls Tryz.prog 26 #[cv ⟨6, nm, v, lo, hi, ⟨p, n, cc⟩⟩] w fun e w' => e = .returned (.nilIface) ∧ Below w.heap.size w w' := by
  have HA := Lib.hid (Rk.fresh_alloc w (cobj ⟨6, nm, v, lo, hi, ⟨p, n, cc⟩⟩))
  have h1 : ((n : Int) == 1) = false := by simp; omega
  clear h
  go_enter Tryz.func26, Tryz.ntmps26
  go_wp2_with fail
  go_ret
  exact ⟨rfl, HA.out⟩
set_option maxHeartbeats 1000000 in
set_option maxRecDepth 100000 in
theorem said_0 (k : Int) (nm : Nm) (v : Val) (lo hi : Int) (p : Option Addr) (n cc : Nat) (w : World) (h1 : ¬ k = 1) (h2 : ¬ k = 2) (h3 : ¬ k = 3) (h4 : ¬ k = 4) (h5 : ¬ k = 5) (h6 : ¬ k = 6) (h7 : ¬ k = 7) (h8 : ¬ k = 8) :
    Calls Tryz.prog 26 #[cv ⟨k, nm, v, lo, hi, ⟨p, n, cc⟩⟩] w fun e w' => e = .returned (.nilIface) ∧ Below w.heap.size w w' := by
  have HA := Lib.hid (Rk.fresh_alloc w (cobj ⟨k, nm, v, lo, hi, ⟨p, n, cc⟩⟩))
  have g1 : (k == 1) = false := by simpa using h1
  have g2 : (k == 2) = false := by simpa using h2
  have g3 : (k == 3) = false := by simpa using h3
  have g4 : (k == 4) = false := by simpa using h4
  have g5 : (k == 5) = false := by simpa using h5
  have g6 : (k == 6) = false := by simpa using h6
  have g7 : (k == 7) = false := by simpa using h7
  have g8 : (k == 8) = false := by simpa using h8
  clear h1 h2 h3 h4 h5 h6 h7 h8
  go_enter Tryz.func26, Tryz.ntmps26
  go_wp2_with fail
  go_ret
  exact ⟨rfl, HA.out⟩
set_option maxHeartbeats 1000000 in
set_option maxRecDepth 100000 in
theorem said_6 (nm : Nm) (v : Val) (lo hi : Int) (g off cc : Nat) (x : Rc) (w : World) (h : ∀ W : World, W.heap[g]? = w.heap[g]? → W.cell? ⟨g, off, none⟩ = some (.int .i64 x.kind) ∧ W.cell? ⟨g, off + 1, none⟩ = some (.string x.name) ∧ W.cell? ⟨g, off + 2, none⟩ = some (.int .i64 x.val.kind) ∧ W.cell? ⟨g, off + 3, none⟩ = some (.int .i64 x.val.n) ∧ W.cell? ⟨g, off + 4, none⟩ = some (.string x.val.text) ∧ W.cell? ⟨g, off + 5, none⟩ = some (.int .i64 x.low) ∧ W.cell? ⟨g, off + 6, none⟩ = some (.int .i64 x.high) ∧ W.cell? ⟨g, off + 7, none⟩ = some (.slice x.l.p x.l.n x.l.c)) (hg : g < w.heap.size) :
    Calls Tryz.prog 26 #[cv ⟨6, nm, v, lo, hi, ⟨some ⟨g, off, none⟩, 1, cc⟩⟩] w fun e w' => e = .returned (.iface 72 (cv x)) ∧ Below w.heap.size w w' := by
  have HA := Lib.hid (Rk.fresh_alloc w (cobj ⟨6, nm, v, lo, hi, ⟨some ⟨g, off, none⟩, 1, cc⟩⟩))
  obtain ⟨x0, x1, x2, x3, x4, x5, x6, x7⟩ := h (w.alloc (cobj ⟨6, nm, v, lo, hi, ⟨some ⟨g, off, none⟩, 1, cc⟩⟩)) (Rk.heap_old _ _ hg)
  obtain ⟨k0, k1, ⟨k2, k3, k4⟩, k5, k6, ⟨k7, k8, k9⟩⟩ := x
  simp only at x0 x1 x2 x3 x4 x5 x6 x7
  clear h
  go_enter Tryz.func26, Tryz.ntmps26
  go_wp2_with fail
  go_ret
  exact ⟨rfl, HA.out⟩
end Ft
end Go.Proofs.YtclmalaomofahaaGreatDoor
