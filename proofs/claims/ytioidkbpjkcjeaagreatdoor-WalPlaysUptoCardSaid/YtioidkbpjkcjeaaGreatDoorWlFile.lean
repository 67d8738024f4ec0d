/- The log's file on a disk without faults: what each of its methods does. Conditions: those that each theorem names. -/
import Derived.Test.YtioidkbpjkcjeaaGreatDoorWlDk
namespace Go.Proofs.YtioidkbpjkcjeaaGreatDoor
set_option linter.unusedVariables false
open Go Go.RowKit Dk Wl
def nL : Nm := ⟨#[108, 111, 103]⟩
theorem nL_ok : nL.size ≤ maxLen := by decide
theorem nL_full : nL.toList.isEmpty = false := by rw [Go.ByteArray.toList_eq]; rfl
/-- A disk with the log's file alone. -/
def st (l : List UInt8) (s : Nat) (k : Int) : DSt := ⟨[(nL, 0)], [], [⟨l, s⟩], k, []⟩
theorem st_get (l : List UInt8) (s : Nat) (k : Int) : nmGet (st l s k).names nL = some 0 := by kernel_rfl
theorem st_hit (l : List UInt8) (s : Nat) (k : Int) : (st l s k).hit = none := rfl
def fV (A : Nat) : Value := .agg #[.pointer (some ⟨A, 0, none⟩), .string nL]
def fO (A : Nat) : Obj := .cells #[.pointer (some ⟨A, 0, none⟩), .string nL] 88 (0, 0)
theorem fO_cells (w : World) (A : Nat) : (w.alloc (fO A)).cell? ⟨w.heap.size, 0, none⟩ = some (.pointer (some ⟨A, 0, none⟩)) ∧ (w.alloc (fO A)).cell? ⟨w.heap.size, 1, none⟩ = some (.string nL) := by
  have h := heap_alloc_new w (fO A)
  exact ⟨by rw [cell_of_row _ _ _ _ _ _ h]; rfl, by rw [cell_of_row _ _ _ _ _ _ h]; rfl⟩
def logO (A : Nat) (sz last : Int) (br : Bool) : Obj := .cells #[.pointer (some ⟨A, 0, none⟩), .string nL, .int .i64 sz, .int .i64 last, .bool br] 90 (0, 0)
theorem RcsAt.stay {w w' : World} {v : Value} {L : List Rc} (h : RcsAt w v L) (hs : w.heap.size ≤ w'.heap.size) (hb : ∀ b, v.ownBlock = some b → w'.heap[b]? = w.heap[b]?) : RcsAt w' v L := by
  rcases h with h | ⟨g, off, c, rfl, hg, hc⟩
  · exact .inl h
  · exact .inr ⟨g, off, c, rfl, Nat.lt_of_lt_of_le hg hs, fun W hW => hc W (hW.trans (hb g (by simp [Value.ownBlock])))⟩
theorem logO_cells {w : World} {A B : Nat} {sz last : Int} {br : Bool} (h : w.heap[B]? = some (logO A sz last br)) :
    w.cell? ⟨B, 0, none⟩ = some (.pointer (some ⟨A, 0, none⟩)) ∧ w.cell? ⟨B, 1, none⟩ = some (.string nL) ∧ w.cell? ⟨B, 2, none⟩ = some (.int .i64 sz) ∧ w.cell? ⟨B, 3, none⟩ = some (.int .i64 last) ∧ w.cell? ⟨B, 4, none⟩ = some (.bool br) :=
  ⟨by rw [cell_of_row _ _ _ _ _ _ h]; rfl, by rw [cell_of_row _ _ _ _ _ _ h]; rfl, by rw [cell_of_row _ _ _ _ _ _ h]; rfl, by rw [cell_of_row _ _ _ _ _ _ h]; rfl, by rw [cell_of_row _ _ _ _ _ _ h]; rfl⟩
theorem logO_set {w : World} {A B : Nat} {sz last : Int} {br : Bool} (h : w.heap[B]? = some (logO A sz last br)) (x y : Int) :
    ((w.setCell ⟨B, 2, none⟩ (.int .i64 x)).setCell ⟨B, 3, none⟩ (.int .i64 y)).heap[B]? = some (logO A x y br) :=
  setCell_at (setCell_at h _) _
theorem Stay.set {X : Nat → Prop} {w w1 : World} (h : Stay X w w1) {B : Nat} (hX : ¬ X B) (k : Nat) (v : Value) : Stay X w (w1.setCell ⟨B, k, none⟩ v) :=
  ⟨by rw [show (w1.setCell ⟨B, k, none⟩ v).heap.size = w1.heap.size by simp [World.setCell]]; exact h.1, fun b hb => (heap_setCell_other _ _ _ _ (fun (e : b = B) => hX (e ▸ hb))).trans (h.2 b hb)⟩
section
variable {w0 w : World} {A : Nat} {X : Nat → Prop}
set_option maxHeartbeats 1000000 in
theorem fwrite_any {l : List UInt8} {s : Nat} {k : Int} (h : AtB w0 A (st l s k) X w) (hk : 0 ≤ k ∧ k ≤ 4611686018427387904) (t : ByteArray) (ht : l.length + t.size ≤ 200000000000000) :
    Calls Tryz.prog 40 #[fV A, .string t] w fun e w' => e = .returned .nilIface ∧ AtB w0 A (st (l ++ t.data.toList) s (k + 1)) X w' ∧ Stay X w w' := by
  obtain ⟨c0, c1⟩ := fO_cells w A
  have HA := Lib.hid (h.alloc (fO A))
  have HS := Lib.hid (stay_below h (below_new w (fO A)))
  have C := Lib.hid (HA.out.write_old hk.1 hk.2 nL t nL_ok (by unfold maxLen; omega) nL_full (st_hit _ _ _) 0 ⟨l, s⟩ (st_get _ _ _) rfl ht)
  have HE : Hid (({ (st l s k).tick with files := (st l s k).files.set 0 { (FileC.mk l s) with data := (FileC.mk l s).data ++ t.data.toList } } : DSt) = st (l ++ t.data.toList) s (k + 1)) := Lib.hid rfl
  rw [HE.out] at C
  clear h ht hk
  unfold fV
  go_enter Tryz.func40, Tryz.ntmps40
  go_wp2_with fail
  refine C.out.mono ?_
  rintro e w1 ⟨rfl, h1, h2⟩
  have H1 := Lib.hid h1
  have H2 := Lib.hid (HS.out.trans h2)
  clear h1 h2 c0 c1
  go_wp2_with fail
  refine (answered_ok _).mono ?_
  rintro e w2 ⟨rfl, rfl⟩
  go_wp2_with fail
  go_ret
  exact ⟨rfl, H1.out, H2.out⟩
set_option maxHeartbeats 1000000 in
theorem fsync_any {l : List UInt8} {s : Nat} {k : Int} (h : AtB w0 A (st l s k) X w) (hk : 0 ≤ k ∧ k ≤ 4611686018427387904) :
    Calls Tryz.prog 42 #[fV A] w fun e w' => e = .returned .nilIface ∧ AtB w0 A (st l l.length (k + 1)) X w' ∧ Stay X w w' := by
  obtain ⟨c0, c1⟩ := fO_cells w A
  have HA := Lib.hid (h.alloc (fO A))
  have HS := Lib.hid (stay_below h (below_new w (fO A)))
  have C := Lib.hid (HA.out.sync hk.1 hk.2 nL nL_ok nL_full 0 ⟨l, s⟩ (st_get _ _ _) rfl (st_hit _ _ _))
  have HE : Hid (({ (st l s k).tick with files := (st l s k).files.set 0 (syncF ⟨l, s⟩) } : DSt) = st l l.length (k + 1)) := Lib.hid rfl
  rw [HE.out] at C
  clear h hk
  unfold fV
  go_enter Tryz.func42, Tryz.ntmps42
  go_wp2_with fail
  refine C.out.mono ?_
  rintro e w1 ⟨rfl, h1, h2⟩
  have H1 := Lib.hid h1
  have H2 := Lib.hid (HS.out.trans h2)
  clear h1 h2 c0 c1
  go_wp2_with fail
  refine (answered_ok _).mono ?_
  rintro e w2 ⟨rfl, rfl⟩
  go_wp2_with fail
  go_ret
  exact ⟨rfl, H1.out, H2.out⟩
set_option maxHeartbeats 1000000 in
theorem fcut_any {l : List UInt8} {s : Nat} {k : Int} (h : AtB w0 A (st l s k) X w) (hk : 0 ≤ k ∧ k ≤ 4611686018427387904) (n : Nat) (hn : n ≤ l.length) :
    Calls Tryz.prog 57 #[fV A, .int .i64 (n : Int)] w fun e w' => e = .returned .nilIface ∧ AtB w0 A (st (l.take n) (min s n) (k + 1)) X w' ∧ Stay X w w' := by
  obtain ⟨c0, c1⟩ := fO_cells w A
  have HA := Lib.hid (h.alloc (fO A))
  have HS := Lib.hid (stay_below h (below_new w (fO A)))
  have C := Lib.hid (HA.out.cut hk.1 hk.2 nL (n : Int) nL_ok nL_full 0 ⟨l, s⟩ (st_get _ _ _) rfl (st_hit _ _ _) n (by show min (max (n : Int) 0) (l.length : Int) = n; omega))
  have HE : Hid (({ (st l s k).tick with files := (st l s k).files.set 0 ((FileC.mk l s).cut n) } : DSt) = st (l.take n) (min s n) (k + 1)) := Lib.hid (by
    show DSt.mk [(nL, 0)] [] [⟨l.take n, min s (l.take n).length⟩] (k + 1) [] = _
    rw [List.length_take, Nat.min_eq_left hn]; rfl)
  rw [HE.out] at C
  clear h hk hn
  unfold fV
  go_enter Tryz.func57, Tryz.ntmps57
  go_wp2_with fail
  refine C.out.mono ?_
  rintro e w1 ⟨rfl, h1, h2⟩
  have H1 := Lib.hid h1
  have H2 := Lib.hid (HS.out.trans h2)
  clear h1 h2 c0 c1
  go_wp2_with fail
  refine (answered_ok _).mono ?_
  rintro e w2 ⟨rfl, rfl⟩
  go_wp2_with fail
  go_ret
  exact ⟨rfl, H1.out, H2.out⟩
set_option maxHeartbeats 1000000 in
theorem fread_old {l : List UInt8} {s : Nat} {k : Int} (h : AtB w0 A (st l s k) X w) :
    Calls Tryz.prog 31 #[fV A] w fun e w' => e = .returned (.tuple #[.string (tx l), .nilIface]) ∧ AtB w0 A (st l s k) X w' ∧ Stay X w w' := by
  obtain ⟨c0, c1⟩ := fO_cells w A
  have HA := Lib.hid (h.alloc (fO A))
  have HS := Lib.hid (stay_below h (below_new w (fO A)))
  have C : Hid (Calls Tryz.prog 8 #[.pointer (some ⟨A, 0, none⟩), .string nL] (w.alloc (fO A)) fun e w' => e = .returned (.tuple #[.string (tx l), .int .i64 0]) ∧ w.alloc (fO A) = w') := Lib.hid (HA.out.read_some nL nL_ok nL_full 0 ⟨l, s⟩ (st_get _ _ _) rfl)
  clear h
  have HR : Hid (rfV 20 = .iface 128 (.int .i64 20)) := Lib.hid rfl
  have CN := is_nil (w.alloc (fO A))
  rw [HR.out] at CN
  have CN' := Lib.hid CN
  clear CN
  unfold fV
  go_enter Tryz.func31, Tryz.ntmps31
  go_wp2_with fail
  refine C.out.mono ?_
  rintro e w1 ⟨rfl, rfl⟩
  go_wp2_with fail
  refine (answered_ok _).mono ?_
  rintro e w2 ⟨rfl, rfl⟩
  go_wp2_with fail
  refine CN'.out.mono ?_
  rintro e w2 ⟨rfl, rfl⟩
  go_wp2_with fail
  go_ret2
  exact ⟨rfl, HA.out, HS.out⟩
end
end Go.Proofs.YtioidkbpjkcjeaaGreatDoor
