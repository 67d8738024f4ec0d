/- What the steps of a disk do: a fault that was planned is met, or none. Conditions: those that each theorem names. -/
import Derived.Test.YtblhbkhehddccaaDkRep
import Derived.BigRegion
import Derived.Deep.RegionHeld3
import Derived.Deep.QuietTactic
import Derived.BigQuiet
import Derived.Outline
import Derived.WalkSpells
import Derived.WalkLawsBesides
namespace Go.Proofs.Ytblhbkhehddccaa
open Go.RowKit Dk

theorem cell_alloc {w : World} {b i : Nat} {v : Value} (h : w.cell? ⟨b, i, none⟩ = some v) : ∀ o, (w.alloc o).cell? ⟨b, i, none⟩ = some v := fun o => by
  have hb := World.block_lt_of_cell? w _ h
  rw [← h]; exact World.cell?_of_block (w := w) (a := ⟨b, i, none⟩) (Below.heap_alloc _ _ _ hb)
theorem frozen_alloc {w : World} {b i : Nat} (hb : b < w.heap.size) (h : w.frozen? ⟨b, i, none⟩ = false) : ∀ o, (w.alloc o).frozen? ⟨b, i, none⟩ = false := fun o => by
  rw [← h]; exact World.frozen?_of_block (w := w) (a := ⟨b, i, none⟩) (Below.heap_alloc _ _ _ hb)
theorem heap_setCell_ne {w : World} {a : Addr} {v : Value} {k : Nat} (h : k ≠ a.block) : (w.setCell a v).heap[k]? = w.heap[k]? := Below.heap_setCell _ _ _ _ h
theorem heap_alloc_lt {w : World} {o : Obj} {k : Nat} (h : k < w.heap.size) : (w.alloc o).heap[k]? = w.heap[k]? := Below.heap_alloc _ _ _ h

set_option maxHeartbeats 1000000 in
theorem step_miss (A : Nat) (D : DSt) (ρ : Nat → Nat × Nat) (fb : List Nat) (w : World) (h : DiskAt w A D ρ fb) (h0 : 0 ≤ D.steps) (h1 : D.steps ≤ 4611686018427387904) (hm : D.hit = none) :
    Calls Try.prog 30 #[.pointer (some ⟨A, 0, none⟩)] w fun e w' => e = .returned (.tuple #[.agg #[.int .i64 0, .int .i64 0, .int .i64 0], .int .i64 0]) ∧ DiskAt w' A D.tick ρ fb ∧ Fr own ρ ρ w w' := by
  have hlt := h.lt
  obtain ⟨ok, out, role, ⟨m, op, pl, hA, hN, hO, hP⟩, hF⟩ := h
  generalize hn : D.steps = n at *
  have c2 : w.cell? ⟨A, 2, none⟩ = some (.int .i64 n) := by simp [World.cell?, hA, topCells]
  have c3 : w.cell? ⟨A, 3, none⟩ = some (.map pl) := by simp [World.cell?, hA, topCells]
  have f2 : w.frozen? ⟨A, 2, none⟩ = false := by simp [World.frozen?, hA]
  have hl : ∀ W : World, (∀ b, b < w.heap.size → b ≠ A → W.heap[b]? = w.heap[b]?) → (Instr.lookup 43 (.map pl) (.int .i64 (n + 1)) true).run Try.prog W = .ok (.tuple #[.agg #[.int .i64 0, .int .i64 0, .int .i64 0], .bool false]) W := by
    intro W hW
    rcases hP with ⟨rfl, _⟩ | ⟨b, k, rfl, hr, hM⟩
    · exact look_none intK Try.underlying43 zeroFault (intKey (by omega) (by omega)) true W
    · refine hM.miss intK Try.underlying43 zeroFault (intKey (by omega) (by omega)) ?_ true W (hW b hM.lt (by rintro rfl; rw [role] at hr; cases hr))
      rintro v ⟨f, hf, e1, _⟩
      have := List.find?_eq_none.1 hm f hf
      simp only [Value.int.injEq] at e1
      simp at this; omega
  obtain ⟨W, hW⟩ : ∃ W, W = (w.setCell ⟨A, 2, none⟩ (.int .i64 (n + 1))).alloc (.cells #[.int .i64 0, .int .i64 0, .int .i64 0] 63) := ⟨_, rfl⟩
  have hsz : W.heap.size = w.heap.size + 1 := by rw [hW]; simp
  have hWA : W.heap[A]? = some (.cells (topCells m op (n + 1) pl) 45 (0, 0)) := by
    rw [hW, heap_alloc_lt (by simpa using hlt)]; exact heap_setCell_same _ _ _ _ _ _ hA
  have hWo : ∀ b, b < w.heap.size → b ≠ A → W.heap[b]? = w.heap[b]? := fun b hb hne => by
    rw [hW, heap_alloc_lt (by simpa using hb), heap_setCell_ne hne]
  have hWn : W.heap[w.heap.size]? = some (.cells #[.int .i64 0, .int .i64 0, .int .i64 0] 63 (0, 0)) := by
    rw [hW]; have := heap_alloc_new (w.setCell ⟨A, 2, none⟩ (.int .i64 (n + 1))) (.cells #[.int .i64 0, .int .i64 0, .int .i64 0] 63); simpa using this
  have d2 : W.cell? ⟨A, 2, none⟩ = some (.int .i64 (n + 1)) := by simp [World.cell?, hWA, topCells]
  have d3 : W.cell? ⟨A, 3, none⟩ = some (.map pl) := by simp [World.cell?, hWA, topCells]
  have r0 : W.cell? ⟨w.heap.size, 0, none⟩ = some (.int .i64 0) := by simp [World.cell?, hWn]
  have r1 : W.cell? ⟨w.heap.size, 1, none⟩ = some (.int .i64 0) := by simp [World.cell?, hWn]
  have r2 : W.cell? ⟨w.heap.size, 2, none⟩ = some (.int .i64 0) := by simp [World.cell?, hWn]
  have g0 : W.frozen? ⟨w.heap.size, 0, none⟩ = false := by simp [World.frozen?, hWn]
  have g1 : W.frozen? ⟨w.heap.size, 1, none⟩ = false := by simp [World.frozen?, hWn]
  have g2 : W.frozen? ⟨w.heap.size, 2, none⟩ = false := by simp [World.frozen?, hWn]
  have l1 : (Instr.lookup 43 (.map pl) (.int .i64 (n + 1)) true).run Try.prog W.drew = .ok (.tuple #[.agg #[.int .i64 0, .int .i64 0, .int .i64 0], .bool false]) W.drew := hl _ hWo
  have l2 : ∀ o, (Instr.lookup 43 (.map pl) (.int .i64 (n + 1)) true).run Try.prog (W.alloc o).drew = .ok (.tuple #[.agg #[.int .i64 0, .int .i64 0, .int .i64 0], .bool false]) (W.alloc o).drew := fun o =>
    hl _ (fun b hb hne => (heap_alloc_lt (by omega)).trans (hWo b hb hne))
  have a2 := cell_alloc d2
  have a3 := cell_alloc d3
  have b0 := cell_alloc r0
  have b1 := cell_alloc r1
  have b2 := cell_alloc r2
  have z0 := frozen_alloc (by omega) g0
  have z1 := frozen_alloc (by omega) g1
  have z2 := frozen_alloc (by omega) g2
  have HW := Lib.hid hW
  have HA := Lib.hid hA
  have HWA := Lib.hid hWA
  have HWn := Lib.hid hWn
  have HWo := Lib.hid hWo
  have HL := Lib.hid hl
  have HS := Lib.hid hsz
  have HP := Lib.hid hP
  have HR := Lib.hid role
  have HO := Lib.hid out
  have HM := Lib.hid hm
  have HNN := Lib.hid hn
  clear hW hA hWA hWn hWo hl hsz hP role out hm hn
  go_enter Try.func30, Try.ntmps30
  go_wp2
  rw [← HW.out]
  go_region
  go_wp2
  refine bodyPost_ret (v := .tuple #[.agg #[.int .i64 0, .int .i64 0, .int .i64 0], .int .i64 0]) (by simp [results, Try.results30, go_sem, b0, b1, b2]) rfl ⟨rfl, ?_⟩
  have hb' : ∀ b, b < w.heap.size → (World.setCell (World.setCell (World.setCell (W.alloc (Obj.cells #[.int .i64 0, .int .i64 0, .int .i64 0] 63)) ⟨w.heap.size, 0, none⟩ (.int .i64 0)) ⟨w.heap.size, 1, none⟩ (.int .i64 0)) ⟨w.heap.size, 2, none⟩ (.int .i64 0)).heap[b]? = W.heap[b]? := fun b hb => by
    have hne : b ≠ w.heap.size := by omega
    rw [heap_setCell_ne hne, heap_setCell_ne hne, heap_setCell_ne hne, heap_alloc_lt (by have := HS.out; omega)]
  have F : Fr (fun r => r = (1, 0)) ρ ρ w _ := Fr.mk (w' := (World.setCell (World.setCell (World.setCell (W.alloc (Obj.cells #[.int .i64 0, .int .i64 0, .int .i64 0] 63)) ⟨w.heap.size, 0, none⟩ (.int .i64 0)) ⟨w.heap.size, 1, none⟩ (.int .i64 0)) ⟨w.heap.size, 2, none⟩ (.int .i64 0)).drew)
    (by rw [HW.out]; rfl) (by rw [HW.out]; rfl) (by rw [HW.out]; rfl) (by have := HS.out; simp; omega)
    (fun b hb hn => (hb' b hb).trans (HWo.out b hb (fun e => hn (by rw [e]; exact HR.out))))
    (fun _ _ => rfl) (fun _ _ h => h) (fun b hb => HO.out b (by have := HS.out; simp at hb; omega))
  refine ⟨⟨⟨ok.sorted, ok.named, ok.opened, ok.synced⟩, F.out, HR.out, ⟨m, op, pl, (hb' A hlt).trans (HWA.out.trans ?_), hN.fr F (by simp), hO.fr F (by simp) (by simp), ?_⟩, hF.fr F (by simp) (by simp)⟩, F.weaken (fun r hr => by rw [hr]; simp [own])⟩
  · show _ = some (Obj.cells (topCells m op (D.steps + 1) pl) _ _)
    rw [HNN.out]
  · have e : D.tick.plan = D.plan := by
      show D.plan.filter _ = _
      rw [List.filter_eq_self]
      intro f hf
      have := List.find?_eq_none.1 HM.out f hf
      simpa using this
    rw [e]
    exact HP.out.fr F (by simp)

set_option maxHeartbeats 2000000 in
theorem step_hit (A : Nat) (D : DSt) (ρ : Nat → Nat × Nat) (fb : List Nat) (w : World) (h : DiskAt w A D ρ fb) (h0 : 0 ≤ D.steps) (h1 : D.steps ≤ 4611686018427387904) (fa fk fn : Int) (hm : D.hit = some (fa, fk, fn)) :
    Calls Try.prog 30 #[.pointer (some ⟨A, 0, none⟩)] w fun e w' => e = .returned (.tuple #[.agg #[.int .i64 fa, .int .i64 fk, .int .i64 fn], .int .i64 (hitErr (fa, fk, fn))]) ∧ DiskAt w' A D.tick ρ fb ∧ Fr own ρ ρ w w' := by
  have hlt := h.lt
  obtain ⟨ok, out, role, ⟨m, op, pl, hA, hN, hO, hP⟩, hF⟩ := h
  generalize hn : D.steps = n at *
  have hfn : fa = n + 1 := by have := List.find?_some hm; simp at this; omega
  have hmem : (fa, fk, fn) ∈ D.plan := List.mem_of_find?_eq_some hm
  rcases hP with ⟨_, hnil⟩ | ⟨b, k, rfl, hr, hM⟩
  · rw [hnil] at hmem; cases hmem
  have hbA : b ≠ A := by rintro rfl; rw [role] at hr; cases hr
  have hb := hM.lt
  have hSm : planS D.plan (.int .i64 (n + 1)) (faultV (fa, fk, fn)) := ⟨_, hmem, by rw [hfn], rfl⟩
  have hl := hM.look intK Try.underlying43 zeroFault hSm true
  obtain ⟨o', hd, hd'⟩ := hM.del_old intK Try.underlying43 (ty := 0) hSm
  have c2 : w.cell? ⟨A, 2, none⟩ = some (.int .i64 n) := by simp [World.cell?, hA, topCells]
  have c3 : w.cell? ⟨A, 3, none⟩ = some (.map (some b)) := by simp [World.cell?, hA, topCells]
  have f2 : w.frozen? ⟨A, 2, none⟩ = false := by simp [World.frozen?, hA]
  obtain ⟨W, hW⟩ : ∃ W, W = (w.setCell ⟨A, 2, none⟩ (.int .i64 (n + 1))).alloc (.cells #[.int .i64 0, .int .i64 0, .int .i64 0] 63) := ⟨_, rfl⟩
  have hsz : W.heap.size = w.heap.size + 1 := by rw [hW]; simp
  have hWA : W.heap[A]? = some (.cells (topCells m op (n + 1) (some b)) 45 (0, 0)) := by
    rw [hW, heap_alloc_lt (by simpa using hlt)]; exact heap_setCell_same _ _ _ _ _ _ hA
  have hWo : ∀ b, b < w.heap.size → b ≠ A → W.heap[b]? = w.heap[b]? := fun b hb hne => by
    rw [hW, heap_alloc_lt (by simpa using hb), heap_setCell_ne hne]
  have hWn : W.heap[w.heap.size]? = some (.cells #[.int .i64 0, .int .i64 0, .int .i64 0] 63 (0, 0)) := by
    rw [hW]; have := heap_alloc_new (w.setCell ⟨A, 2, none⟩ (.int .i64 (n + 1))) (.cells #[.int .i64 0, .int .i64 0, .int .i64 0] 63); simpa using this
  have d2 : W.cell? ⟨A, 2, none⟩ = some (.int .i64 (n + 1)) := by simp [World.cell?, hWA, topCells]
  have d3 : W.cell? ⟨A, 3, none⟩ = some (.map (some b)) := by simp [World.cell?, hWA, topCells]
  have r0 : W.cell? ⟨w.heap.size, 0, none⟩ = some (.int .i64 0) := by simp [World.cell?, hWn]
  have r1 : W.cell? ⟨w.heap.size, 1, none⟩ = some (.int .i64 0) := by simp [World.cell?, hWn]
  have r2 : W.cell? ⟨w.heap.size, 2, none⟩ = some (.int .i64 0) := by simp [World.cell?, hWn]
  have g0 : W.frozen? ⟨w.heap.size, 0, none⟩ = false := by simp [World.frozen?, hWn]
  have g1 : W.frozen? ⟨w.heap.size, 1, none⟩ = false := by simp [World.frozen?, hWn]
  have g2 : W.frozen? ⟨w.heap.size, 2, none⟩ = false := by simp [World.frozen?, hWn]
  have l1 : (Instr.lookup 43 (.map (some b)) (.int .i64 (n + 1)) true).run Try.prog W.drew = .ok (.tuple #[.agg #[.int .i64 fa, .int .i64 fk, .int .i64 fn], .bool true]) W.drew := hl _ (hWo b hb hbA)
  have l2 : ∀ o, (Instr.lookup 43 (.map (some b)) (.int .i64 (n + 1)) true).run Try.prog (W.alloc o).drew = .ok (.tuple #[.agg #[.int .i64 fa, .int .i64 fk, .int .i64 fn], .bool true]) (W.alloc o).drew := fun o =>
    hl _ ((heap_alloc_lt (by omega)).trans (hWo b hb hbA))
  have hdW : ∀ o ty, (Builtin.delete_ #[43, 3] ty #[.map (some b), .int .i64 (n + 1)]).run Try.prog (W.alloc o).drew.drew = .ok (.tuple #[]) (Go.ChangeMaps.setBlock (W.alloc o).drew.drew b o') := fun o ty =>
    hd _ ((heap_alloc_lt (by omega)).trans (hWo b hb hbA))
  have hbr : ∀ (X : World) i, (Go.ChangeMaps.setBlock X b o').cell? ⟨w.heap.size, i, none⟩ = X.cell? ⟨w.heap.size, i, none⟩ := fun X i => setBlock_cell o' (by omega)
  have hbv : ∀ (X : World) i, (Go.ChangeMaps.setBlock X b o').cell? ⟨W.heap.size, i, none⟩ = X.cell? ⟨W.heap.size, i, none⟩ := fun X i => setBlock_cell o' (by omega)
  have hbf : ∀ (X : World) i, (Go.ChangeMaps.setBlock X b o').frozen? ⟨w.heap.size, i, none⟩ = X.frozen? ⟨w.heap.size, i, none⟩ := fun X i => setBlock_frozen o' (by omega)
  have hfin : ∀ (c : Array Value) (v0 v1 v2 : Value), DiskAt (World.setCell (World.setCell (World.setCell (Go.ChangeMaps.setBlock (W.alloc (.cells c 63)).drew.drew b o') ⟨w.heap.size, 0, none⟩ v0) ⟨w.heap.size, 1, none⟩ v1) ⟨w.heap.size, 2, none⟩ v2) A D.tick ρ fb ∧
      Fr own ρ ρ w (World.setCell (World.setCell (World.setCell (Go.ChangeMaps.setBlock (W.alloc (.cells c 63)).drew.drew b o') ⟨w.heap.size, 0, none⟩ v0) ⟨w.heap.size, 1, none⟩ v1) ⟨w.heap.size, 2, none⟩ v2) := by
    intro c v0 v1 v2
    have hb' : ∀ i, i < w.heap.size → (World.setCell (World.setCell (World.setCell (Go.ChangeMaps.setBlock (W.alloc (.cells c 63)).drew.drew b o') ⟨w.heap.size, 0, none⟩ v0) ⟨w.heap.size, 1, none⟩ v1) ⟨w.heap.size, 2, none⟩ v2).heap[i]? = (Go.ChangeMaps.setBlock (W.alloc (.cells c 63)).drew.drew b o').heap[i]? := fun i hi => by
      have hne : i ≠ w.heap.size := by omega
      rw [heap_setCell_ne hne, heap_setCell_ne hne, heap_setCell_ne hne]
    have hbo : ∀ i, i < w.heap.size → i ≠ b → (World.setCell (World.setCell (World.setCell (Go.ChangeMaps.setBlock (W.alloc (.cells c 63)).drew.drew b o') ⟨w.heap.size, 0, none⟩ v0) ⟨w.heap.size, 1, none⟩ v1) ⟨w.heap.size, 2, none⟩ v2).heap[i]? = W.heap[i]? := fun i hi hne => by
      rw [hb' i hi, setBlock_ne _ hne]
      exact heap_alloc_lt (by omega)
    have F : Fr (fun r => r = (1, 0) ∨ r = (7, 0)) ρ ρ w _ := Fr.mk (w' := World.setCell (World.setCell (World.setCell (Go.ChangeMaps.setBlock (W.alloc (.cells c 63)).drew.drew b o') ⟨w.heap.size, 0, none⟩ v0) ⟨w.heap.size, 1, none⟩ v1) ⟨w.heap.size, 2, none⟩ v2)
      (by rw [hW]; rfl) (by rw [hW]; rfl) (by rw [hW]; rfl) (by simp [setBlock_size]; omega)
      (fun i hi hn => (hbo i hi (fun e => hn (by rw [e]; exact .inr hr))).trans (hWo i hi (fun e => hn (by rw [e]; exact .inl role))))
      (fun _ _ => rfl) (fun _ _ h => h) (fun i hi => out i (by simp [setBlock_size] at hi; omega))
    refine ⟨⟨⟨ok.sorted, ok.named, ok.opened, ok.synced⟩, F.out, role, ⟨m, op, some b, (hbo A hlt hbA.symm).trans (hWA.trans ?_), hN.fr F (by simp), hO.fr F (by simp) (by simp), .inr ⟨b, k - 1, rfl, hr, (hd' _ ?_).congr ?_⟩⟩, hF.fr F (by simp) (by simp)⟩, F.weaken (fun r hr => by rcases hr with hr | hr <;> rw [hr] <;> simp [own])⟩
    · show _ = some (Obj.cells (topCells m op (D.steps + 1) _) _ _)
      rw [hn]
    · rw [hb' b hb]; exact setBlock_at _ (by show b < (W.heap.push _).size; simp; omega)
    · intro y u
      show _ ↔ planS (D.plan.filter _) y u
      constructor
      · rintro ⟨h1, f, hf, rfl, rfl⟩
        exact ⟨f, List.mem_filter.2 ⟨hf, by simp only [ne_eq, decide_eq_true_eq]; rintro e; exact h1 (by rw [e, hn])⟩, rfl, rfl⟩
      · rintro ⟨f, hf, rfl, rfl⟩
        obtain ⟨h1, h2⟩ := List.mem_filter.1 hf
        simp only [ne_eq, decide_eq_true_eq] at h2
        exact ⟨fun e => h2 (by simp only [Value.int.injEq, true_and] at e; rw [e, hn]), f, h1, rfl, rfl⟩
  have HFIN := Lib.hid hfin
  clear hfin
  have a2 := cell_alloc d2
  have a3 := cell_alloc d3
  have b0 := cell_alloc r0
  have b1 := cell_alloc r1
  have b2 := cell_alloc r2
  have z0 := frozen_alloc (by omega) g0
  have z1 := frozen_alloc (by omega) g1
  have z2 := frozen_alloc (by omega) g2
  have HW := Lib.hid hW
  have HA := Lib.hid hA
  have HWA := Lib.hid hWA
  have HWn := Lib.hid hWn
  have HWo := Lib.hid hWo
  have HS := Lib.hid hsz
  have HR := Lib.hid role
  have HO := Lib.hid out
  have HM := Lib.hid hm
  have HNN := Lib.hid hn
  have HD := Lib.hid hd'
  have HFN := Lib.hid hfn
  clear hW hA hWA hWn hWo hl hsz role out hm hn hd hd' hfn
  have h3 : (fk == 3) = true ∨ (fk == 3) = false := by cases h : (fk == 3) <;> simp
  rcases h3 with h3 | h3
  all_goals
    have he : hitErr (fa, fk, fn) = (if fk == 3 then 23 else 22) := by simp [hitErr]
    rw [h3] at he
    have HE := Lib.hid he
    clear he
    go_enter Try.func30, Try.ntmps30
    go_wp2
    rw [← HW.out]
    go_region
    go_wp2
    go_region
    go_wp2
    rw [HE.out]
    refine bodyPost_ret (v := .tuple #[.agg #[.int .i64 fa, .int .i64 fk, .int .i64 fn], .int .i64 _]) (by simp [results, Try.results30, go_sem, hbr, b0, b1, b2]) rfl ⟨rfl, HFIN.out _ _ _ _⟩
end Go.Proofs.Ytblhbkhehddccaa
