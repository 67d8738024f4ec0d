/- How a name of a disk is led elsewhere. Conditions: those that each theorem names. -/
import Derived.Test.YtblhbkhehddccaaDkLink
namespace Go.Proofs.Ytblhbkhehddccaa
open Go.RowKit Dk
open Go.ChangeMaps (setBlock)

/-- The disk holds D now, with the same files; of others nothing has turned. -/
def Led (w : World) (A : Nat) (D : DSt) (ρ : Nat → Nat × Nat) (fb : List Nat) (w' : World) : Prop := ∃ ρ', DiskAt w' A D ρ' fb ∧ Fr own ρ ρ' w w'
/-- The marks that leading a name elsewhere touches. -/
def nmMarks (r : Nat × Nat) : Prop := r = (1, 0) ∨ r = (2, 0)
theorem nm_own {r : Nat × Nat} (h : nmMarks r) : own r := by rcases h with h | h <;> rw [h] <;> simp [own]
def LedN (w : World) (A : Nat) (D : DSt) (ρ : Nat → Nat × Nat) (fb : List Nat) (w' : World) : Prop := ∃ ρ', DiskAt w' A D ρ' fb ∧ Fr nmMarks ρ ρ' w w'
theorem LedN.led {w w' : World} {A : Nat} {D : DSt} {ρ : Nat → Nat × Nat} {fb : List Nat} (h : LedN w A D ρ fb w') : Led w A D ρ fb w' := let ⟨ρ', h1, h2⟩ := h; ⟨ρ', h1, h2.weaken (fun _ h => nm_own h)⟩
theorem namesS_del {fb : List Nat} {L : List (Nm × Nat)} (n : Nm) (y u : Value) : (y ≠ .string n ∧ namesS fb L y u) ↔ namesS fb (nmDel L n) y u := by
  constructor
  · rintro ⟨h, n', i, B, h1, h2, rfl, rfl⟩
    exact ⟨n', i, B, mem_nmDel.2 ⟨fun e => h (by rw [← e]), h1⟩, h2, rfl, rfl⟩
  · rintro ⟨n', i, B, h1, h2, rfl, rfl⟩
    have := mem_nmDel.1 h1
    exact ⟨fun e => this.1 (Value.string.inj e), n', i, B, this.2, h2, rfl, rfl⟩
theorem namesS_put {fb : List Nat} {L : List (Nm × Nat)} (n : Nm) (i B : Nat) (hB : fb[i]? = some B) (y u : Value) : ((y = .string n ∧ u = fileV B) ∨ (y ≠ .string n ∧ namesS fb L y u)) ↔ namesS fb (nmPut L n i) y u := by
  constructor
  · rintro (⟨rfl, rfl⟩ | ⟨h, n', i', B', h1, h2, rfl, rfl⟩)
    · exact ⟨n, i, B, mem_nmPut.2 (.inl rfl), hB, rfl, rfl⟩
    · exact ⟨n', i', B', mem_nmPut.2 (.inr ⟨fun e => h (by rw [← e]), h1⟩), h2, rfl, rfl⟩
  · rintro ⟨n', i', B', h1, h2, rfl, rfl⟩
    rcases mem_nmPut.1 h1 with e | ⟨h3, h4⟩
    · obtain ⟨rfl, rfl⟩ := Prod.mk.inj e
      rw [hB] at h2; cases h2
      exact .inl ⟨rfl, rfl⟩
    · exact .inr ⟨fun e => h3 (Value.string.inj e), n', i', B', h4, h2, rfl, rfl⟩

theorem names_drop {w : World} {b : Nat} {fb : List Nat} {L : List (Nm × Nat)} (hM : Mp Try.prog 9 w b (namesS fb L) L.length) (hs : Sorted L) (hf : ∀ p ∈ L, p.2 < fb.length) {n : Nm} (hn : n.size ≤ maxLen) :
    ∃ o, (∀ (X : World) ty, X.heap[b]? = w.heap[b]? → (Builtin.delete_ #[41, 9] ty #[.map (some b), .string n]).run Try.prog X = .ok (.tuple #[]) (setBlock X b o)) ∧ ∀ X : World, X.heap[b]? = some o → Mp Try.prog 9 X b (namesS fb (nmDel L n)) (nmDel L n).length := by
  cases hg : nmGet L n with
  | none =>
    obtain ⟨o, h1, h2⟩ := hM.del_new strK Try.underlying41 (ty := 0) (strKey hn) (namesS_none hg)
    refine ⟨o, fun X ty hX => h1 X hX, fun X hX => ?_⟩
    rw [show (nmDel L n).length = L.length by rw [nmDel_none hg]]
    exact (h2 X hX).congr (namesS_del n)
  | some i =>
    have hi := hf _ ((nmGet_some hs).1 hg)
    obtain ⟨o, h1, h2⟩ := hM.del_old strK Try.underlying41 (ty := 0) (namesS_get hs hg (List.getElem?_eq_getElem hi))
    refine ⟨o, fun X ty hX => h1 X hX, fun X hX => ?_⟩
    rw [length_nmDel_some hs hg]
    exact (h2 X hX).congr (namesS_del n)
theorem names_put {w : World} {b : Nat} {fb : List Nat} {L : List (Nm × Nat)} (hM : Mp Try.prog 9 w b (namesS fb L) L.length) (hs : Sorted L) (hf : ∀ p ∈ L, p.2 < fb.length) (hroom : L.length < maxLen) {n : Nm} (hn : n.size ≤ maxLen) {i B : Nat} (hB : fb[i]? = some B) :
    ∃ o, (∀ X : World, X.heap[b]? = w.heap[b]? → (Instr.mapUpdate 41 (.map (some b)) (.string n) (.pointer (some ⟨B, 0, none⟩))).run Try.prog X = .ok () (setBlock X b o)) ∧ ∀ X : World, X.heap[b]? = some o → Mp Try.prog 9 X b (namesS fb (nmPut L n i)) (nmPut L n i).length := by
  cases hg : nmGet L n with
  | none =>
    obtain ⟨o, h1, h2⟩ := hM.put_new strK Try.underlying41 (v := fileV B) (strKey hn) (namesS_none hg) hroom
    refine ⟨o, h1, fun X hX => ?_⟩
    rw [length_nmPut, nmDel_none hg]
    exact (h2 X hX).congr (namesS_put n i B hB)
  | some j =>
    have hm := (nmGet_some hs).1 hg
    have hj := hf _ hm
    obtain ⟨o, h1, h2⟩ := hM.put_old strK Try.underlying41 (v := fileV B) (namesS_get hs hg (List.getElem?_eq_getElem hj))
    refine ⟨o, h1, fun X hX => ?_⟩
    rw [length_nmPut, length_nmDel_some hs hg]
    have := List.length_pos_of_mem hm
    rw [show L.length - 1 + 1 = L.length by omega]
    exact (h2 X hX).congr (namesS_put n i B hB)

theorem map_is_nil (m : Option Nat) (W : World) : (binOp .eql 41 (.map m) (.map none)).run Try.prog W = .ok (.bool m.isNone) W := Go.run_eql_map_nil W _ _ _ m Try.underlying41
theorem ok_set {D : DSt} (ok : D.Ok) {x : Nm × Option Nat} (hx : linkOk D.files.length x) : ({ D with names := nmSet D.names x } : DSt).Ok := by
  refine ⟨sorted_nmSet ok.sorted x, fun p hp => ?_, ok.opened, ok.synced⟩
  unfold nmSet at hp
  cases h : x.2 with
  | none => rw [h] at hp; exact ok.named p (mem_nmDel.1 hp).2
  | some i =>
    rw [h] at hp
    rcases mem_nmPut.1 hp with rfl | hp
    · exact ⟨hx.1, hx.2 i h⟩
    · exact ok.named p hp.2

/-- A map's block alone turns, and new blocks come. -/
theorem DiskAt.names_turn {A : Nat} {D : DSt} {ρ : Nat → Nat × Nat} {fb : List Nat} {w w' : World} {b : Nat} {op : Value} {pl : Option Nat}
    (ok : D.Ok) (out : ∀ b, w.heap.size ≤ b → ρ b = (0, 0)) (role : ρ A = (1, 0)) (hr : ρ b = (2, 0)) (hb : b < w.heap.size) (hlt : A < w.heap.size)
    (hA : w.heap[A]? = some (.cells (topCells (some b) op D.steps pl) 45 (0, 0))) (hO : OpenAt w ρ fb op D.opn) (hP : PlanAt w ρ pl D.plan) (hF : FilesAt w ρ fb D.files)
    (x : Nm × Option Nat) (hx : linkOk D.files.length x) (os : w'.os = w.os) (tape : w'.tape = w.tape) (output : w'.output = w.output) (size : w.heap.size ≤ w'.heap.size) (hw : ∀ i, i < w.heap.size → i ≠ b → w'.heap[i]? = w.heap[i]?)
    (hM : Mp Try.prog 9 w' b (namesS fb (nmSet D.names x)) (nmSet D.names x).length) :
    DiskAt w' A { D with names := nmSet D.names x } ρ fb ∧ Fr nmMarks ρ ρ w w' := by
  have F : Fr (fun r => r = (2, 0)) ρ ρ w w' := ⟨os, tape, output, size, fun i hi hn => hw i hi (fun e => hn (by rw [e]; exact hr)), fun _ _ => rfl, fun _ _ h => h, fun i hi => out i (Nat.le_trans size hi)⟩
  refine ⟨⟨ok_set ok hx, F.out, role, ⟨some b, op, pl, (hw A hlt (by rintro rfl; rw [role] at hr; cases hr)).trans hA, .inr ⟨b, rfl, hr, hM⟩, hO.fr F (by simp) (by simp), hP.fr F (by simp)⟩, hF.fr F (by simp) (by simp)⟩, F.weaken (fun r hr => .inr hr)⟩

set_option maxHeartbeats 1000000 in
theorem lead_drop (A : Nat) (D : DSt) (ρ : Nat → Nat × Nat) (fb : List Nat) (w : World) (h : DiskAt w A D ρ fb) (n : Nm) (hx : linkOk D.files.length (n, none)) :
    Calls Try.prog 45 #[.pointer (some ⟨A, 0, none⟩), .agg #[.string n, .pointer none]] w fun e w' => e = .returned (.tuple #[]) ∧ LedN w A { D with names := nmSet D.names (n, none) } ρ fb w' := by
  have hlt := h.lt
  have h' := h
  obtain ⟨ok, out, role, ⟨m, op, pl, hA, hN, hO, hP⟩, hF⟩ := h
  have c0 : w.cell? ⟨A, 0, none⟩ = some (.map m) := by simp [World.cell?, hA, topCells]
  have a0 := cell_alloc c0
  rcases hN with ⟨rfl, hL⟩ | ⟨b, rfl, hr, hM⟩
  · have hd := fun (X : World) ty => del_none strK Try.underlying41 (ty := ty) (strKey hx.1) X
    have hfin : ∀ c, DiskAt (w.alloc (.cells c 79)).drew A { D with names := nmSet D.names (n, none) } ρ fb ∧ Fr nmMarks ρ ρ w (w.alloc (.cells c 79)).drew := fun c => by
      have e : ({ D with names := nmSet D.names (n, none) } : DSt) = D := by
        cases D; simp only [nmSet, nmDel] at *; rw [hL]; rfl
      rw [e]
      exact ⟨(h'.alloc _).drew, ⟨rfl, rfl, rfl, by show _ ≤ (w.heap.push _).size; simp, fun i hi _ => heap_alloc_lt hi, fun _ _ => rfl, fun _ _ h => h, fun i hi => out i (by have : (w.alloc (.cells c 79)).heap.size ≤ i := hi; simp at this; omega)⟩⟩
    have HF := Lib.hid hfin
    clear hfin h' ok out role hA hO hP hF hL hx hlt
    go_enter Try.func45, Try.ntmps45
    go_wp2
    go_region
    go_wp2
    exact bodyPost_ret (v := .tuple #[]) (by simp [results, Try.results45, go_sem]) rfl ⟨rfl, _, HF.out _⟩
  · have hb := hM.lt
    obtain ⟨o, hd, hd'⟩ := names_drop hM ok.sorted (fun p hp => by rw [hF.1]; exact (ok.named p hp).2) hx.1
    have hd1 : ∀ c ty, (Builtin.delete_ #[41, 9] ty #[.map (some b), .string n]).run Try.prog (w.alloc c).drew = .ok (.tuple #[]) (setBlock (w.alloc c).drew b o) := fun c ty => hd _ ty (heap_alloc_lt hb)
    have hfin : ∀ c, DiskAt (setBlock (w.alloc (.cells c 79)).drew b o) A { D with names := nmSet D.names (n, none) } ρ fb ∧ Fr nmMarks ρ ρ w (setBlock (w.alloc (.cells c 79)).drew b o) := fun c => by
      refine DiskAt.names_turn ok out role hr hb hlt hA hO hP hF _ hx rfl rfl rfl ?_ (fun i hi hne => (setBlock_ne _ hne).trans (heap_alloc_lt hi)) (hd' _ (setBlock_at _ ?_))
      · rw [setBlock_size]; show _ ≤ (w.heap.push _).size; simp
      · show b < (w.heap.push _).size; simp; omega
    have HF := Lib.hid hfin
    clear hfin h' ok out role hA hO hP hF hx hlt hd hd' hM hr hb
    go_enter Try.func45, Try.ntmps45
    go_wp2
    go_region
    go_wp2
    exact bodyPost_ret (v := .tuple #[]) (by simp [results, Try.results45, go_sem]) rfl ⟨rfl, _, HF.out _⟩

set_option maxHeartbeats 2000000 in
set_option maxRecDepth 100000 in
theorem lead_put (A : Nat) (D : DSt) (ρ : Nat → Nat × Nat) (fb : List Nat) (w : World) (h : DiskAt w A D ρ fb) (hroom : D.names.length < maxLen) (n : Nm) (i B : Nat) (hx : linkOk D.files.length (n, some i)) (hB : fb[i]? = some B) :
    Calls Try.prog 45 #[.pointer (some ⟨A, 0, none⟩), .agg #[.string n, .pointer (some ⟨B, 0, none⟩)]] w fun e w' => e = .returned (.tuple #[]) ∧ LedN w A { D with names := nmSet D.names (n, some i) } ρ fb w' := by
  have hlt := h.lt
  obtain ⟨ok, out, role, ⟨m, op, pl, hA, hN, hO, hP⟩, hF⟩ := h
  have c0 : w.cell? ⟨A, 0, none⟩ = some (.map m) := by simp [World.cell?, hA, topCells]
  have g0 : w.frozen? ⟨A, 0, none⟩ = false := by simp [World.frozen?, hA]
  have a0 := cell_alloc c0
  have z0 := frozen_alloc hlt g0
  have hnl : ∀ p ∈ D.names, p.2 < fb.length := fun p hp => by rw [hF.1]; exact (ok.named p hp).2
  have hmn := map_is_nil
  have hmm := @run_makeMap Try.prog
  rcases hN with ⟨rfl, hL⟩ | ⟨b, rfl, hr, hM⟩
  · obtain ⟨Wa, hWa⟩ : ∃ Wa, Wa = w.setCell ⟨A, 0, none⟩ (.map (some (w.heap.size + 1))) := ⟨_, rfl⟩
    obtain ⟨W1, hW1⟩ : ∃ W1, W1 = Wa.alloc (.cells #[.string n, .pointer (some ⟨B, 0, none⟩)] 79) := ⟨_, rfl⟩
    have hsa : Wa.heap.size = w.heap.size := by rw [hWa]; simp [World.setCell]
    have hs1 : W1.heap.size = w.heap.size + 1 := by rw [hW1]; simp [hsa]
    have hM := Mp.made (P := Try.prog) W1 9
    rw [hs1] at hM
    obtain ⟨o, hd, hd'⟩ := Mp.put_new hM strK Try.underlying41 (v := fileV B) (strKey hx.1) (fun _ h => h) (by decide)
    obtain ⟨W2, hW2⟩ : ∃ W2, W2 = W1.alloc (.map #[] 0) := ⟨_, rfl⟩
    have hA2 : W2.heap[A]? = some (.cells (topCells (some (w.heap.size + 1)) op D.steps pl) 45 (0, 0)) := by
      rw [hW2, heap_alloc_lt (by omega), hW1, heap_alloc_lt (by omega), hWa]; exact heap_setCell_same _ _ _ _ _ _ hA
    have hs2 : W2.heap.size = w.heap.size + 2 := by rw [hW2]; simp; omega
    have hW2o : ∀ j, j < w.heap.size → j ≠ A → W2.heap[j]? = w.heap[j]? := fun j hj hne => by
      rw [hW2, heap_alloc_lt (by omega), hW1, heap_alloc_lt (by omega), hWa, heap_setCell_ne hne]
    have hm2 : W2.heap[w.heap.size + 1]? = (W1.alloc (.map #[] 0)).heap[w.heap.size + 1]? := by rw [hW2]
    have hl2 : W2.heap[w.heap.size]? = some (.cells #[.string n, .pointer (some ⟨B, 0, none⟩)] 79 (0, 0)) := by
      rw [hW2, heap_alloc_lt (by omega), hW1, ← hsa]; exact heap_alloc_new _ _
    have d0 : W2.cell? ⟨A, 0, none⟩ = some (.map (some (w.heap.size + 1))) := by simp [World.cell?, hA2, topCells]
    have l0 : W2.cell? ⟨w.heap.size, 0, none⟩ = some (.string n) := by simp [World.cell?, hl2]
    have l1 : W2.cell? ⟨w.heap.size, 1, none⟩ = some (.pointer (some ⟨B, 0, none⟩)) := by simp [World.cell?, hl2]
    have hu : (Instr.mapUpdate 41 (.map (some (w.heap.size + 1))) (.string n) (.pointer (some ⟨B, 0, none⟩))).run Try.prog W2.drew = .ok () (setBlock W2.drew (w.heap.size + 1) o) := hd _ hm2
    have hfin : DiskAt (setBlock W2.drew (w.heap.size + 1) o) A { D with names := nmSet D.names (n, some i) } (fun j => if j = w.heap.size + 1 then (2, 0) else ρ j) fb ∧ Fr nmMarks ρ (fun j => if j = w.heap.size + 1 then (2, 0) else ρ j) w (setBlock W2.drew (w.heap.size + 1) o) := by
      have hsz : (setBlock W2.drew (w.heap.size + 1) o).heap.size = w.heap.size + 2 := by rw [setBlock_size]; exact hs2
      have F : Fr (fun r => r = (1, 0)) ρ (fun j => if j = w.heap.size + 1 then (2, 0) else ρ j) w (setBlock W2.drew (w.heap.size + 1) o) := by
        refine ⟨by rw [show (setBlock W2.drew (w.heap.size + 1) o).os = W2.os from rfl, hW2, hW1, hWa]; rfl, by rw [show (setBlock W2.drew (w.heap.size + 1) o).tape = W2.tape from rfl, hW2, hW1, hWa]; rfl, by rw [show (setBlock W2.drew (w.heap.size + 1) o).output = W2.output from rfl, hW2, hW1, hWa]; rfl, by omega, fun j hj hn => ?_, fun j hn => ?_, fun j hj hn => ?_, fun j hj => ?_⟩
        · exact (setBlock_ne _ (by omega)).trans (hW2o j hj (fun e => hn (by rw [e]; exact role)))
        · have : j ≠ w.heap.size + 1 := by rintro rfl; exact hn (out _ (by omega))
          simp [this]
        · have : j ≠ w.heap.size + 1 := by omega
          simpa [this] using hn
        · rw [hsz] at hj
          have : j ≠ w.heap.size + 1 := by omega
          simpa [this] using out j (by omega)
      refine ⟨⟨ok_set ok hx, F.out, F.mark role (by simp), ⟨some (w.heap.size + 1), op, pl, (setBlock_ne _ (by omega)).trans hA2, .inr ⟨w.heap.size + 1, rfl, by simp, ?_⟩, hO.fr F (by simp) (by simp), hP.fr F (by simp)⟩, hF.fr F (by simp) (by simp)⟩, F.weaken (fun r hr => .inl hr)⟩
      have e : nmSet D.names (n, some i) = [(n, i)] := by rw [hL]; rfl
      show Mp _ _ _ _ (namesS fb (nmSet D.names (n, some i))) (nmSet D.names (n, some i)).length
      rw [e]
      refine (hd' _ (setBlock_at _ (by show _ < W2.heap.size; omega))).congr (fun y u => ?_)
      constructor
      · rintro (⟨rfl, rfl⟩ | ⟨_, h⟩)
        · exact ⟨n, i, B, by simp, hB, rfl, rfl⟩
        · exact h.elim
      · rintro ⟨n', i', B', h1, h2, rfl, rfl⟩
        obtain ⟨rfl, rfl⟩ : n' = n ∧ i' = i := by simpa using h1
        rw [hB] at h2; cases h2
        exact .inl ⟨rfl, rfl⟩
    have HF := Lib.hid hfin
    have HW1 := Lib.hid hW1
    have HWa := Lib.hid hWa
    have HW2 := Lib.hid hW2
    clear hfin ok out role hA hO hP hF hL hx hd hd' hM hA2 hs2 hW2o hm2 hnl hs1 hsa hl2 hWa hW1 hW2 hB
    go_enter Try.func45, Try.ntmps45
    go_wp2
    rw [← HWa.out, ← HW1.out, ← HW2.out]
    go_region
    go_wp2
    go_end0
    exact ⟨rfl, _, HF.out⟩
  · have hb := hM.lt
    obtain ⟨o, hd, hd'⟩ := names_put hM ok.sorted hnl hroom hx.1 hB
    have hd1 : ∀ c, (Instr.mapUpdate 41 (.map (some b)) (.string n) (.pointer (some ⟨B, 0, none⟩))).run Try.prog (w.alloc c).drew = .ok () (setBlock (w.alloc c).drew b o) := fun c => hd _ (heap_alloc_lt hb)
    have hfin : ∀ c, DiskAt (setBlock (w.alloc (.cells c 79)).drew b o) A { D with names := nmSet D.names (n, some i) } ρ fb ∧ Fr nmMarks ρ ρ w (setBlock (w.alloc (.cells c 79)).drew b o) := fun c => by
      refine DiskAt.names_turn ok out role hr hb hlt hA hO hP hF _ hx rfl rfl rfl ?_ (fun i hi hne => (setBlock_ne _ hne).trans (heap_alloc_lt hi)) (hd' _ (setBlock_at _ ?_))
      · rw [setBlock_size]; show _ ≤ (w.heap.push _).size; simp
      · show b < (w.heap.push _).size; simp; omega
    have HF := Lib.hid hfin
    clear hfin ok out role hA hO hP hF hx hlt hd hd' hM hr hb hnl hB
    go_enter Try.func45, Try.ntmps45
    go_wp2
    go_region
    go_wp2
    go_end0
    exact ⟨rfl, _, HF.out _⟩

theorem lead_n (A : Nat) (D : DSt) (ρ : Nat → Nat × Nat) (fb : List Nat) (w : World) (h : DiskAt w A D ρ fb) (hroom : D.names.length < maxLen) (x : Nm × Option Nat) (hx : linkOk D.files.length x) :
    Calls Try.prog 45 #[.pointer (some ⟨A, 0, none⟩), .agg #[.string x.1, ptrV fb x.2]] w fun e w' => e = .returned (.tuple #[]) ∧ LedN w A { D with names := nmSet D.names x } ρ fb w' := by
  obtain ⟨n, o⟩ := x
  cases o with
  | none => exact lead_drop A D ρ fb w h n hx
  | some i =>
    have hi : i < fb.length := by rw [h.files.1]; exact hx.2 i rfl
    have hB := List.getElem?_eq_getElem hi
    have := lead_put A D ρ fb w h hroom n i _ hx hB
    simpa [ptrV, hB] using this
theorem lead_any (A : Nat) (D : DSt) (ρ : Nat → Nat × Nat) (fb : List Nat) (w : World) (h : DiskAt w A D ρ fb) (hroom : D.names.length < maxLen) (x : Nm × Option Nat) (hx : linkOk D.files.length x) :
    Calls Try.prog 45 #[.pointer (some ⟨A, 0, none⟩), .agg #[.string x.1, ptrV fb x.2]] w fun e w' => e = .returned (.tuple #[]) ∧ Led w A { D with names := nmSet D.names x } ρ fb w' :=
  (lead_n A D ρ fb w h hroom x hx).mono fun _ _ ⟨he, hl⟩ => ⟨he, hl.led⟩
theorem Fr.transS {S : Nat × Nat → Prop} (hS : ¬ S (0, 0)) {ρ ρ1 ρ2 : Nat → Nat × Nat} {w w1 w2 : World} (h : Fr S ρ ρ1 w w1) (k : Fr S ρ1 ρ2 w1 w2) : Fr S ρ ρ2 w w2 where
  os := k.os.trans h.os
  tape := k.tape.trans h.tape
  output := k.output.trans h.output
  size := Nat.le_trans h.size k.size
  block b hb hn := by
    refine (k.block b (Nat.lt_of_lt_of_le hb h.size) ?_).trans (h.block b hb hn)
    by_cases e : ρ b = (0, 0)
    · rw [h.stay b hb e]; exact hS
    · rw [h.keep b e]; exact hn
  keep b hn := by
    have := h.keep b hn
    rw [k.keep b (by rw [this]; exact hn), this]
  stay b hb e := k.stay b (Nat.lt_of_lt_of_le hb h.size) (h.stay b hb e)
  out := k.out
end Go.Proofs.Ytblhbkhehddccaa
