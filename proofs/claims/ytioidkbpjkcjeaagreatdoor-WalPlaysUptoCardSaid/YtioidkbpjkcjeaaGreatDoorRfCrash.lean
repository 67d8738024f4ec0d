/- The document's own disk: Crash. Conditions: those that each theorem names. -/
import Derived.Test.YtioidkbpjkcjeaaGreatDoorGaE
import Derived.Test.YtioidkbpjkcjeaaGreatDoorGaF
namespace Go.Proofs.YtioidkbpjkcjeaaGreatDoor
set_option linter.unusedVariables false
open Go.RowKit Dk
/-- A row of names behind an own one: the source may be nil. -/
theorem append_names {w : World} {base : Nat} {v : Value} {A B : List (Nm × Nat)} {q : Option Addr} {c : Nat} (hown : w.ownsRow base 119 2 v A.length (nameCells A))
    (hs : (q = none ∧ B = []) ∨ ∃ ad, q = some ad ∧ ∀ j u, (nameCells B)[j]? = some u → w.cell? (ad.add j) = some u) (hb : A.length + B.length ≤ 2199023255552) (hbase : base ≤ w.heap.size) :
    ∃ v' w', (∀ ty, (Builtin.append_ #[28, 28] ty #[v, .slice q B.length c]).run Tryz.prog w = .ok v' w') ∧ w'.ownsRow base 119 2 v' (A ++ B).length (nameCells (A ++ B)) ∧ w.grownBy w' v.ownBlock ∧ (v'.ownBlock = v.ownBlock ∨ v'.ownBlock = some w.heap.size) := by
  obtain ⟨i0, hi, hz0, hz1, hz2⟩ := info_parts infoName
  have hlen : ∀ L : List (Nm × Nat), (nameCells L).length = L.length * 2 := fun L => by
    induction L with
    | nil => rfl
    | cons p r ih => show (nameCells r).length + 1 + 1 = _; rw [ih, List.length_cons]; omega
  rcases hs with ⟨rfl, rfl⟩ | ⟨ad, rfl, hc⟩
  · refine ⟨v, w, fun ty => ?_, by simpa using hown, ⟨rfl, rfl, rfl, Nat.le_refl _, fun _ _ _ => rfl⟩, .inl rfl⟩
    have ht := Tryz.underlying28
    rcases hown.2 with ⟨rfl, h0⟩ | ⟨g, cap, cur, rfl, _, hg, h1, _⟩
    · simp [Builtin.append_, run_underlying ht, sizeOf, typeInfo, hi, Builtin.lenOf, Builtin.firstCells]
    · simp [Builtin.append_, run_underlying ht, sizeOf, typeInfo, hi, Builtin.lenOf, Builtin.firstCells, storeCells, h1]
  · obtain ⟨v', w', hr, h2, h3, h4⟩ := run_append_own_at (P := Tryz.prog) w base 28 28 119 i0 _ 2 24 Tryz.underlying28 hi hz0 hz1 hz2 rfl (by decide) v A.length (nameCells A) hown ad B.length c (nameCells B) (hlen B) hc
      (fun u hu => by
        obtain ⟨p, _, hp⟩ := List.mem_flatMap.1 hu
        simp at hp
        rcases hp with rfl | rfl <;> rfl) (by unfold maxLen; omega) (by omega) hbase
    have e : nameCells (A ++ B) = nameCells A ++ nameCells B := by simp [nameCells]
    exact ⟨v', w', fun _ => hr, by rw [e, List.length_append]; exact h2, h3, h4.2⟩
theorem names_succ {M : RSt} {k : Nat} (h : k < M.opn.length) : M.names (k + 1) = (M.opn[k]).foldl nmSet (M.names k) := by
  unfold RSt.names
  rw [List.take_succ_eq_append_getElem h, List.foldl_append]; rfl
theorem names_over {M : RSt} {k : Nat} (h : M.opn.length ≤ k) : M.names k = M.names M.opn.length := by
  unfold RSt.names
  rw [List.take_of_length_le h, List.take_length]
def crFiles (M : RSt) (L : List (Nm × Nat)) (bs : List Int) : List FileC := L.mapIdx fun j p => (M.files[p.2]?.getD ⟨[], 0⟩).crash (left bs j)
def crNames (L : List (Nm × Nat)) : List (Nm × Nat) := L.mapIdx fun j p => (p.1, j)
theorem crFiles_next {M : RSt} {L : List (Nm × Nat)} {bs : List Int} {k : Nat} (h : k < L.length) : (crFiles M L bs).take (k + 1) = (crFiles M L bs).take k ++ [(M.files[(L[k]).2]?.getD ⟨[], 0⟩).crash (left bs k)] := by
  have hl : k < (crFiles M L bs).length := by unfold crFiles; simpa using h
  have e : (crFiles M L bs)[k]? = some ((M.files[(L[k]).2]?.getD ⟨[], 0⟩).crash (left bs k)) := by
    unfold crFiles
    rw [List.getElem?_mapIdx, List.getElem?_eq_getElem h]; rfl
  rw [List.take_succ_eq_append_getElem hl, (List.getElem?_eq_some_iff.1 e).2]
theorem crNames_next {L : List (Nm × Nat)} {k : Nat} (h : k < L.length) : (crNames L).take (k + 1) = (crNames L).take k ++ [((L[k]).1, k)] := by
  have hl : k < (crNames L).length := by unfold crNames; simpa using h
  have e : (crNames L)[k]? = some ((L[k]).1, k) := by
    unfold crNames
    rw [List.getElem?_mapIdx, List.getElem?_eq_getElem h]; rfl
  rw [List.take_succ_eq_append_getElem hl, (List.getElem?_eq_some_iff.1 e).2]
theorem crash_eq (M : RSt) (k : Nat) (bs : List Int) : M.crash k bs = ⟨crNames (M.names k), [], crFiles M (M.names k) bs, M.made, []⟩ := rfl
theorem set_os (W : World) (a : Addr) (v : Value) : (W.setCell a v).os = W.os := rfl
theorem set_tape (W : World) (a : Addr) (v : Value) : (W.setCell a v).tape = W.tape := rfl
theorem set_output (W : World) (a : Addr) (v : Value) : (W.setCell a v).output = W.output := rfl
set_option maxHeartbeats 1000000 in
/-- The five stores of a crash. -/
theorem crash_top {w W4 : World} {B : Nat} {X : Nat → Prop} {M : RSt} {fv nv lv ov pv fu nu : Value} {cs : List Chg} (h : RfTop w B X M fv nv lv ov pv cs) (gr : Below w.heap.size w W4) (L : List (Nm × Nat)) (fs : List FileC)
    (h1 : W4.ownsRow w.heap.size 86 2 fu fs.length (fileCells fs)) (h2 : W4.ownsRow w.heap.size 119 2 nu L.length (nameCells L)) (hne : ∀ g, fu.ownBlock = some g → nu.ownBlock ≠ some g) :
    RfTop (((((W4.setCell ⟨B, 0, none⟩ fu).setCell ⟨B, 1, none⟩ nu).setCell ⟨B, 2, none⟩ nu).setCell ⟨B, 3, none⟩ (.slice none 0 0)).setCell ⟨B, 4, none⟩ (.slice none 0 0)) B (fun b => X b ∨ (w.heap.size ≤ b ∧ b < W4.heap.size)) ⟨L, [], fs, M.made, []⟩ fu nu nu (.slice none 0 0) (.slice none 0 0) [] ∧
      Rk X w (((((W4.setCell ⟨B, 0, none⟩ fu).setCell ⟨B, 1, none⟩ nu).setCell ⟨B, 2, none⟩ nu).setCell ⟨B, 3, none⟩ (.slice none 0 0)).setCell ⟨B, 4, none⟩ (.slice none 0 0)) := by
  have hsz : ∀ (W : World) a v, (W.setCell a v).heap.size = W.heap.size := fun W a v => by simp [World.setCell]
  have hB := h.lt B h.here
  have hs := gr.size
  generalize hW : (((((W4.setCell ⟨B, 0, none⟩ fu).setCell ⟨B, 1, none⟩ nu).setCell ⟨B, 2, none⟩ nu).setCell ⟨B, 3, none⟩ (.slice none 0 0)).setCell ⟨B, 4, none⟩ (.slice none 0 0)) = W
  have ho : ∀ b, b ≠ B → W.heap[b]? = W4.heap[b]? := fun b hb => by
    rw [← hW, heap_setCell_other _ _ _ _ hb, heap_setCell_other _ _ _ _ hb, heap_setCell_other _ _ _ _ hb, heap_setCell_other _ _ _ _ hb, heap_setCell_other _ _ _ _ hb]
  have hWs : W.heap.size = W4.heap.size := by rw [← hW, hsz, hsz, hsz, hsz, hsz]
  have hos : W.os = W4.os := by rw [← hW, set_os, set_os, set_os, set_os, set_os]
  have hta : W.tape = W4.tape := by rw [← hW, set_tape, set_tape, set_tape, set_tape, set_tape]
  have hou : W.output = W4.output := by rw [← hW, set_output, set_output, set_output, set_output, set_output]
  have b0 := (gr.block B hB).trans h.box
  have b1 := heap_setCell_same _ B 0 _ _ fu b0
  have b2 := heap_setCell_same _ B 1 _ _ nu b1
  have b3 := heap_setCell_same _ B 2 _ _ nu b2
  have b4 := heap_setCell_same _ B 3 _ _ (.slice none 0 0) b3
  have b5 := heap_setCell_same _ B 4 _ _ (.slice none 0 0) b4
  rw [hW] at b5
  have hfl := fun g (hg : fu.ownBlock = some g) => h1.lt g hg
  have hnl := fun g (hg : nu.ownBlock = some g) => h2.lt g hg
  have hrow : RowN W nu L := (row_names h2).kept (fun g hg => ho g (by have := (hnl g hg).1; omega)) (by omega)
  have hap : ∀ g, nu.ownBlock = some g → (X g ∨ (w.heap.size ≤ g ∧ g < W4.heap.size)) ∧ g ≠ B ∧ fu.ownBlock ≠ some g := fun g hg => ⟨.inr (hnl g hg), by have := (hnl g hg).1; omega, fun e => hne g e hg⟩
  refine ⟨⟨b5, ?_, ?_, hrow, .inl ⟨rfl, none, 0, rfl⟩, rfl, .inl ⟨rfl, none, 0, rfl⟩, ?_, fun g hg => ⟨.inr (hfl g hg), by have := (hfl g hg).1; omega⟩, .inl h.here, ?_⟩, ?_⟩
  · exact Go.Joins.ownsRow_le (ownsRow_same h1 fun g hg => ho g (by have := (hfl g hg).1; omega)) (Nat.zero_le _)
  · exact hrow
  · intro v hv g hg
    rcases hv with rfl | rfl | rfl | rfl
    · exact hap g hg
    · exact hap g hg
    · cases hg
    · cases hg
  · intro b hb
    rw [hWs]
    rcases hb with hb | hb
    · have := h.lt b hb; omega
    · exact hb.2
  · refine ⟨?_, ?_, ?_, by omega, fun b hb hx => (ho b (fun e => hx (by rw [e]; exact h.here))).trans (gr.block b hb)⟩
    · rw [hos]; exact gr.os
    · rw [hta]; exact gr.tape
    · rw [hou]; exact gr.output
theorem chg_cell {w : World} {p : Option Addr} {n c : Nat} {L : List Chg} (h : ChgR w (.slice p n c) L) {j : Nat} (hj : j < L.length) :
    ∃ g off, p = some ⟨g, off, none⟩ ∧ w.cell? ⟨g, off + j * 4, none⟩ = some (.int .i64 (L[j]).kind) ∧ w.cell? ⟨g, off + j * 4 + 1, none⟩ = some (.string (L[j]).a) ∧ w.cell? ⟨g, off + j * 4 + 2, none⟩ = some (.string (L[j]).b) ∧ w.cell? ⟨g, off + j * 4 + 3, none⟩ = some (.int .i64 (L[j]).f) := by
  rcases h with ⟨rfl, _⟩ | ⟨g, off, c2, hs, hg, hc⟩
  · cases hj
  · injection hs with e1 e2 e3
    exact ⟨g, off, e1, hc w rfl j hj⟩
theorem cellsPair {w : World} {g : Nat} {a b : Value} {T : TypeId} {m : Nat × Nat} (h : w.heap[g]? = some (.cells #[a, b] T m)) : w.cell? ⟨g, 0, none⟩ = some a ∧ w.cell? ⟨g, 1, none⟩ = some b := by
  refine ⟨?_, ?_⟩ <;> simp [World.cell?, h]
end Go.Proofs.YtioidkbpjkcjeaaGreatDoor
