/- What Plan of package disk does to a disk in memory. Conditions: those that each theorem names. -/
import Derived.Test.YtblhbkhehddccaaDkNames
namespace Go.Proofs.Ytblhbkhehddccaa
open Go.RowKit Dk
open Go.ChangeMaps (setBlock)

def mayB (f : Int × Int × Int) : Bool := if f.2.1 = 1 ∨ f.2.1 = 3 then decide (f.2.2 = 0) else if f.2.1 = 2 then decide (0 ≤ f.2.2) else false
def planOk : Int → List (Int × Int × Int) → Bool
  | _, [] => true
  | last, f :: r => decide (last < f.1) && mayB f && planOk f.1 r
def faultCells (f : Int × Int × Int) : List Value := [.int .i64 f.1, .int .i64 f.2.1, .int .i64 f.2.2]
set_option maxHeartbeats 1000000 in
theorem mayBe_any (fa fk fn : Int) (w : World) :
    Calls Try.prog 38 #[.agg #[.int .i64 fa, .int .i64 fk, .int .i64 fn]] w fun e w' => e = .returned (.bool (mayB (fa, fk, fn))) ∧ w' = w.alloc (.cells #[.int .i64 fa, .int .i64 fk, .int .i64 fn] 63) := by
  by_cases h1 : fk = 1
  · subst h1
    have e : mayB (fa, 1, fn) = (fn == 0) := by simp [mayB, BEq.beq]
    rw [e]
    go_enter Try.func38, Try.ntmps38
    go_wp2
    go_ret
    exact ⟨rfl, rfl⟩
  · by_cases h3 : fk = 3
    · subst h3
      have e : mayB (fa, 3, fn) = (fn == 0) := by simp [mayB, BEq.beq]
      rw [e]
      go_enter Try.func38, Try.ntmps38
      go_wp2
      go_ret
      exact ⟨rfl, rfl⟩
    · by_cases h2 : fk = 2
      · subst h2
        have e : mayB (fa, 2, fn) = decide (0 ≤ fn) := by simp [mayB]
        rw [e]
        go_enter Try.func38, Try.ntmps38
        go_wp2
        go_ret
        exact ⟨rfl, rfl⟩
      · have e : mayB (fa, fk, fn) = false := by simp [mayB, h1, h2, h3]
        rw [e]
        have h1' : (fk == 1) = false := by simpa using h1
        have h2' : (fk == 2) = false := by simpa using h2
        have h3' : (fk == 3) = false := by simpa using h3
        go_enter Try.func38, Try.ntmps38
        go_wp2
        go_ret
        exact ⟨rfl, rfl⟩
set_option maxHeartbeats 400000 in
theorem plan_nil (v : Value) (w : World) :
    Calls Try.prog 21 #[.pointer none, v] w fun e w' => e = .returned (.int .i64 1) ∧ w = w' := by
  go_enter Try.func21, Try.ntmps21
  go_wp2
  go_ret
  exact ⟨rfl, rfl⟩
set_option maxHeartbeats 400000 in
theorem plan_long (A : Nat) (p : Option Addr) (n c : Nat) (hn : 4096 < n) (w : World) :
    Calls Try.prog 21 #[.pointer (some ⟨A, 0, none⟩), .slice p n c] w fun e w' => e = .returned (.int .i64 1) ∧ w = w' := by
  have hd : decide ((4096 : Int) < (n : Int)) = true := by simp; omega
  go_enter Try.func21, Try.ntmps21
  go_wp2
  go_ret
  exact ⟨rfl, rfl⟩

def FaultsAt (w : World) (p : Option Addr) (c : Nat) (l : List (Int × Int × Int)) : Prop := w.ownsRow 0 63 3 (.slice p l.length c) l.length (l.flatMap faultCells)
theorem fault_cells (l : List (Int × Int × Int)) (k : Nat) (h : k < l.length) : (l.flatMap faultCells)[k * 3]? = some (.int .i64 l[k].1) ∧ (l.flatMap faultCells)[k * 3 + 1]? = some (.int .i64 l[k].2.1) ∧ (l.flatMap faultCells)[k * 3 + 2]? = some (.int .i64 l[k].2.2) := by
  induction l generalizing k with
  | nil => simp at h
  | cons x r ih =>
    cases k with
    | zero => simp [faultCells]
    | succ k =>
      have := ih k (by simpa using h)
      rw [List.flatMap_cons, List.getElem?_append_right (by simp [faultCells]; omega), List.getElem?_append_right (by simp [faultCells]; omega), List.getElem?_append_right (by simp [faultCells]; omega)]
      simp only [faultCells, List.length_cons, List.length_nil, List.getElem_cons_succ]
      rw [show (k + 1) * 3 - (0 + 1 + 1 + 1) = k * 3 by omega, show (k + 1) * 3 + 1 - (0 + 1 + 1 + 1) = k * 3 + 1 by omega, show (k + 1) * 3 + 2 - (0 + 1 + 1 + 1) = k * 3 + 2 by omega]
      exact this
theorem FaultsAt.at {w : World} {p : Option Addr} {c : Nat} {l : List (Int × Int × Int)} (h : FaultsAt w p c l) {k : Nat} (hk : k < l.length) :
    ∃ g, p = some ⟨g, 0, none⟩ ∧ g < w.heap.size ∧ ∀ W : World, W.heap[g]? = w.heap[g]? → W.cell? ⟨g, k * 3, none⟩ = some (.int .i64 l[k].1) ∧ W.cell? ⟨g, k * 3 + 1, none⟩ = some (.int .i64 l[k].2.1) ∧ W.cell? ⟨g, k * 3 + 2, none⟩ = some (.int .i64 l[k].2.2) := by
  rcases h.2 with ⟨_, h0⟩ | ⟨g, cap, cur, he, h0, h1, h2, h3, h4, h5⟩
  · omega
  · have hp : p = some ⟨g, 0, none⟩ := by injection he
    refine ⟨g, hp, (Array.getElem?_eq_some_iff.1 h1).1, fun W hW => ?_⟩
    have hc : ∀ j u, (l.flatMap faultCells)[j]? = some u → W.cell? ⟨g, j, none⟩ = some u := by
      intro j u hu
      rw [cell_of_row W g j cur _ (0, 0) (hW.trans h1)]
      rw [← h5, List.getElem?_take] at hu
      split at hu
      · simpa using hu
      · cases hu
    obtain ⟨a, b, d⟩ := fault_cells l k hk
    exact ⟨hc _ _ a, hc _ _ b, hc _ _ d⟩
theorem planOk_drop {last : Int} {l : List (Int × Int × Int)} {k : Nat} (hk : k < l.length) : planOk last (l.drop k) = (decide (last < l[k].1) && mayB l[k] && planOk l[k].1 (l.drop (k + 1))) := by
  rw [List.drop_eq_getElem_cons hk]; rfl

set_option maxHeartbeats 4000000 in
set_option maxRecDepth 100000 in
theorem plan_bad (A : Nat) (D : DSt) (ρ : Nat → Nat × Nat) (fb : List Nat) (w : World) (h : DiskAt w A D ρ fb) (p : Option Addr) (c : Nat) (l : List (Int × Int × Int)) (hl : FaultsAt w p c l) (hn : l.length ≤ 4096) (hbad : planOk D.steps l = false) :
    Calls Try.prog 21 #[.pointer (some ⟨A, 0, none⟩), .slice p l.length c] w fun e w' => e = .returned (.int .i64 1) ∧ Below w.heap.size w w' := by
  have hd : decide ((4096 : Int) < (l.length : Int)) = false := by simp; omega
  obtain ⟨m, op, pl, hA, _⟩ := h.top
  have c2 : w.cell? ⟨A, 2, none⟩ = some (.int .i64 D.steps) := by simp [World.cell?, hA, topCells]
  have HL := Lib.hid hl
  have HB := Lib.hid hbad
  clear hA h hl hbad
  go_enter Try.func21, Try.ntmps21
  go_wp2
  go_loopw [5, 23] (fun u i wr => ∃ (k : Nat) (last : Int), k ≤ l.length ∧ i = .int .i64 k ∧ u = .int .i64 last ∧ planOk D.steps l = planOk last (l.drop k) ∧ Below w.heap.size w wr) (fun _ i _ => l.length - (intOf i).toNat)
  case atStart => exact ⟨0, D.steps, Nat.zero_le _, rfl, rfl, rfl, Below.refl _ _⟩
  case round =>
    obtain ⟨k, last, hk, rfl, rfl, hok, hbel⟩ := hrel
    by_cases hlt : k < l.length
    · obtain ⟨g, hp, hg, hcs⟩ := HL.out.at hlt
      obtain ⟨e0, e1, e2⟩ := hcs wr (hbel.block g hg)
      subst hp
      have HOK := Lib.hid hok
      have HPD := Lib.hid (planOk_drop (last := last) hlt)
      have HBL := Lib.hid hbel
      clear hok hcs hbel
      generalize hx : l[k] = x at e0 e1 e2
      obtain ⟨fa, fk, fn⟩ := x
      simp only at e0 e1 e2
      have HX := Lib.hid hx
      clear hx
      by_cases hs : fa ≤ last
      · go_wp2
        go_ret
        exact ⟨rfl, HBL.out.alloc HBL.out.size _⟩
      · have hb : mayB (fa, fk, fn) = true ∨ mayB (fa, fk, fn) = false := by cases mayB (fa, fk, fn) <;> simp
        rcases hb with hb | hb
        · have hmc := fun w => (mayBe_any fa fk fn w).mono (fun e w' h => by rw [hb] at h; exact h)
          have HMC := Lib.hid hmc
          have HMB := Lib.hid hb
          clear hmc hb
          go_wp2_with (go_at_call 38; refine (HMC.out _).mono ?_; rintro e w1 ⟨rfl, rfl⟩)
          go_roundw
          case rel =>
            refine ⟨k + 1, fa, by omega, by go_num, rfl, ?_, (HBL.out.alloc HBL.out.size _).alloc (by have := HBL.out.size; simp; omega) _⟩
            rw [HOK.out, HPD.out, HX.out, HMB.out]
            have : decide (last < fa) = true := by simp; omega
            simp [this]
          case measure => simp [intOf]; omega
        · have hmc := fun w => (mayBe_any fa fk fn w).mono (fun e w' h => by rw [hb] at h; exact h)
          have HMC := Lib.hid hmc
          clear hmc hb
          go_wp2_with (go_at_call 38; refine (HMC.out _).mono ?_; rintro e w1 ⟨rfl, rfl⟩)
          go_ret
          exact ⟨rfl, (HBL.out.alloc HBL.out.size _).alloc (by have := HBL.out.size; simp; omega) _⟩
    · exfalso
      have : l.drop k = [] := List.drop_eq_nil_of_le (by omega)
      rw [this] at hok
      rw [HB.out] at hok
      simp [planOk] at hok

theorem planOk_rise {last : Int} {l : List (Int × Int × Int)} (h : planOk last l = true) : (∀ f ∈ l, last < f.1) ∧ l.Pairwise (fun a b => a.1 < b.1) := by
  induction l generalizing last with
  | nil => exact ⟨by simp, .nil⟩
  | cons x r ih =>
    simp only [planOk, Bool.and_eq_true, decide_eq_true_eq] at h
    obtain ⟨⟨h1, h2⟩, h3⟩ := h
    obtain ⟨h4, h5⟩ := ih h3
    refine ⟨fun f hf => ?_, List.pairwise_cons.2 ⟨h4, h5⟩⟩
    rcases List.mem_cons.1 hf with rfl | hf
    · exact h1
    · have := h4 f hf; omega
theorem planS_new {l : List (Int × Int × Int)} (hr : l.Pairwise (fun a b => a.1 < b.1)) {k : Nat} (hk : k < l.length) : ∀ v, ¬ planS (l.take k) (.int .i64 l[k].1) v := by
  rintro v ⟨f, hf, e, _⟩
  obtain ⟨j, hj, rfl⟩ := List.getElem_of_mem hf
  simp only [List.length_take] at hj
  have := List.pairwise_iff_getElem.1 hr j k (by omega) hk (by omega)
  simp only [List.getElem_take, Value.int.injEq, true_and] at e
  omega
theorem planS_more {l : List (Int × Int × Int)} (hr : l.Pairwise (fun a b => a.1 < b.1)) {k : Nat} (hk : k < l.length) (y u : Value) : ((y = .int .i64 l[k].1 ∧ u = faultV l[k]) ∨ (y ≠ .int .i64 l[k].1 ∧ planS (l.take k) y u)) ↔ planS (l.take (k + 1)) y u := by
  rw [List.take_succ_eq_append_getElem hk]
  constructor
  · rintro (⟨rfl, rfl⟩ | ⟨_, f, hf, rfl, rfl⟩)
    · exact ⟨l[k], List.mem_append.2 (.inr (List.mem_singleton.2 rfl)), rfl, rfl⟩
    · exact ⟨f, List.mem_append.2 (.inl hf), rfl, rfl⟩
  · rintro ⟨f, hf, rfl, rfl⟩
    rcases List.mem_append.1 hf with hf | hf
    · refine .inr ⟨fun e => planS_new hr hk (faultV f) ⟨f, hf, e.symm, rfl⟩, f, hf, rfl, rfl⟩
    · simp only [List.mem_singleton] at hf
      subst hf; exact .inl ⟨rfl, rfl⟩
/-- The disk while its faults are being laid into map b. -/
def PlanR (w : World) (A : Nat) (D : DSt) (ρ ρ' : Nat → Nat × Nat) (fb : List Nat) (b : Nat) (l : List (Int × Int × Int)) (k : Nat) (wr : World) : Prop :=
  ∃ m op, wr.heap[A]? = some (.cells (topCells m op D.steps (some b)) 45 (0, 0)) ∧ NamesAt wr ρ' fb m D.names ∧ OpenAt wr ρ' fb op D.opn ∧ FilesAt wr ρ' fb D.files ∧ Mp Try.prog 3 wr b (planS (l.take k)) k ∧ Fr own ρ ρ' w wr
theorem PlanR.start {w wr : World} {A : Nat} {D : DSt} {ρ : Nat → Nat × Nat} {fb : List Nat} (h : DiskAt w A D ρ fb) (hb : Below w.heap.size w wr) (l : List (Int × Int × Int)) :
    PlanR w A D ρ (setR ρ (some wr.heap.size) (7, 0)) fb wr.heap.size l 0 ((wr.alloc (.map #[] 0)).setCell ⟨A, 3, none⟩ (.map (some wr.heap.size))) := by
  have hlt := h.lt
  obtain ⟨ok, out, role, ⟨m, op, pl, hA, hN, hO, hP⟩, hF⟩ := h
  have hsz := hb.size
  obtain ⟨Y, hY⟩ : ∃ Y, Y = wr.alloc (.map #[] 0) := ⟨_, rfl⟩
  rw [← hY]
  have hsY : Y.heap.size = wr.heap.size + 1 := by rw [hY]; simp
  have hYo : ∀ b, b < wr.heap.size → Y.heap[b]? = wr.heap[b]? := fun b hb => by rw [hY, heap_alloc_lt hb]
  obtain ⟨Z, hZ⟩ : ∃ Z, Z = Y.setCell ⟨A, 3, none⟩ (.map (some wr.heap.size)) := ⟨_, rfl⟩
  rw [← hZ]
  have hsZ : Z.heap.size = wr.heap.size + 1 := by rw [hZ]; simp [World.setCell]; omega
  have hZo : ∀ b, b ≠ A → Z.heap[b]? = Y.heap[b]? := fun b hb => by rw [hZ, heap_setCell_ne hb]
  have hAw : Y.heap[A]? = some (.cells (topCells m op D.steps pl) 45 (0, 0)) := (hYo A (by omega)).trans ((hb.block A hlt).trans hA)
  have hAZ : Z.heap[A]? = some (.cells (topCells m op D.steps (some wr.heap.size)) 45 (0, 0)) := by rw [hZ]; exact heap_setCell_same _ _ _ _ _ _ hAw
  have hr : ∀ b, b ≠ wr.heap.size → setR ρ (some wr.heap.size) (7, 0) b = ρ b := fun b hb => by simp [setR, Ne.symm hb]
  have F : Fr (fun r => r = (1, 0)) ρ (setR ρ (some wr.heap.size) (7, 0)) w Z := by
    refine ⟨?_, ?_, ?_, by omega, fun b hlt' hn => ?_, fun b hn => hr b (fun e => hn (by rw [e]; exact out _ hsz)), fun b hlt' e => by rw [hr b (by omega)]; exact e, fun b hlt' => by rw [hr b (by omega)]; exact out b (by omega)⟩
    · rw [hZ, hY]; exact hb.os
    · rw [hZ, hY]; exact hb.tape
    · rw [hZ, hY]; exact hb.output
    · rw [hZo b (fun e => hn (by rw [e]; exact role)), hYo b (by omega)]
      exact hb.block b hlt'
  refine ⟨m, op, hAZ, hN.fr F (by simp), hO.fr F (by simp) (by simp), hF.fr F (by simp) (by simp), ?_, F.weaken (fun r hr => by rw [hr]; simp [own])⟩
  have hM := Mp.made (P := Try.prog) wr 3
  rw [← hY] at hM
  exact (hM.kept (hZo _ (by omega))).congr (fun y u => ⟨fun h => h.elim, fun ⟨f, hf, _⟩ => by simp at hf⟩)
theorem PlanR.done {w wr : World} {A : Nat} {D : DSt} {ρ ρ' : Nat → Nat × Nat} {fb : List Nat} {b : Nat} {l : List (Int × Int × Int)} (ok : D.Ok) (role : ρ A = (1, 0)) (hb : ρ' b = (7, 0)) (h : PlanR w A D ρ ρ' fb b l l.length wr) : Led w A { D with plan := l } ρ fb wr := by
  obtain ⟨m, op, hA, hN, hO, hF, hM, G⟩ := h
  rw [List.take_length] at hM
  exact ⟨ρ', ⟨⟨ok.sorted, ok.named, ok.opened, ok.synced⟩, G.out, G.mark role (by simp), ⟨m, op, some b, hA, hN, hO, .inr ⟨b, _, rfl, hb, hM⟩⟩, hF⟩, G⟩
/-- One fault more is laid. -/
theorem PlanR.put {w wr : World} {A : Nat} {D : DSt} {ρ ρ' : Nat → Nat × Nat} {fb : List Nat} {b : Nat} {l : List (Int × Int × Int)} {k : Nat} (hb : ρ' b = (7, 0)) (hA : ρ' A = (1, 0)) (hr : l.Pairwise (fun a b => a.1 < b.1)) (hk : k < l.length) (hlen : l.length ≤ 4096)
    (hrng : -9223372036854775808 ≤ l[k].1 ∧ l[k].1 ≤ 9223372036854775807) (h : PlanR w A D ρ ρ' fb b l k wr) :
    b < wr.heap.size ∧ ∃ o, (∀ X : World, X.heap[b]? = wr.heap[b]? → (Instr.mapUpdate 43 (.map (some b)) (.int .i64 l[k].1) (faultV l[k])).run Try.prog X = .ok () (setBlock X b o)) ∧
      ∀ c, PlanR w A D ρ ρ' fb b l (k + 1) (setBlock (wr.alloc c).drew b o) := by
  obtain ⟨m, op, h1, hN, hO, hF, hM, G⟩ := h
  have hblt := hM.lt
  obtain ⟨o, hu, hu'⟩ := hM.put_new intK Try.underlying43 (v := faultV l[k]) (intKey hrng.1 hrng.2) (planS_new hr hk) (by unfold maxLen; omega)
  refine ⟨hblt, o, hu, fun c => ?_⟩
  have hsz : (setBlock (wr.alloc c).drew b o).heap.size = wr.heap.size + 1 := by rw [setBlock_size]; show (wr.heap.push _).size = _; simp
  have hne : ∀ i, i < wr.heap.size → i ≠ b → (setBlock (wr.alloc c).drew b o).heap[i]? = wr.heap[i]? := fun i hi hn => (setBlock_ne _ hn).trans (heap_alloc_lt hi)
  have hAlt : A < wr.heap.size := (Array.getElem?_eq_some_iff.1 h1).1
  have hbA : A ≠ b := by rintro rfl; rw [hA] at hb; cases hb
  have F : Fs (fun r => r = (7, 0)) ρ' ρ' wr (setBlock (wr.alloc c).drew b o) := ⟨fun i hi hn hs => hne i hi (fun e => hs (by rw [e]; exact hb)), fun _ _ _ => rfl⟩
  refine ⟨m, op, (hne A hAlt hbA).trans h1, hN.fs F (by simp), ?_, hF.fs F (by simp) (by simp), (hu' _ (setBlock_at _ (by show b < (wr.heap.push _).size; simp; omega))).congr (planS_more hr hk), ?_⟩
  · obtain ⟨vs, hO1, hO2, hO3⟩ := hO
    exact ⟨vs, ownsRow_same hO1 (fun g hg => F.at (ownsRow_lt hO1 g hg) (hO2 g hg) (by simp) (by simp)), hO2, fun i l hl => let ⟨v, h1, h2⟩ := hO3 i l hl; ⟨v, h1, h2.fs F (by simp)⟩⟩
  · have hs := G.size
    exact ⟨G.os, G.tape, G.output, by omega, fun i hi hn => by
      by_cases e : i = b
      · subst e
        have e0 : ρ i = (0, 0) := Classical.byContradiction hn
        have := G.stay i hi e0
        rw [hb] at this; cases this
      · exact (hne i (by omega) e).trans (G.block i hi hn), G.keep, G.stay, fun i hi => G.out i (by omega)⟩
set_option maxHeartbeats 4000000 in
set_option maxRecDepth 100000 in
theorem plan_good (A : Nat) (D : DSt) (ρ : Nat → Nat × Nat) (fb : List Nat) (w : World) (h : DiskAt w A D ρ fb) (p : Option Addr) (c : Nat) (l : List (Int × Int × Int)) (hl : FaultsAt w p c l) (hlo : ∀ g, (Value.slice p l.length c).ownBlock = some g → ρ g = (0, 0)) (hn : l.length ≤ 4096) (hgood : planOk D.steps l = true)
    (hrng : ∀ f ∈ l, -9223372036854775808 ≤ f.1 ∧ f.1 ≤ 9223372036854775807) :
    Calls Try.prog 21 #[.pointer (some ⟨A, 0, none⟩), .slice p l.length c] w fun e w' => e = .returned (.int .i64 0) ∧ Led w A { D with plan := l } ρ fb w' := by
  have hd : decide ((4096 : Int) < (l.length : Int)) = false := by simp; omega
  have hlt := h.lt
  have hrise := (planOk_rise hgood).2
  obtain ⟨m, op, pl, hA, _⟩ := h.top
  have c2 : w.cell? ⟨A, 2, none⟩ = some (.int .i64 D.steps) := by simp [World.cell?, hA, topCells]
  have HA := Lib.hid hA
  have HL := Lib.hid hl
  have HLO := Lib.hid hlo
  have HG := Lib.hid hgood
  have HD := Lib.hid h
  have HRI := Lib.hid hrise
  have HRG := Lib.hid hrng
  clear hA h hl hgood hlo hrise hrng
  have hmm := @run_makeMap Try.prog
  go_enter Try.func21, Try.ntmps21
  go_wp2
  go_loopw [5, 23] (fun u i wr => ∃ (k : Nat) (last : Int), k ≤ l.length ∧ i = .int .i64 k ∧ u = .int .i64 last ∧ planOk D.steps l = planOk last (l.drop k) ∧ Below w.heap.size w wr) (fun _ i _ => l.length - (intOf i).toNat)
  case atStart => exact ⟨0, D.steps, Nat.zero_le _, rfl, rfl, rfl, Below.refl _ _⟩
  case round =>
    obtain ⟨k, last, hk, rfl, rfl, hok, hbel⟩ := hrel
    by_cases hlt' : k < l.length
    · obtain ⟨g, hp, hg, hcs⟩ := HL.out.at hlt'
      obtain ⟨e0, e1, e2⟩ := hcs wr (hbel.block g hg)
      subst hp
      have hpd := hok.symm.trans HG.out
      rw [planOk_drop hlt'] at hpd
      have HOK := Lib.hid hok
      have HBL := Lib.hid hbel
      clear hok hcs hbel
      generalize hx : l[k] = x at e0 e1 e2 hpd
      obtain ⟨fa, fk, fn⟩ := x
      simp only [Bool.and_eq_true, decide_eq_true_eq] at e0 e1 e2 hpd
      obtain ⟨⟨hs, hb⟩, _⟩ := hpd
      have HX := Lib.hid hx
      clear hx
      have hs' : ¬ fa ≤ last := by omega
      have hmc := fun w => (mayBe_any fa fk fn w).mono (fun e w' h => by rw [hb] at h; exact h)
      have HMC := Lib.hid hmc
      have HMB := Lib.hid hb
      clear hmc hb
      go_wp2_with (go_at_call 38; refine (HMC.out _).mono ?_; rintro e w1 ⟨rfl, rfl⟩)
      go_roundw
      case rel =>
        refine ⟨k + 1, fa, by omega, by go_num, rfl, ?_, (HBL.out.alloc HBL.out.size _).alloc (by have := HBL.out.size; simp; omega) _⟩
        rw [HOK.out, planOk_drop hlt', HX.out, HMB.out]
        have : decide (last < fa) = true := by simp; omega
        simp [this]
      case measure => simp [intOf]; omega
    · obtain rfl : k = l.length := by omega
      have hAr := (hbel.block A hlt).trans HA.out
      have f3 : wr.frozen? ⟨A, 3, none⟩ = false := by simp [World.frozen?, hAr]
      have c3 : wr.cell? ⟨A, 3, none⟩ = some (.map pl) := by simp [World.cell?, hAr, topCells]
      have hz3 := frozen_alloc (Nat.lt_of_lt_of_le hlt hbel.size) f3
      have ha3 := cell_alloc c3
      have HBL := Lib.hid hbel
      have HST := Lib.hid (PlanR.start HD.out hbel l)
      have hsz := hbel.size
      clear hbel hok hAr
      obtain ⟨wo, rfl⟩ : ∃ wo : World, wo = wr := ⟨_, rfl⟩
      go_wp2
      go_loopw [45] (fun i wr => ∃ k : Nat, k ≤ l.length ∧ i = .int .i64 k ∧ PlanR w A D ρ (setR ρ (some wo.heap.size) (7, 0)) fb wo.heap.size l k wr) (fun i _ => l.length - (intOf i).toNat)
      case atStart => exact ⟨0, Nat.zero_le _, rfl, HST.out⟩
      case round =>
        obtain ⟨k, hk, rfl, hR⟩ := hrel
        by_cases hlt2 : k < l.length
        · obtain ⟨g, hp, hg, hcs⟩ := HL.out.at hlt2
          have hρ : ρ g = (0, 0) := HLO.out g (by rw [hp]; rfl)
          have hR0 := hR
          obtain ⟨m1, op1, q1, q2, q3, q4, q5, G⟩ := hR0
          obtain ⟨e0, e1, e2⟩ := hcs wr (G.block g hg (by rw [hρ]; simp [own]))
          obtain ⟨hblt, o, hu, hput⟩ := hR.put (by simp [setR]) (by rw [G.keep A (by rw [HD.out.role]; simp)]; exact HD.out.role) HRI.out hlt2 hn (HRG.out _ (List.getElem_mem hlt2))
          subst hp
          have hAlt : A < wr.heap.size := (Array.getElem?_eq_some_iff.1 q1).1
          have c3 : wr.cell? ⟨A, 3, none⟩ = some (.map (some wo.heap.size)) := by simp [World.cell?, q1, topCells]
          have a3 := cell_alloc c3
          have hu1 : ∀ c, (Instr.mapUpdate 43 (.map (some wo.heap.size)) (.int .i64 l[k].1) (.agg #[.int .i64 l[k].1, .int .i64 l[k].2.1, .int .i64 l[k].2.2])).run Try.prog (wr.alloc c).drew = .ok () (setBlock (wr.alloc c).drew wo.heap.size o) := fun c => hu _ (heap_alloc_lt hblt)
          have HPUT := Lib.hid hput
          clear hR hcs q1 q2 q3 q4 q5 G hu hput hρ
          go_wp2
          go_region
          go_wp2
          go_roundw
          case rel => exact ⟨k + 1, by omega, by go_num, HPUT.out _⟩
          case measure => simp [intOf]; omega
        · obtain rfl : k = l.length := by omega
          have HDN := Lib.hid (PlanR.done HD.out.ok HD.out.role (by simp [setR]) hR)
          clear hR
          go_wp2
          go_ret
          exact ⟨rfl, HDN.out⟩
end Go.Proofs.Ytblhbkhehddccaa
