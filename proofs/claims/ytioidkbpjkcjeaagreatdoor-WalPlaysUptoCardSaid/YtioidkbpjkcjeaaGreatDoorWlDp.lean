/- The law's 'do' on both logs: a fault planned. Conditions: those that each theorem names. -/
import Derived.Test.YtioidkbpjkcjeaaGreatDoorWlDc
import Derived.Test.YtioidkbpjkcjeaaGreatDoorRfArgs
import Derived.Deep.DeepCutAuto
namespace Go.Proofs.YtioidkbpjkcjeaaGreatDoor
set_option linter.unusedVariables false
open Go Go.RowKit Dk
theorem planOk_mayw : ∀ (l : List (Int × Int × Int)) (z : Int), planOk z l = true → ∀ f ∈ l, mayB f = true
  | [], _, _, f, hf => nomatch hf
  | x :: r, z, h, f, hf => by
    unfold planOk at h
    simp only [Bool.and_eq_true] at h
    rcases List.mem_cons.1 hf with rfl | hf
    · exact h.1.2
    · exact planOk_mayw r _ h.2 f hf
namespace Wl
def fltO (a b c : Int) : Obj := .cells #[.int .i64 a, .int .i64 b, .int .i64 c] 40 (0, 0)
theorem fltO_cells {w : World} {g : Nat} {a b c : Int} (h : w.heap[g]? = some (fltO a b c)) : w.cell? ⟨g, 0, none⟩ = some (.int .i64 a) ∧ w.cell? ⟨g, 1, none⟩ = some (.int .i64 b) ∧ w.cell? ⟨g, 2, none⟩ = some (.int .i64 c) :=
  ⟨by rw [cell_of_row _ _ _ _ _ _ h]; rfl, by rw [cell_of_row _ _ _ _ _ _ h]; rfl, by rw [cell_of_row _ _ _ _ _ _ h]; rfl⟩
theorem faults_one {w : World} {g : Nat} {a b c : Int} (h : w.heap[g]? = some (fltO a b c)) : FaultsAt w (some ⟨g, 0, none⟩) 1 [(a, b, c)] := by
  refine .inr ⟨g, 0, rfl, ?_, fun W hW j hj => ?_⟩
  · rcases Nat.lt_or_ge g w.heap.size with e | e
    · exact e
    · rw [Array.getElem?_eq_none e] at h; cases h
  · obtain rfl : j = 0 := by simpa using hj
    exact fltO_cells (hW.trans h)
section
variable {w0 w : World} {A B P k : Nat}
/-- The blocks that stay while both are given a plan: those of before, and all that came since. -/
def YN (Y : Nat → Prop) (V W : World) : Nat → Prop := fun b => Y b ∨ (V.heap.size ≤ b ∧ b < W.heap.size)
theorem pplan_new {Y : Nat → Prop} {D : DSt} {M : RSt} {V W : World} {g : Nat} {a b c : Int} (h : Two w0 A B Y D M V) (hb : Below V.heap.size V W) (hg : V.heap.size ≤ g) (hr : W.heap[g]? = some (fltO a b c)) (ho : -9223372036854775808 ≤ a ∧ a ≤ 9223372036854775807) :
    Calls Tryz.prog 22 #[.pointer (some ⟨A, 0, none⟩), .slice (some ⟨g, 0, none⟩) 1 1] W fun e w' => e = .returned (.int .i64 (planD D [(a, b, c)]).1) ∧ Two w0 A B (YN Y V W) (planD D [(a, b, c)]).2 M w' ∧ Stay (YN Y V W) W w' := by
  have hlt : g < W.heap.size := by
    rcases Nat.lt_or_ge g W.heap.size with e | e
    · exact e
    · rw [Array.getElem?_eq_none e] at hr; cases hr
  have ht : Two w0 A B (YN Y V W) D M W := h.add hb (fun b hb => hb)
  refine ht.pPlan (some ⟨g, 0, none⟩) 1 [(a, b, c)] (faults_one hr) (fun g' hg' => ?_) (fun f hf => ?_)
  · have : g = g' := by simpa [Value.ownBlock] using hg'
    subst this
    exact .inr ⟨hg, hlt⟩
  · obtain rfl := List.mem_singleton.1 hf
    exact ho
theorem rplan_new {Y : Nat → Prop} {D D' : DSt} {M : RSt} {φ : Nat → Nat} {W : World} {g : Nat} {a b c : Int} (h : Two w0 A B Y D' M W) (tw : Dk.Twin φ D M) (hr : W.heap[g]? = some (fltO a b c)) :
    Calls Tryz.prog 23 #[.pointer (some ⟨B, 0, none⟩), .slice (some ⟨g, 0, none⟩) 1 1] W fun e w' => e = .returned (.int .i64 (planD D [(a, b, c)]).1) ∧ Two w0 A B Y D' (planR M [(a, b, c)]).2 w' ∧ Stay Y W w' :=
  h.rPlan tw (some ⟨g, 0, none⟩) 1 [(a, b, c)] (faults_one hr)
/-- Behind the program's Plan: n rows lie behind V, all else stands. -/
def PlanQ (w0 : World) (A B : Nat) (Y : Nat → Prop) (D1 : DSt) (M : RSt) (V : World) (a b c : Int) (n : Nat) (w1 : World) : Prop :=
  ∃ Y' : Nat → Prop, Two w0 A B Y' D1 M w1 ∧ (∀ x, Y x → Y' x) ∧ Stay Y V w1 ∧ ∀ i, i < n → w1.heap[V.heap.size + i]? = some (fltO a b c)
/-- Behind both Plans. -/
def PlanE (w0 : World) (A B : Nat) (Y : Nat → Prop) (D1 : DSt) (M1 : RSt) (V w2 : World) : Prop := Two w0 A B Y D1 M1 w2 ∧ Stay Y V w2
theorem planQ_of {Y : Nat → Prop} {D : DSt} {M : RSt} {V W : World} {a b c : Int} {n i : Nat} (h : Two w0 A B Y D M V) (hb : Below V.heap.size V W) (hn : W.heap.size = V.heap.size + n) (hr : ∀ i, i < n → W.heap[V.heap.size + i]? = some (fltO a b c)) (hi : i < n) (ho : -9223372036854775808 ≤ a ∧ a ≤ 9223372036854775807) :
    Calls Tryz.prog 22 #[.pointer (some ⟨A, 0, none⟩), .slice (some ⟨V.heap.size + i, 0, none⟩) 1 1] W fun e w' => e = .returned (.int .i64 (planD D [(a, b, c)]).1) ∧ PlanQ w0 A B Y (planD D [(a, b, c)]).2 M V a b c n w' :=
  (pplan_new h hb (Nat.le_add_right _ _) (hr i hi) ho).mono fun e w' ⟨he, t, s⟩ => ⟨he, YN Y V W, t, fun _ hx => .inl hx, ⟨Nat.le_trans hb.size s.1, fun x hx => (s.2 x (.inl hx)).trans (hb.block x (h.lt hx))⟩, fun j hj => (s.2 _ (.inr ⟨Nat.le_add_right _ _, by omega⟩)).trans (hr j hj)⟩
abbrev fO (a b c : Int) : Obj := .cells #[.int .i64 a, .int .i64 b, .int .i64 c] 40
theorem plan_one {Y : Nat → Prop} {D : DSt} {M : RSt} {V : World} {a b c : Int} (h : Two w0 A B Y D M V) (ho : -9223372036854775808 ≤ a ∧ a ≤ 9223372036854775807) :
    Calls Tryz.prog 22 #[.pointer (some ⟨A, 0, none⟩), .slice (some ⟨V.heap.size, 0, none⟩) 1 1] (V.alloc (fO a b c)).drew fun e w' => e = .returned (.int .i64 (planD D [(a, b, c)]).1) ∧ PlanQ w0 A B Y (planD D [(a, b, c)]).2 M V a b c 1 w' :=
  planQ_of (n := 1) (i := 0) h (below_new V _).drew (by show (V.heap.push _).size = _; simp) (fun i hi => (by
    have e : i = 0 := by omega
    subst e
    exact heap_alloc_new V _)) (by omega) ho
theorem two_rows (V : World) (a b c : Int) : ∀ i, i < 2 → ((V.alloc (fO a b c)).alloc (fO a b c)).drew.heap[V.heap.size + i]? = some (fltO a b c) := fun i hi => by
  have hs : (V.alloc (fO a b c)).heap.size = V.heap.size + 1 := by show (V.heap.push _).size = _; simp
  rcases (by omega : i = 0 ∨ i = 1) with rfl | rfl
  · exact ((below_new (V.alloc (fO a b c)) (fO a b c)).block V.heap.size (by omega)).trans (heap_alloc_new V (fO a b c))
  · have := heap_alloc_new (V.alloc (fO a b c)) (fO a b c)
    rw [hs] at this
    exact this
theorem plan_two {Y : Nat → Prop} {D : DSt} {M : RSt} {V : World} {a b c : Int} (h : Two w0 A B Y D M V) (ho : -9223372036854775808 ≤ a ∧ a ≤ 9223372036854775807) (i : Nat) (hi : i < 2) :
    Calls Tryz.prog 22 #[.pointer (some ⟨A, 0, none⟩), .slice (some ⟨V.heap.size + i, 0, none⟩) 1 1] ((V.alloc (fO a b c)).alloc (fO a b c)).drew fun e w' => e = .returned (.int .i64 (planD D [(a, b, c)]).1) ∧ PlanQ w0 A B Y (planD D [(a, b, c)]).2 M V a b c 2 w' := by
  have hs : (V.alloc (fO a b c)).heap.size = V.heap.size + 1 := by show (V.heap.push _).size = _; simp
  exact planQ_of h ((below_new V (fO a b c)).trans ((below_new (V.alloc (fO a b c)) (fO a b c)).mono (by omega))).drew (by show ((V.heap.push _).push _).size = _; simp) (two_rows V a b c) hi ho
theorem rplanQ {Y : Nat → Prop} {D D1 : DSt} {M : RSt} {φ : Nat → Nat} {V w1 : World} {a b c : Int} {n i : Nat} (h : PlanQ w0 A B Y D1 M V a b c n w1) (tw : Dk.Twin φ D M) (hi : i < n) :
    Calls Tryz.prog 23 #[.pointer (some ⟨B, 0, none⟩), .slice (some ⟨V.heap.size + i, 0, none⟩) 1 1] w1 fun e w' => e = .returned (.int .i64 (planD D [(a, b, c)]).1) ∧ PlanE w0 A B Y D1 (planR M [(a, b, c)]).2 V w' := by
  obtain ⟨Y', t, hy, s, r⟩ := h
  exact (rplan_new t tw (r i hi)).mono fun e w' ⟨he, t', s'⟩ => ⟨he, t'.add (Below.refl _ _) (fun x hx => .inl (hy x hx)), ⟨Nat.le_trans s.1 s'.1, fun x hx => (s'.2 x (hy x hx)).trans (s.2 x hx)⟩⟩
theorem rplanA {Y : Nat → Prop} {D D1 : DSt} {M : RSt} {φ : Nat → Nat} {V w1 : World} {a b c : Int} {n : Nat} (h : PlanQ w0 A B Y D1 M V a b c n w1) (tw : Dk.Twin φ D M) :
    Calls Tryz.prog 23 #[.pointer (some ⟨B, 0, none⟩), .slice (some ⟨w1.heap.size, 0, none⟩) 1 1] (w1.alloc (fO a b c)) fun e w' => e = .returned (.int .i64 (planD D [(a, b, c)]).1) ∧ PlanE w0 A B Y D1 (planR M [(a, b, c)]).2 V w' := by
  obtain ⟨Y', t, hy, s, r⟩ := h
  exact (rplan_new (t.others (below_new w1 (fO a b c))) tw (heap_alloc_new w1 (fO a b c))).mono fun e w' ⟨he, t', s'⟩ => ⟨he, t'.add (Below.refl _ _) (fun x hx => .inl (hy x hx)), ⟨Nat.le_trans s.1 (Nat.le_trans (below_new w1 (fO a b c)).size s'.1), fun x hx => (s'.2 x (hy x hx)).trans (((below_new w1 (fO a b c)).block x (t.lt (hy x hx))).trans (s.2 x hx))⟩⟩
set_option maxHeartbeats 4000000 in
set_option maxRecDepth 100000 in
theorem wdo_plan {Y : Nat → Prop} {D : DSt} {M : RSt} {φ : Nat → Nat} {l m : Value} {nx : Int} (tw : Dk.Twin φ D M) (b : DBd cW k D) (bm : MBd cW k M) (hP : w.heap[P]? = some (pairO A B l m nx)) (hYP : Y P) (h : Two w0 A B Y D M w) (hk : k + 1 ≤ 1048577)
    (s : ByteArray) (sq st fs fk fn cn : Int) (hst : okI st) (hf : fltOk (fs, fk, fn)) (q : Option Addr) (n2 c2 : Nat) :
    Calls Tryz.prog 7 #[.pointer (some ⟨P, 0, none⟩), dV 2 s sq st fs fk fn cn q n2 c2] w fun e w' => e = .returned (.bool true) ∧ ∃ D' M', Dk.Twin φ D' M' ∧ DBd cW (k + 1) D' ∧ MBd cW (k + 1) M' ∧ Two w0 A B Y D' M' w' ∧ Stay Y w w' := by
  have hb : Below w.heap.size w (w.alloc (dO 2 s sq st fs fk fn cn q n2 c2)) := below_new w _
  have lP := h.lt hYP
  obtain ⟨p0, p1, -, -, -⟩ := pairO_cells ((hb.block P lP).trans hP)
  obtain ⟨⟨c0, c1, c2', c3⟩, ⟨c4, c5, c6⟩, -⟩ := dO_cells (heap_alloc_new w (dO 2 s sq st fs fk fn cn q n2 c2))
  have HW0 : Hid (Below w.heap.size w (w.alloc (dO 2 s sq st fs fk fn cn q n2 c2)) ∧ (w.alloc (dO 2 s sq st fs fk fn cn q n2 c2)).heap.size = w.heap.size + 1) := Lib.hid ⟨hb, by simp⟩
  have mixed : Tryz.prog.follows .mixedOrders = true := by kernel_rfl
  unfold dV
  unfold dO at *
  go_enter Tryz.func7, Tryz.ntmps7
  go_wp2_with fail
  generalize w.alloc (.cells #[.int .i64 2, .string s, .int .i64 sq, .int .i64 st, .int .i64 fs, .int .i64 fk, .int .i64 fn, .int .i64 cn, .slice q n2 c2] 45) = W0 at *
  have hx := heap_alloc_new W0 (.cells #[.int .i64 fs, .int .i64 fk, .int .i64 fn] 40)
  have hbx : Below W0.heap.size W0 (W0.alloc (.cells #[.int .i64 fs, .int .i64 fk, .int .i64 fn] 40)) := below_new W0 _
  have hz0 : w.heap.size + 1 = W0.heap.size := HW0.out.2.symm
  have lP0 : P < W0.heap.size := by omega
  have lB0 : w.heap.size < W0.heap.size := by omega
  have u0 := (World.cell?_of_block (a := ⟨P, 0, none⟩) (hbx.block P lP0)).trans p0
  have u3 := (World.cell?_of_block (a := ⟨w.heap.size, 3, none⟩) (hbx.block w.heap.size lB0)).trans c3
  have HXB : Hid ((W0.alloc (.cells #[.int .i64 fs, .int .i64 fk, .int .i64 fn] 40)).heap[W0.heap.size]? = some (.cells #[.int .i64 fs, .int .i64 fk, .int .i64 fn] 40 (0, 0))) := Lib.hid hx
  have HU : Hid (Below w.heap.size w (W0.alloc (.cells #[.int .i64 fs, .int .i64 fk, .int .i64 fn] 40))) := Lib.hid (HW0.out.1.trans (hbx.mono HW0.out.1.size))
  have hP0 := (hbx.block P lP0).trans ((HW0.out.1.block P lP).trans hP)
  rw [hz0]
  clear hx hbx
  generalize W0.alloc (.cells #[.int .i64 fs, .int .i64 fk, .int .i64 fn] 40) = U at *
  have hd : Below U.heap.size U U.drew := (Below.refl _ _).drew
  have hlU : w.heap.size < U.heap.size ∧ P < U.heap.size ∧ W0.heap.size < U.heap.size := by
    have e1 : W0.heap.size < U.heap.size := by
      rcases Nat.lt_or_ge W0.heap.size U.heap.size with e | e
      · exact e
      · have := HXB.out; rw [Array.getElem?_eq_none e] at this; cases this
    omega
  have v0 := (World.cell?_of_block (a := ⟨P, 0, none⟩) (hd.block P hlU.2.1)).trans u0
  have v3 := (World.cell?_of_block (a := ⟨w.heap.size, 3, none⟩) (hd.block w.heap.size hlU.1)).trans u3
  have x0 : U.drew.cell? ⟨W0.heap.size, 0, none⟩ = some (.int .i64 fs) := by rw [cell_of_row _ _ _ _ _ _ ((hd.block _ hlU.2.2).trans HXB.out)]; rfl
  have xf : U.drew.frozen? ⟨W0.heap.size, 0, none⟩ = false := Lib.frozen_of_heap ((hd.block _ hlU.2.2).trans HXB.out) 0
  have HT := Lib.hid ((h.others HU.out).others hd)
  have CS := Lib.hid HT.out.pSteps
  have hs1 := b.low
  have hs2 := b.high
  obtain ⟨N, hN⟩ : ∃ N, N = D.steps := ⟨_, rfl⟩
  rw [← hN] at hs1 hs2 CS
  have n1 : wrap64 (N + 1) = N + 1 := wrI rfl (by omega)
  have n2 : IntKind.i64.wrap (N + 1) = N + 1 := IntWalk.i64_in _ (by omega)
  have n4 : IntKind.i64.wrap (N + 1 + max 0 (min st 9)) = N + 1 + max 0 (min st 9) := IntWalk.i64_in _ (by omega)
  obtain ⟨v, hv⟩ : ∃ v, v = N + 1 + max 0 (min st 9) := ⟨_, rfl⟩
  have hvr : -9223372036854775808 ≤ v ∧ v ≤ 9223372036854775807 := by omega
  -- the world behind the step's store
  have HV : Hid (∀ V, V = (U.setCell ⟨W0.heap.size, 0, none⟩ (.int .i64 v)).drew → Two w0 A B (fun b => Y b ∨ b = W0.heap.size) D M V ∧ Stay Y w V ∧ V.heap[P]? = some (pairO A B l m nx) ∧ V.heap[W0.heap.size]? = some (fltO v fk fn) ∧ P < V.heap.size ∧ W0.heap.size < V.heap.size) := Lib.hid (fun V hV => by
    have hne : ∀ b, Y b → b ≠ W0.heap.size := fun b hb => by have := h.lt hb; omega
    have hs : V.heap.size = U.heap.size := by subst hV; show (U.setCell _ _).heap.size = _; simp [World.setCell]
    have hT1 : Two w0 A B (fun b => Y b ∨ b = W0.heap.size) D M U := h.add HU.out (fun b hb => hb.imp id (fun e => by subst e; exact ⟨by omega, hlU.2.2⟩))
    have hT2 := (hT1.set W0.heap.size 0 (.int .i64 v) (.inr rfl) (Nat.le_trans h.below.size (by omega))).drew
    have hst : ∀ b, b ≠ W0.heap.size → V.heap[b]? = U.heap[b]? := fun b hb => by subst hV; exact heap_setCell_other _ _ _ _ hb
    refine ⟨by rw [hV]; exact hT2, ⟨by rw [hs]; exact HU.out.size, fun b hb => (hst b (hne b hb)).trans (HU.out.block b (h.lt hb))⟩, (hst P (by omega)).trans hP0, ?_, by omega, by omega⟩
    subst hV
    exact setCell_at HXB.out _)
  obtain ⟨t2, b2, m2⟩ : Dk.Twin φ (planD D [(v, fk, fn)]).2 (planR M [(v, fk, fn)]).2 ∧ DBd cW (k + 1) (planD D [(v, fk, fn)]).2 ∧ MBd cW (k + 1) (planR M [(v, fk, fn)]).2 :=
    ⟨(two_plan tw _).2, bd_plan b bm _ (fun z hz => planOk_mayw _ z hz)⟩
  have HP1 := Lib.hid (fun (V : World) (t : Two w0 A B (fun b => Y b ∨ b = W0.heap.size) D M V) => plan_one (b := fk) (c := fn) t hvr)
  have HP2 := Lib.hid (fun (V : World) (t : Two w0 A B (fun b => Y b ∨ b = W0.heap.size) D M V) => plan_two (b := fk) (c := fn) t hvr)
  have HR1 := Lib.hid (fun (D1 : DSt) (V w1 : World) (n i : Nat) (h : PlanQ w0 A B (fun b => Y b ∨ b = W0.heap.size) D1 M V v fk fn n w1) (hi : i < n) => rplanQ h tw hi)
  have HR2 := Lib.hid (fun (D1 : DSt) (V w1 : World) (n : Nat) (h : PlanQ w0 A B (fun b => Y b ∨ b = W0.heap.size) D1 M V v fk fn n w1) => rplanA h tw)
  generalize hE : (planD D [(v, fk, fn)]).1 = E at *
  generalize (planD D [(v, fk, fn)]).2 = D1 at *
  generalize (planR M [(v, fk, fn)]).2 = M1 at *
  have HQ : Hid (Dk.Twin φ D1 M1 ∧ DBd cW (k + 1) D1 ∧ MBd cW (k + 1) M1) := Lib.hid ⟨t2, b2, m2⟩
  have HYP := Lib.hid hYP
  have HVE := Lib.hid hv
  clear hd hE t2 b2 m2 hv hvr hN hP hP0 h tw b bm hYP hst hf
  go_cut [] from 77 to 88 (fun wx => wx = (U.setCell ⟨W0.heap.size, 0, none⟩ (.int .i64 (N + 1 + max 0 (min st 9)))).drew)
  case first =>
    go_region_with (go_at_call 21; refine CS.out.mono ?_; rintro e w1 ⟨rfl, rfl⟩)
    all_goals
      first
        | (go_wp2_with fail; go_meet; rfl)
        | (go_meet; rfl)
  case rest =>
    generalize hVe : (U.setCell ⟨W0.heap.size, 0, none⟩ (.int .i64 (N + 1 + max 0 (min st 9)))).drew = V at hcut
    obtain ⟨hT, hS, hPV, hXV, lPV, lXV⟩ := HV.out V (by rw [HVE.out]; exact hVe.symm)
    obtain rfl := hcut
    clear hVe HV HVE v0 v3 x0 xf CS HT n1 n2 n4 hs1 hs2 HU HXB HW0 u0 u3 hlU
    have C1 := Lib.hid (HP1.out wc hT)
    have c2' := HP2.out wc hT 0 Nat.zero_lt_two
    rw [Nat.add_zero] at c2'
    have C2 := Lib.hid c2'
    have c3' := HP2.out wc hT 1 Nat.one_lt_two
    have C3 := Lib.hid c3'
    have hsz1 : wc.heap.size + 1 = (wc.alloc (fO v fk fn)).heap.size := by show _ = (wc.heap.push _).size; simp
    have c4' := c3'
    rw [hsz1] at c4'
    have C4 := Lib.hid c4'
    have HR0 : Hid (∀ (D1 : DSt) (w1 : World) (n : Nat) (h : PlanQ w0 A B (fun b => Y b ∨ b = W0.heap.size) D1 M wc v fk fn n w1) (hi : 0 < n), Calls Tryz.prog 23 #[.pointer (some ⟨B, 0, none⟩), .slice (some ⟨wc.heap.size, 0, none⟩) 1 1] w1 fun e w' => e = .returned (.int .i64 E) ∧ PlanE w0 A B (fun b => Y b ∨ b = W0.heap.size) D1 M1 wc w') := Lib.hid (fun D1 w1 n h hi => by
      have := HR1.out D1 wc w1 n 0 h hi
      rw [Nat.add_zero] at this
      exact this)
    have HR3 : Hid (∀ (D1 : DSt) (w1 : World) (n : Nat) (h : PlanQ w0 A B (fun b => Y b ∨ b = W0.heap.size) D1 M wc v fk fn n w1) (hi : 1 < n), Calls Tryz.prog 23 #[.pointer (some ⟨B, 0, none⟩), .slice (some ⟨(wc.alloc (fO v fk fn)).heap.size, 0, none⟩) 1 1] w1 fun e w' => e = .returned (.int .i64 E) ∧ PlanE w0 A B (fun b => Y b ∨ b = W0.heap.size) D1 M1 wc w') := Lib.hid (fun D1 w1 n h hi => by
      have := HR1.out D1 wc w1 n 1 h hi
      rw [hsz1] at this
      exact this)
    clear c2' c3' c4' hsz1
    have hd : Below wc.heap.size wc wc.drew := (Below.refl _ _).drew
    have HK0 : Hid (∀ z : World, z.heap[P]? = wc.heap[P]? → z.heap[W0.heap.size]? = wc.heap[W0.heap.size]? → z.cell? ⟨P, 0, none⟩ = some (.pointer (some ⟨A, 0, none⟩)) ∧ z.cell? ⟨P, 1, none⟩ = some (.pointer (some ⟨B, 0, none⟩)) ∧ z.cell? ⟨W0.heap.size, 0, none⟩ = some (.int .i64 v) ∧ z.cell? ⟨W0.heap.size, 1, none⟩ = some (.int .i64 fk) ∧ z.cell? ⟨W0.heap.size, 2, none⟩ = some (.int .i64 fn)) := Lib.hid (fun z h1 h2 => ⟨(pairO_cells (h1.trans hPV)).1, (pairO_cells (h1.trans hPV)).2.1, fltO_cells (h2.trans hXV)⟩)
    have hb1 : Below wc.heap.size wc (wc.alloc (fO v fk fn)) := below_new wc _
    have hb2 : Below wc.heap.size wc ((wc.alloc (fO v fk fn)).alloc (fO v fk fn)) := hb1.trans ((below_new (wc.alloc (fO v fk fn)) (fO v fk fn)).mono hb1.size)
    have HK1 := Lib.hid (HK0.out (wc.alloc (fO v fk fn)).drew (hb1.block P lPV) (hb1.block _ lXV))
    have HK2 := Lib.hid (HK0.out ((wc.alloc (fO v fk fn)).alloc (fO v fk fn)).drew (hb2.block P lPV) (hb2.block _ lXV))
    have HC1 : Hid (∀ n w1, PlanQ w0 A B (fun b => Y b ∨ b = W0.heap.size) D1 M wc v fk fn n w1 → w1.cell? ⟨P, 0, none⟩ = some (.pointer (some ⟨A, 0, none⟩)) ∧ w1.cell? ⟨P, 1, none⟩ = some (.pointer (some ⟨B, 0, none⟩)) ∧ w1.cell? ⟨W0.heap.size, 0, none⟩ = some (.int .i64 v) ∧ w1.cell? ⟨W0.heap.size, 1, none⟩ = some (.int .i64 fk) ∧ w1.cell? ⟨W0.heap.size, 2, none⟩ = some (.int .i64 fn)) := Lib.hid (fun n w1 ⟨Y', t, hy, s, r⟩ => HK0.out w1 (s.2 P (.inl HYP.out)) (s.2 W0.heap.size (.inr rfl)))
    have HC2 : Hid (∀ w2, PlanE w0 A B (fun b => Y b ∨ b = W0.heap.size) D1 M1 wc w2 → w2.cell? ⟨P, 0, none⟩ = some (.pointer (some ⟨A, 0, none⟩)) ∧ w2.cell? ⟨P, 1, none⟩ = some (.pointer (some ⟨B, 0, none⟩)) ∧ w2.cell? ⟨W0.heap.size, 0, none⟩ = some (.int .i64 v) ∧ w2.cell? ⟨W0.heap.size, 1, none⟩ = some (.int .i64 fk) ∧ w2.cell? ⟨W0.heap.size, 2, none⟩ = some (.int .i64 fn)) := Lib.hid (fun w2 ⟨t, s⟩ => HK0.out w2 (s.2 P (.inl HYP.out)) (s.2 W0.heap.size (.inr rfl)))
    have HK3 : Hid (∀ n w1, PlanQ w0 A B (fun b => Y b ∨ b = W0.heap.size) D1 M wc v fk fn n w1 → (w1.alloc (fO v fk fn)).cell? ⟨P, 0, none⟩ = some (.pointer (some ⟨A, 0, none⟩)) ∧ (w1.alloc (fO v fk fn)).cell? ⟨P, 1, none⟩ = some (.pointer (some ⟨B, 0, none⟩)) ∧ (w1.alloc (fO v fk fn)).cell? ⟨W0.heap.size, 0, none⟩ = some (.int .i64 v) ∧ (w1.alloc (fO v fk fn)).cell? ⟨W0.heap.size, 1, none⟩ = some (.int .i64 fk) ∧ (w1.alloc (fO v fk fn)).cell? ⟨W0.heap.size, 2, none⟩ = some (.int .i64 fn)) := Lib.hid (fun n w1 ⟨Y', t, hy, s, r⟩ =>
      HK0.out (w1.alloc (fO v fk fn)) (((below_new w1 (fO v fk fn)).block P (t.lt (hy P (.inl HYP.out)))).trans (s.2 P (.inl HYP.out))) (((below_new w1 (fO v fk fn)).block _ (t.lt (hy W0.heap.size (.inr rfl)))).trans (s.2 W0.heap.size (.inr rfl))))
    obtain ⟨g0, g1, f0, f1, f2⟩ := HK0.out wc.drew rfl rfl
    have HEND : Hid (∀ w2, PlanE w0 A B (fun b => Y b ∨ b = W0.heap.size) D1 M1 wc w2 → ∃ D' M', Dk.Twin φ D' M' ∧ DBd cW (k + 1) D' ∧ MBd cW (k + 1) M' ∧ Two w0 A B Y D' M' w2 ∧ Stay Y w w2) := Lib.hid (fun w2 ⟨t, s⟩ =>
      ⟨D1, M1, HQ.out.1, HQ.out.2.1, HQ.out.2.2, t.add (Below.refl _ _) (fun b hb => .inl (.inl hb)), ⟨Nat.le_trans hS.1 s.1, fun b hb => (s.2 b (.inl hb)).trans (hS.2 b hb)⟩⟩)
    have hEE : (E == E) = true := by simp
    clear hd hb1 hb2 HK0 hT hS hPV hXV lPV lXV HP1 HP2 lP lP0 lB0 hz0
    go_wp2_with fail
    go_region_held3 (fun z : World => z.cell? ⟨P, 0, none⟩ = some (.pointer (some ⟨A, 0, none⟩)) ∧ z.cell? ⟨P, 1, none⟩ = some (.pointer (some ⟨B, 0, none⟩)) ∧ z.cell? ⟨W0.heap.size, 0, none⟩ = some (.int .i64 v) ∧ z.cell? ⟨W0.heap.size, 1, none⟩ = some (.int .i64 fk) ∧ z.cell? ⟨W0.heap.size, 2, none⟩ = some (.int .i64 fn))
      (first | assumption | exact HK1.out | exact HK2.out | exact HK3.out _ _ q1 | exact HC1.out _ _ q1 | exact HC2.out _ q2 | go_keep)
      (first
        | (go_at_call 22; with_reducible (refine C1.out.mono ?_); rintro e w1 ⟨rfl, q1⟩; obtain ⟨ga0, ga1, fa0, fa1, fa2⟩ := HC1.out _ _ q1)
        | (go_at_call 22; with_reducible (refine C2.out.mono ?_); rintro e w1 ⟨rfl, q1⟩; obtain ⟨ga0, ga1, fa0, fa1, fa2⟩ := HC1.out _ _ q1)
        | (go_at_call 22; with_reducible (refine C3.out.mono ?_); rintro e w1 ⟨rfl, q1⟩; obtain ⟨ga0, ga1, fa0, fa1, fa2⟩ := HC1.out _ _ q1)
        | (go_at_call 22; with_reducible (refine C4.out.mono ?_); rintro e w1 ⟨rfl, q1⟩; obtain ⟨ga0, ga1, fa0, fa1, fa2⟩ := HC1.out _ _ q1)
        | (go_at_call 23; with_reducible (refine (HR2.out _ wc _ _ q1).mono ?_); rintro e w2 ⟨rfl, q2⟩; obtain ⟨gb0, gb1, fb0, fb1, fb2⟩ := HC2.out _ q2)
        | (go_at_call 23; with_reducible (refine (HR0.out _ _ _ q1 (by decide)).mono ?_); rintro e w2 ⟨rfl, q2⟩; obtain ⟨gb0, gb1, fb0, fb1, fb2⟩ := HC2.out _ q2)
        | (go_at_call 23; with_reducible (refine (HR1.out _ wc _ _ 1 q1 (by decide)).mono ?_); rintro e w2 ⟨rfl, q2⟩; obtain ⟨gb0, gb1, fb0, fb1, fb2⟩ := HC2.out _ q2)
        | (go_at_call 23; with_reducible (refine (HR3.out _ _ _ q1 (by decide)).mono ?_); rintro e w2 ⟨rfl, q2⟩; obtain ⟨gb0, gb1, fb0, fb1, fb2⟩ := HC2.out _ q2))
    all_goals
      have HF := Lib.hid (HEND.out _ q2)
      clear q1 q2
      go_wp2_with fail
      go_ret
      exact ⟨rfl, HF.out⟩
end
end Wl
end Go.Proofs.YtioidkbpjkcjeaaGreatDoor
