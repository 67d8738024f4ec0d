/- The reader's object: one round of it. Conditions: those that the theorem names. -/
import Derived.Test.YtdooeedemgmpiaaDoorJsObj
namespace Go.Proofs.YtdooeedemgmpiaaDoor
set_option linter.unusedVariables false
open Go Go.RowKit Js

theorem ORow.cells {R P0 PS P1 P2 M base : Nat} {deep : Int} {ns : List ByteArray} {js : List J} {w : World} (h : ORow R P0 PS P1 P2 M base deep ns js w) :
    w.cell? ⟨P0, 0, none⟩ = some (.pointer (some ⟨R, 0, none⟩)) ∧ w.cell? ⟨PS, 0, none⟩ = some (.map (some M)) ∧ w.cell? ⟨P1, 0, none⟩ = some (.int .i64 deep) := by
  refine ⟨?_, ?_, ?_⟩ <;> simp [World.cell?, h.p0, h.ps, h.p1]
/-- What stands behind a name. -/
def colonB (f : Bs → Js.R J) (nm : ByteArray) (m : Bs) : Js.R (ByteArray × J) := match m with
  | 58 :: r' => match f (skipB r') with | .no e q => .no e q | .ok j q => .ok (nm, j) q
  | r' => .no eJson r'
theorem pair_no {f : Bs → Js.R J} {acc : List (ByteArray × J)} {l r : Bs} {e : Int} (h : nameB (acc.map (·.1)) l = .no e r) : pair f acc l = .no e r := by rw [pair_eq, h]
theorem pair_ok {f : Bs → Js.R J} {acc : List (ByteArray × J)} {l r : Bs} {nm : ByteArray} (h : nameB (acc.map (·.1)) l = .ok nm r) : pair f acc l = colonB f nm (skipB r) := by rw [pair_eq, h]; rfl
theorem nameB_sound (names : List ByteArray) (l : Bs) : Sound l (nameB names l) := by
  unfold nameB
  split
  · rename_i l1
    have h1 := text_sound l1
    cases ht : textOf [] l1 with
    | no e r => rw [ht] at h1; exact ⟨fun e' r' he => by injection he with he; rw [← he]; exact h1.err e r rfl, by have := h1.le; simp [Js.R.rest] at this ⊢; omega⟩
    | ok name r =>
      rw [ht] at h1
      simp only
      split
      · exact .no err_twice (Nat.le_refl _)
      · exact .ok (by have := h1.le; simp [Js.R.rest] at this ⊢; omega)
  · exact .no err_json (Nat.le_refl _)
theorem colon_err {f : Bs → Js.R J} {nm : ByteArray} {r' : Bs} : (colonB f nm (58 :: r')).err = (f (skipB r')).err := by
  unfold colonB; cases h : f (skipB r') <;> simp only [h] <;> rfl
theorem colon_rest {f : Bs → Js.R J} {nm : ByteArray} {r' : Bs} : (colonB f nm (58 :: r')).rest = (f (skipB r')).rest := by
  unfold colonB; cases h : f (skipB r') <;> simp only [h] <;> rfl
theorem colon_ok {f : Bs → Js.R J} {nm : ByteArray} {r' r0 : Bs} {q : ByteArray × J} (h : colonB f nm (58 :: r') = .ok q r0) : ∃ j0, f (skipB r') = .ok j0 r0 ∧ q = (nm, j0) := by
  unfold colonB at h
  cases hf : f (skipB r') with
  | no e q' => simp only [hf] at h; cases h
  | ok j0 q' => simp only [hf] at h; cases h; exact ⟨j0, rfl, rfl⟩
def OneEnd (R P0 PS P1 P2 M base : Nat) (deep : Int) (ns : List ByteArray) (js : List J) (nm : ByteArray) (j : J) (s : ByteArray) (rest : Bs) (w wx : World) : Prop :=
  ORow R P0 PS P1 P2 M base deep (ns ++ [nm]) (js ++ [j]) wx ∧ Seen M (ns ++ [nm]) wx ∧ Gr (turnedO R P2 M base) w wx ∧ Rd R s rest wx
set_option maxHeartbeats 4000000 in
set_option maxRecDepth 100000 in
theorem obj_one (d : Nat) (hv : ValueOk d) (hd : d ≤ 32) (R P0 PS P1 P2 M base : Nat) (acc : List (ByteArray × J)) (ns : List ByteArray) (js : List J) (hns : acc.map (·.1) = ns) (hjs : acc.map (·.2) = js) (s : ByteArray) (l : Bs) (w : World) (hO : ORow R P0 PS P1 P2 M base ((32 : Int) - d) ns js w) (hS : Seen M ns w) (h : Rd R s l w) (hs : s.size ≤ 16777215) (G : Gl w) (hR : gN ≤ R)
    (h0 : R < P0) (h1 : P0 < P1) (h2 : P1 < P2) (h3 : P2 < M) (h4 : M < PS) (h5 : PS < base) (hb : base ≤ w.heap.size) (hn : acc.length ≤ 16777216) :
    Calls Tryd.prog 45 #[.pointer (some ⟨P0, 0, none⟩), .pointer (some ⟨PS, 0, none⟩), .pointer (some ⟨P1, 0, none⟩), .pointer (some ⟨P2, 0, none⟩)] w (OneO R P0 PS P1 P2 M base ((32 : Int) - d) acc s (pair (value d) acc l) w) := by
  have hs' : s.size ≤ maxLen := by unfold maxLen; omega
  have hs6 : s.size ≤ 16777216 := by omega
  have hln : ns.length = acc.length := by rw [← hns]; simp
  have hlj : js.length = acc.length := by rw [← hjs]; simp
  have HNS := Lib.hid hns
  have HJS := Lib.hid hjs
  have HLN := Lib.hid (And.intro hln hlj)
  have HN := Lib.hid (name_any R M s ns l w h hS hs (by omega) G hR (by omega))
  obtain ⟨c0, cS, c1⟩ := hO.cells
  have HO := Lib.hid hO
  have GG := Lib.hid G
  have HR := Lib.hid hR
  have HS := Lib.hid hS
  have H := Lib.hid h
  have hsnd := nameB_sound ns l
  have HB := Lib.hid hb
  clear h hS hO G hR c1 hb hns hjs hln hlj
  cases hx : nameB ns l with
  | no e r =>
    have he := hsnd.err e r hx
    unfold isErr at he
    have he0 : (e == 0) = false := by simp; omega
    have HF : Hid (pair (value d) acc l = .no e r) := Lib.hid (pair_no (by rw [HNS.out]; exact hx))
    rw [hx] at HN
    clear he hsnd hx
    go_enter Tryd.func45, Tryd.ntmps45
    go_wp2_with fail
    refine HN.out.mono ?_
    rintro e' w2 ⟨t, rfl, ht, hs2, hg2, hr2⟩
    have HO2 := Lib.hid (HO.out.keep hg2 h0 h1 h2 h3 h4 h5)
    have HG2 := Lib.hid hg2
    have HR2 := Lib.hid hr2
    clear ht hs2 hg2 hr2
    unfold Js.R.err
    go_wp2_with fail
    go_ret
    exact ⟨_, _, by rw [HF.out]; rfl, HO2.out, (by rw [HF.out]; intro a b hab; cases hab), HG2.out.turnedO, by rw [HF.out]; exact HR2.out⟩
  | ok nm r =>
    have HF : Hid (pair (value d) acc l = colonB (value d) nm (skipB r)) := Lib.hid (pair_ok (by rw [HNS.out]; exact hx))
    rw [hx] at HN
    clear hsnd hx
    have HTK := Lib.hid (takes_one 58 (skipB r))
    by_cases hc : headIs (· == 58) (skipB r) = true
    · obtain ⟨r', hr'⟩ : ∃ r', skipB r = 58 :: r' := by
        generalize skipB r = m at hc
        cases m with
        | nil => simp [headIs] at hc
        | cons c m => simp [headIs] at hc; exact ⟨m, by rw [hc]⟩
      have htk : takes ⟨#[58]⟩ (58 :: r') = true := by rw [takes_one]; rfl
      have HT := Lib.hid htk
      rw [hr'] at HF
      have HRR := Lib.hid hr'
      clear hc htk hr'
      go_enter Tryd.func45, Tryd.ntmps45
      go_wp2_with fail
      refine HN.out.mono ?_
      rintro e' w2 ⟨t, rfl, ht, hs2, hg2, hr2⟩
      obtain rfl := ht nm r rfl
      have hO2 := HO.out.keep hg2 h0 h1 h2 h3 h4 h5
      obtain ⟨a0, _, _⟩ := hO2.cells
      have HO2 := Lib.hid hO2
      have HG2 := Lib.hid hg2
      have HR2 := Lib.hid hr2
      have HS2 := Lib.hid hs2
      clear ht hs2 hg2 hr2 hO2 c0 cS
      unfold Js.R.err
      go_wp2_with fail
      refine (skip_any R s _ r _ HR2.out hs' (by decide)).mono ?_
      rw [skips_blank, HRR.out]
      rintro e' w3 ⟨rfl, hg3, hr3⟩
      have hO3 := HO2.out.keep hg3.two h0 h1 h2 h3 h4 h5
      obtain ⟨b0, _, _⟩ := hO3.cells
      have HO3 := Lib.hid hO3
      have HG3 := Lib.hid (HG2.out.trans hg3.two)
      have HS3 : Hid (Seen M (namesB ns (.ok t r)) w3) := Lib.hid (HS2.out.kept (hg3.block M HS2.out.lt (fun e => by unfold one' at e; omega)))
      have HR3 := Lib.hid hr3
      clear hg3 hr3 hO3 a0
      go_wp2_with fail
      refine (take_t R s _ _ _ HR3.out hs' (by decide) true HT.out).mono ?_
      rintro e' w4 ⟨rfl, hg4, hr4⟩
      have hO4 := HO3.out.keep hg4.two h0 h1 h2 h3 h4 h5
      obtain ⟨d0, _, _⟩ := hO4.cells
      have HO4 := Lib.hid hO4
      have HG4 := Lib.hid (HG3.out.trans hg4.two)
      have HS4 : Hid (Seen M (namesB ns (.ok t r)) w4) := Lib.hid (HS3.out.kept (hg4.block M HS3.out.lt (fun e => by unfold one' at e; omega)))
      have HR4 := Lib.hid hr4
      clear hg4 hr4 hO4 b0
      go_wp2_with fail
      refine (skip_any R s _ r' _ HR4.out hs' (by decide)).mono ?_
      rw [skips_blank]
      rintro e' w5 ⟨rfl, hg5, hr5⟩
      have hO5 := HO4.out.keep hg5.two h0 h1 h2 h3 h4 h5
      obtain ⟨e0, _, e1⟩ := hO5.cells
      have HO5 := Lib.hid hO5
      have hG5 := HG4.out.trans hg5.two
      have HS5 : Hid (Seen M (namesB ns (.ok t r)) w5) := Lib.hid (HS4.out.kept (hg5.block M HS4.out.lt (fun e => by unfold one' at e; omega)))
      have GL5 : Gl w5 := GG.out.gr hG5 fun b hb' e => by have := HR.out; rcases e with e | e <;> omega
      have HV := Lib.hid (hv R s (skipB r') w5 hr5 hs GL5 HR.out)
      have e33 : (33 : Int) - d = 32 - d + 1 := by omega
      rw [e33] at HV
      have HG5 := Lib.hid hG5
      clear hg5 hr5 hO5 d0 hG5 GL5 e33
      go_wp2_with fail
      refine HV.out.mono ?_
      rintro e' w6 ⟨v, j, rfl, hj, hxj, hg6, hr6⟩
      obtain ⟨np, nc, lp, lc, hvv, _⟩ := hj.five
      generalize j.kind = vk at hvv
      generalize j.num = vn at hvv
      generalize j.text = vt at hvv
      generalize j.names.length = nl at hvv
      generalize j.list.length = ll at hvv
      subst hvv
      obtain ⟨V, hV⟩ : ∃ V, V = w6.alloc (.cells #[.int .i64 vk, .int .i64 vn, .string vt, .slice np nl nc, .slice lp ll lc] 25) := ⟨_, rfl⟩
      have hVb : ∀ b, b < w6.heap.size → V.heap[b]? = w6.heap[b]? := fun b hlt => by rw [hV]; exact Below.heap_alloc _ _ _ hlt
      have hVs : V.heap.size = w6.heap.size + 1 := by rw [hV]; simp
      have hVn : V.heap[w6.heap.size]? = some (.cells #[.int .i64 vk, .int .i64 vn, .string vt, .slice np nl nc, .slice lp ll lc] 25 (0, 0)) := by
        rw [hV]; exact heap_alloc_new _ _
      have hGV : Gr (one' R) w5 V := by rw [hV]; exact hg6.alloc _
      have hs6' := hg6.size
      have hb5 : base ≤ w5.heap.size := Nat.le_trans HB.out HG5.out.size
      obtain ⟨hp0, hps, hp1, nv, lv, cells, hp2, hownn, hown, hap, hkid⟩ := HO5.out
      have blk : ∀ b, b < w5.heap.size → b ≠ R → V.heap[b]? = w5.heap[b]? := fun b hlt hne => hGV.block b hlt hne
      have hP2lt : P2 < w5.heap.size := (Array.getElem?_eq_some_iff.1 hp2).1
      have q2 := (blk P2 hP2lt (by omega)).trans hp2
      have hownnV : V.ownsRow base 9 1 nv ns.length (ns.map Value.string) := hownn.same (fun g hg => by have := hownn.lt g hg; exact blk g this.2 (by omega))
      have hnsz : ns.length ≤ 16777216 := by have := HLN.out.1; omega
      have hjsz : js.length ≤ 16777216 := by have := HLN.out.2; omega
      obtain ⟨g1, c1', X1, happ1, hn1, hgr1, hg1⟩ := append_name hownnV hnsz (by omega) t
      have hg1P : g1 ≠ P2 := by
        rcases hg1 with h | h
        · have := (hownn.lt g1 h).1; omega
        · omega
      have hX1P : X1.heap[P2]? = some (.cells #[.int .i64 6, .int .i64 0, .string ⟨#[]⟩, nv, lv] 25 (0, 0)) := by
        rw [hgr1.block P2 (by simp; omega) (fun e => by have := (hownn.lt P2 e.symm).1; omega)]
        exact (Below.heap_alloc V _ P2 (by omega)).trans q2
      have sX1 : V.heap.size + 1 ≤ X1.heap.size := by have := hgr1.size; simpa using this
      obtain ⟨X, hX⟩ : ∃ X, X = X1.setCell ⟨P2, 3, none⟩ (.slice (some ⟨g1, 0, none⟩) (ns.length + 1) c1') := ⟨_, rfl⟩
      have hXs : X.heap.size = X1.heap.size := by rw [hX]; simp
      have hXP : X.heap[P2]? = some (.cells #[.int .i64 6, .int .i64 0, .string ⟨#[]⟩, .slice (some ⟨g1, 0, none⟩) (ns.length + 1) c1', lv] 25 (0, 0)) := by rw [hX]; exact heap_setCell_same _ _ _ _ _ _ hX1P
      have hXb : ∀ b, b < V.heap.size → b ≠ P2 → nv.ownBlock ≠ some b → X.heap[b]? = V.heap[b]? := fun b hlt hne hno => by
        rw [hX, Below.heap_setCell _ _ _ _ (show b ≠ P2 from hne), hgr1.block b (by simp; omega) (fun e => hno e.symm)]
        exact Below.heap_alloc V _ b hlt
      have hownX : X.drew.ownsRow base 25 5 lv js.length cells := hown.same (fun g hg => by
        have := hown.lt g hg
        exact (hXb g (by omega) (by omega) (fun e => hap g e hg)).trans (blk g this.2 (by omega)))
      obtain ⟨g, c, W', happ, ho', hgr', hgb, hnc⟩ := append_five hownX hjsz (by show base ≤ X.heap.size; omega)
      obtain ⟨p, c', hlv⟩ : ∃ p c', lv = .slice p js.length c' := by
        rcases hown.2 with ⟨rfl, h0⟩ | ⟨g, cap, cur, rfl, _⟩
        · exact ⟨_, _, by rw [h0]⟩
        · exact ⟨_, _, rfl⟩
      subst hlv
      obtain ⟨pn, cn, hnv⟩ : ∃ p c', nv = .slice p ns.length c' := by
        rcases hownn.2 with ⟨rfl, h0⟩ | ⟨g, cap, cur, rfl, _⟩
        · exact ⟨_, _, by rw [h0]⟩
        · exact ⟨_, _, rfl⟩
      subst hnv
      have hgb' : (Value.slice p js.length c').ownBlock = some g ∨ X1.heap.size < g := by
        have : X.drew.heap.size = X1.heap.size := hXs
        rw [this] at hgb; exact hgb
      -- the first append, at the walk's own world
      have happ1' : ∀ ty, (Builtin.append_ #[22, 22] ty #[.slice pn ns.length cn, .slice (some ⟨w6.heap.size + 1, 0, none⟩) 1 1]).run Tryd.prog ((w6.alloc (.cells #[.int .i64 vk, .int .i64 vn, .string vt, .slice np nl nc, .slice lp ll lc] 25)).alloc (.cells #[.string t] 9)) = .ok (.slice (some ⟨g1, 0, none⟩) (ns.length + 1) c1') X1 := fun ty => by
        have := happ1 ty
        rw [hVs] at this
        rw [hV] at this
        exact this
      have v3 : w6.cell? ⟨P2, 3, none⟩ = some (.slice pn ns.length cn) := by
        have : w6.heap[P2]? = some (.cells #[.int .i64 6, .int .i64 0, .string ⟨#[]⟩, .slice pn ns.length cn, .slice p js.length c'] 25 (0, 0)) := (hg6.block P2 hP2lt (fun e => by unfold one' at e; omega)).trans hp2
        simp [World.cell?, this]
      have v3' : ∀ o, (w6.alloc o).cell? ⟨P2, 3, none⟩ = some (.slice pn ns.length cn) := fun o => by
        rw [← v3]; exact World.cell?_of_block (w := w6) (a := ⟨P2, 3, none⟩) (Below.heap_alloc w6 o P2 (by show P2 < _; omega))
      have x3 : X1.cell? ⟨P2, 3, none⟩ = some (.slice pn ns.length cn) := by simp [World.cell?, hX1P]
      have x3f : X1.frozen? ⟨P2, 3, none⟩ = false := by simp [World.frozen?, hX1P]
      -- cells at X
      have v0 : X.cell? ⟨P2, 4, none⟩ = some (.slice p js.length c') := by simp [World.cell?, hXP]
      have hXn : X.heap[w6.heap.size]? = some (.cells #[.int .i64 vk, .int .i64 vn, .string vt, .slice np nl nc, .slice lp ll lc] 25 (0, 0)) := (hXb _ (by omega) (by omega) (fun e => by have := (hownn.lt _ e).2; omega)).trans hVn
      have a0 : X.cell? ⟨w6.heap.size, 0, none⟩ = some (.int .i64 vk) := by simp [World.cell?, hXn]
      have a1 : X.cell? ⟨w6.heap.size, 1, none⟩ = some (.int .i64 vn) := by simp [World.cell?, hXn]
      have a2 : X.cell? ⟨w6.heap.size, 2, none⟩ = some (.string vt) := by simp [World.cell?, hXn]
      have a3 : X.cell? ⟨w6.heap.size, 3, none⟩ = some (.slice np nl nc) := by simp [World.cell?, hXn]
      have a4 : X.cell? ⟨w6.heap.size, 4, none⟩ = some (.slice lp ll lc) := by simp [World.cell?, hXn]
      have keepc : ∀ (o : Obj) (b i : Nat) (u : Value), b < X.heap.size → X.cell? ⟨b, i, none⟩ = some u → (X.alloc o).cell? ⟨b, i, none⟩ = some u := fun o b i u hlt hc => by
        rw [← hc]; exact World.cell?_of_block (w := X) (a := ⟨b, i, none⟩) (Below.heap_alloc X o b hlt)
      have b0 : ∀ o, (X.alloc o).cell? ⟨P2, 4, none⟩ = some (.slice p js.length c') := fun o => keepc o _ _ _ (by omega) v0
      have b1 : ∀ o, (X.alloc o).cell? ⟨w6.heap.size, 0, none⟩ = some (.int .i64 vk) := fun o => keepc o _ _ _ (by omega) a0
      have b2 : ∀ o, (X.alloc o).cell? ⟨w6.heap.size, 1, none⟩ = some (.int .i64 vn) := fun o => keepc o _ _ _ (by omega) a1
      have b3 : ∀ o, (X.alloc o).cell? ⟨w6.heap.size, 2, none⟩ = some (.string vt) := fun o => keepc o _ _ _ (by omega) a2
      have b4 : ∀ o, (X.alloc o).cell? ⟨w6.heap.size, 3, none⟩ = some (.slice np nl nc) := fun o => keepc o _ _ _ (by omega) a3
      have b5 : ∀ o, (X.alloc o).cell? ⟨w6.heap.size, 4, none⟩ = some (.slice lp ll lc) := fun o => keepc o _ _ _ (by omega) a4
      have hgP : g ≠ P2 := by
        rcases hgb' with h | h
        · have := (hown.lt g h).1; omega
        · omega
      have hWk : ∀ b, b < X.heap.size → (Value.slice p js.length c').ownBlock ≠ some b → W'.heap[b]? = X.heap[b]? := fun b hlt hno => by
        rw [hgr'.block b (by simp; omega) (fun e => hno e.symm)]
        exact Below.heap_alloc X.drew zero5 b hlt
      have hW4 := (hWk P2 (by omega) (fun e => by have := (hown.lt P2 e).1; omega)).trans hXP
      have f4 : W'.frozen? ⟨P2, 4, none⟩ = false := by simp [World.frozen?, hW4]
      have d4 : W'.cell? ⟨P2, 4, none⟩ = some (.slice p js.length c') := by simp [World.cell?, hW4]
      have hlc : cells.length = js.length * 5 := hown.1
      have g0 : W'.cell? ⟨g, js.length * 5, none⟩ = some (.int .i64 0) := by rw [ho'.cellAt _ (by omega)]; simp [hlc]
      have g1x : W'.cell? ⟨g, js.length * 5 + 1, none⟩ = some (.int .i64 0) := by rw [ho'.cellAt _ (by omega)]; rw [List.getElem?_append_right (by omega)]; simp [hlc]
      have g2x : W'.cell? ⟨g, js.length * 5 + 2, none⟩ = some (.string ⟨#[]⟩) := by rw [ho'.cellAt _ (by omega)]; rw [List.getElem?_append_right (by omega)]; simp [hlc]
      have g3x : W'.cell? ⟨g, js.length * 5 + 3, none⟩ = some (.slice none 0 0) := by rw [ho'.cellAt _ (by omega)]; rw [List.getElem?_append_right (by omega)]; simp [hlc]
      have g4x : W'.cell? ⟨g, js.length * 5 + 4, none⟩ = some (.slice none 0 0) := by rw [ho'.cellAt _ (by omega)]; rw [List.getElem?_append_right (by omega)]; simp [hlc]
      have k0 := ho'.frozenAt (js.length * 5)
      have k1 := ho'.frozenAt (js.length * 5 + 1)
      have k2 := ho'.frozenAt (js.length * 5 + 2)
      have k3 := ho'.frozenAt (js.length * 5 + 3)
      have k4 := ho'.frozenAt (js.length * 5 + 4)
      have hgrX := hgr'
      rw [hX] at hgrX
      have HFIN : ∀ wx, BehindO P2 g base (.slice (some ⟨g1, 0, none⟩) (ns.length + 1) c1') (.slice (some ⟨g, 0, none⟩) (js.length + 1) c) (js.length + 1) (cells ++ [.int .i64 vk, .int .i64 vn, .string vt, .slice np nl nc, .slice lp ll lc]) W' wx → OneEnd R P0 PS P1 P2 M base ((32 : Int) - d) ns js t j s (value d (skipB r')).rest w wx := fun wx hbh => by
        obtain ⟨p1, p2, p3, p4⟩ := ORow.push h0 h1 h2 h3 h4 h5 hb5 hp0 hps hp1 hownn hown hap hkid hg6 hr6 hj hVb hVs hGV hgr1 hn1 hg1 hgrX hgb' hbh
        have hMlt : M < w5.heap.size := HS5.out.lt
        refine ⟨p1, ?_, (HG5.out.turnedO (P2 := P2) (base := base)).trans' p3 (fun b _ e => e), p4⟩
        refine HS5.out.kept ?_
        rw [p2 M (by omega) (by omega) (fun e => by have := (hownn.lt M e).1; omega) (fun e => by have := (hown.lt M e).1; omega)]
        exact hg6.block M hMlt (fun e => by unfold one' at e; omega)
      have HA2 := Lib.hid (HFIN _ (five_behindO (a := .int .i64 vk) (b := .int .i64 vn) (cc := .string vt) (d := .slice np nl nc) (e := .slice lp ll lc) hgP ho' (Lib.hid hlc) hW4))
      have HB2 := Lib.hid (HFIN _ (five_aheadO (a := .int .i64 vk) (b := .int .i64 vn) (cc := .string vt) (d := .slice np nl nc) (e := .slice lp ll lc) hgP ho' (Lib.hid hlc) hW4))
      unfold fiveO at HA2 HB2
      have happ' : ∀ ty, (Builtin.append_ #[23, 23] ty #[.slice p js.length c', .slice (some ⟨X.heap.size, 0, none⟩) 1 1]).run Tryd.prog (X.alloc (.cells #[.int .i64 0, .int .i64 0, .string ⟨#[]⟩, .slice none 0 0, .slice none 0 0] 25)).drew = .ok (.slice (some ⟨g, 0, none⟩) (js.length + 1) c) W' := happ
      have HX2 := Lib.hid hX
      have HXJ := Lib.hid hxj
      have hn0 : (0 : Int) ≤ (js.length : Int) := by omega
      have hn1' : (js.length : Int) < ((js.length + 1 : Nat) : Int) := by omega
      clear hV hVb hVs hVn hGV hs6' hb5 hp0 hps hp1 hp2 hownn hown hap hkid blk hP2lt q2 hownnV hnsz hjsz happ1 hn1 hgr1 hg1 hg1P hX1P sX1 hX hXs hXP hXb hownX happ ho' hgr' hgb hgb' hXn keepc hWk hW4 hlc hgrX HFIN hj hxj hg6 hr6 v3 hnc
      generalize hN1 : js.length + 1 = n1 at happ' hn1'
      have HN1 := Lib.hid hN1
      clear hN1
      go_wp2_with (at_builtin; refine wpList_append_run (by rfl) _ _ _ _ (by rfl) _ _ (.slice (some ⟨g1, 0, none⟩) (ns.length + 1) c1') X1 (by rfl) (by rfl) happ1' ?_)
      rw [← HX2.out]
      go_cut [] (fun wx => OneEnd R P0 PS P1 P2 M base ((32 : Int) - d) ns js t j s (value d (skipB r')).rest w wx)
      case first =>
        go_region_law (refine step_append_run (by rfl) _ _ _ _ (by rfl) _ _ (.slice (some ⟨g, 0, none⟩) n1 c) W' (by rfl) (by rfl) happ' ?_)
        all_goals (have hx1 := HN1.out; subst hx1)
        all_goals go_wp2_with fail
        all_goals go_meet
        all_goals first | with_reducible exact HA2.out | with_reducible exact HB2.out
      case rest =>
        clear HA2 HB2
        obtain ⟨ho9, hs9, hg9, hr9⟩ := hcut
        have HO9 := Lib.hid ho9
        have HS9 := Lib.hid hs9
        have HG9 := Lib.hid hg9
        have HR9 := Lib.hid hr9
        clear ho9 hs9 hg9 hr9
        go_wp2_with fail
        go_ret
        refine ⟨_, _, ?_, HO9.out, ?_, HG9.out, ?_⟩
        · rw [HF.out, colon_err]; rfl
        · intro q r0 hq
          rw [HF.out] at hq
          obtain ⟨j0, hj0, rfl⟩ := colon_ok hq
          have := HXJ.out j0 r0 hj0
          subst this
          refine ⟨?_, ?_, HS9.out⟩
          · rw [List.map_append, HNS.out]; rfl
          · rw [List.map_append, HJS.out]; rfl
        · rw [HF.out, colon_rest]; exact HR9.out
    · have HF2 : Hid (pair (value d) acc l = .no eJson (skipB r)) := Lib.hid (by
        rw [HF.out]; unfold colonB
        split
        · rename_i r' he; rw [he] at hc; exact absurd rfl hc
        · rfl)
      have htk : takes ⟨#[58]⟩ (skipB r) = false := HTK.out.trans (by simpa using hc)
      have HT := Lib.hid htk
      clear hc htk
      go_enter Tryd.func45, Tryd.ntmps45
      go_wp2_with fail
      refine HN.out.mono ?_
      rintro e' w2 ⟨t, rfl, ht, hs2, hg2, hr2⟩
      have hO2 := HO.out.keep hg2 h0 h1 h2 h3 h4 h5
      obtain ⟨a0, _, _⟩ := hO2.cells
      have HO2 := Lib.hid hO2
      have HG2 := Lib.hid hg2
      have HR2 := Lib.hid hr2
      clear ht hs2 hg2 hr2 hO2 c0 cS
      unfold Js.R.err
      go_wp2_with fail
      refine (skip_any R s _ r _ HR2.out hs' (by decide)).mono ?_
      rw [skips_blank]
      rintro e' w3 ⟨rfl, hg3, hr3⟩
      have hO3 := HO2.out.keep hg3.two h0 h1 h2 h3 h4 h5
      obtain ⟨b0, _, _⟩ := hO3.cells
      have HO3 := Lib.hid hO3
      have HG3 := Lib.hid (HG2.out.trans hg3.two)
      have HR3 := Lib.hid hr3
      clear hg3 hr3 hO3 a0
      go_wp2_with fail
      refine (take_t R s _ _ _ HR3.out hs' (by decide) false HT.out).mono ?_
      rintro e' w4 ⟨rfl, hg4, hr4⟩
      have HO4 := Lib.hid (HO3.out.keep hg4.two h0 h1 h2 h3 h4 h5)
      have HG4 := Lib.hid (HG3.out.trans hg4.two)
      have HR4 := Lib.hid hr4
      clear hg4 hr4 b0
      go_wp2_with fail
      go_ret
      exact ⟨_, _, by rw [HF2.out]; rfl, HO4.out, (by rw [HF2.out]; intro a b hab; cases hab), HG4.out.turnedO, by rw [HF2.out]; exact HR4.out⟩
end Go.Proofs.YtdooeedemgmpiaaDoor
