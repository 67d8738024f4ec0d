/- The reader's object: what one round of it does. Conditions: those that each theorem names. -/
import Derived.Test.YtdooeedemgmpiaaDoorJsList
import Derived.Test.YtdooeedemgmpiaaDoorJsName
namespace Go.Proofs.YtdooeedemgmpiaaDoor
set_option linter.unusedVariables false
open Go Go.RowKit Js

/-- The values of an own row, that lie in blocks of S. -/
def Kids2 (S : Nat → Prop) (w : World) (js : List J) (cells : List Value) : Prop :=
  ∃ vs : List Value, vs.length = js.length ∧ cells = vs.flatMap vcells ∧ ∀ i (h : i < js.length), ∃ v, vs[i]? = some v ∧ JAt S w js[i] v
theorem Kids2.nil (S : Nat → Prop) (w : World) : Kids2 S w [] [] := ⟨[], rfl, rfl, fun i h => by simp at h⟩
theorem Kids2.frame {S S' : Nat → Prop} {w w' : World} {js : List J} {cells : List Value} (h : Kids2 S w js cells) (hs : ∀ b, b < w.heap.size → S b → S' b) (hb : ∀ b, S b → b < w.heap.size → w'.heap[b]? = w.heap[b]?) (hz : w.heap.size ≤ w'.heap.size) : Kids2 S' w' js cells := by
  obtain ⟨vs, h1, h2, h3⟩ := h
  refine ⟨vs, h1, h2, fun i hi => ?_⟩
  obtain ⟨v, hv, hj⟩ := h3 i hi
  exact ⟨v, hv, JAt.frame hs hb hz _ _ hj⟩
theorem Kids2.push {S : Nat → Prop} {w : World} {js : List J} {cells : List Value} (h : Kids2 S w js cells) {j : J} {v : Value} (hj : JAt S w j v) : Kids2 S w (js ++ [j]) (cells ++ vcells v) := by
  obtain ⟨vs, h1, h2, h3⟩ := h
  refine ⟨vs ++ [v], by simp [h1], by rw [h2]; simp, fun i hi => ?_⟩
  by_cases hlt : i < js.length
  · obtain ⟨u, hu, hj'⟩ := h3 i hlt
    refine ⟨u, by rw [List.getElem?_append_left (by omega)]; exact hu, ?_⟩
    rw [List.getElem_append_left hlt]; exact hj'
  · have : i = js.length := by simp at hi; omega
    subst this
    refine ⟨v, by rw [← h1]; simp, ?_⟩
    simpa using hj
/-- Neither in the row of the names nor in the row of the values. -/
def apart (base : Nat) (nv lv : Value) : Nat → Prop := fun b => base ≤ b ∧ some b ≠ nv.ownBlock ∧ some b ≠ lv.ownBlock
theorem Kids2.kids {base : Nat} {nv lv : Value} {w : World} {js : List J} {cells : List Value} (h : Kids2 (apart base nv lv) w js cells) : Kids base w lv js cells := by
  obtain ⟨vs, h1, h2, h3⟩ := h
  refine ⟨vs, h1, h2, fun i hi => ?_⟩
  obtain ⟨v, hv, hj⟩ := h3 i hi
  exact ⟨v, hv, JAt.frame (fun b _ hx => ⟨hx.1, hx.2.2⟩) (fun _ _ _ => rfl) (Nat.le_refl _) _ _ hj⟩
structure ORow (R P0 PS P1 P2 M base : Nat) (deep : Int) (ns : List ByteArray) (js : List J) (w : World) : Prop where
  p0 : w.heap[P0]? = some (.cells #[.pointer (some ⟨R, 0, none⟩)] 42 (0, 0))
  ps : w.heap[PS]? = some (.cells #[.map (some M)] 67 (0, 0))
  p1 : w.heap[P1]? = some (.cells #[.int .i64 deep] 3 (0, 0))
  row : ∃ nv lv cells, w.heap[P2]? = some (.cells #[.int .i64 6, .int .i64 0, .string ⟨#[]⟩, nv, lv] 25 (0, 0)) ∧ w.ownsRow base 9 1 nv ns.length (ns.map Value.string) ∧ w.ownsRow base 25 5 lv js.length cells ∧
    (∀ g, nv.ownBlock = some g → lv.ownBlock ≠ some g) ∧ Kids2 (apart base nv lv) w js cells
def turnedO (R P2 M base : Nat) : Nat → Prop := fun b => b = R ∨ b = M ∨ b = P2 ∨ base ≤ b
/-- Memory outside of the object's turns. -/
theorem ORow.keep {R P0 PS P1 P2 M base : Nat} {deep : Int} {ns : List ByteArray} {js : List J} {w w' : World} (h : ORow R P0 PS P1 P2 M base deep ns js w) (g : Gr (two' R M) w w') (h0 : R < P0) (h1 : P0 < P1) (h2 : P1 < P2) (h3 : P2 < M) (h4 : M < PS) (h5 : PS < base) : ORow R P0 PS P1 P2 M base deep ns js w' := by
  obtain ⟨p0, ps, p1, nv, lv, cells, p2, ownn, own, hap, kid⟩ := h
  have hb : ∀ b, b < w.heap.size → b ≠ R → b ≠ M → w'.heap[b]? = w.heap[b]? := fun b hlt hne hnm => g.block b hlt (fun e => e.elim hne hnm)
  have lt : ∀ {b : Nat} {o : Obj}, w.heap[b]? = some o → b < w.heap.size := fun e => (Array.getElem?_eq_some_iff.1 e).1
  exact ⟨(hb P0 (lt p0) (by omega) (by omega)).trans p0, (hb PS (lt ps) (by omega) (by omega)).trans ps, (hb P1 (lt p1) (by omega) (by omega)).trans p1, nv, lv, cells, (hb P2 (lt p2) (by omega) (by omega)).trans p2,
    ownn.same (fun k hk => hb k (ownn.lt k hk).2 (by have := (ownn.lt k hk).1; omega) (by have := (ownn.lt k hk).1; omega)), own.same (fun k hk => hb k (own.lt k hk).2 (by have := (own.lt k hk).1; omega) (by have := (own.lt k hk).1; omega)), hap,
    kid.frame (fun _ _ hn => hn) (fun b hbb hlt => hb b hlt (by have := hbb.1; omega) (by have := hbb.1; omega)) g.size⟩
theorem Gr.turnedO {R P2 M base : Nat} {w w' : World} (h : Gr (two' R M) w w') : Gr (turnedO R P2 M base) w w' := h.mono fun b _ e => e.elim .inl fun x => .inr (.inl x)
/-- A pair, in the words of the calls. -/
theorem pair_eq (f : Bs → Js.R J) (acc : List (ByteArray × J)) (l : Bs) : pair f acc l = match nameB (acc.map (·.1)) l with
    | .no e r => .no e r
    | .ok name r => match skipB r with
      | 58 :: r' => match f (skipB r') with | .no e q => .no e q | .ok j q => .ok (name, j) q
      | r' => .no eJson r' := by
  unfold pair
  split
  · rename_i l1
    have e0 : text l1 = textOf [] l1 := rfl
    rw [e0]
    cases ht : textOf [] l1 with
    | no e r => simp only [nameB, ht]
    | ok name r =>
      simp only [nameB, ht, List.any_map]
      by_cases h : (acc.any fun p => decide (p.1 = name)) = true
      · rw [if_pos h, if_pos (by simpa [Function.comp_def] using h)]
      · rw [if_neg h, if_neg (by simpa [Function.comp_def] using h)]
        dsimp only
        cases skipB r with
        | nil => rfl
        | cons c q => by_cases hc : c = 58
                      · subst hc; rfl
                      · split
                        · rename_i e; injection e with e; exact absurd e hc
                        · split
                          · rename_i e; injection e with e; exact absurd e hc
                          · rfl
  · rename_i hno
    have : nameB (acc.map (·.1)) l = .no eJson l := by
      unfold nameB
      split
      · rename_i l1; exact absurd rfl (hno l1)
      · rfl
    rw [this]
def OneO (R P0 PS P1 P2 M base : Nat) (deep : Int) (acc : List (ByteArray × J)) (s : ByteArray) (x : Js.R (ByteArray × J)) (w : World) (e : Ending) (w' : World) : Prop :=
  ∃ ns js, e = .returned (.int .i64 x.err) ∧ ORow R P0 PS P1 P2 M base deep ns js w' ∧ (∀ p r, x = .ok p r → ns = (acc ++ [p]).map (·.1) ∧ js = (acc ++ [p]).map (·.2) ∧ Seen M ns w') ∧ Gr (turnedO R P2 M base) w w' ∧ Rd R s x.rest w'

/-! ### the two appends of a round -/
theorem infoStr : (Tryd.prog.info? 9).map (fun i => (i.zero, i.size, i.bytes)) = some (some (.string ⟨#[]⟩), 1, 16) := by kernel_rfl
theorem append_name {w : World} {base : Nat} {nv : Value} {n : Nat} {cells : List Value} (hown : w.ownsRow base 9 1 nv n cells) (hn : n ≤ 16777216) (hb : base ≤ w.heap.size) (nm : ByteArray) :
    ∃ g c W', (∀ ty, (Builtin.append_ #[22, 22] ty #[nv, .slice (some ⟨w.heap.size, 0, none⟩) 1 1]).run Tryd.prog (w.alloc (.cells #[.string nm] 9)) = .ok (.slice (some ⟨g, 0, none⟩) (n + 1) c) W') ∧
      W'.ownsRow base 9 1 (.slice (some ⟨g, 0, none⟩) (n + 1) c) (n + 1) (cells ++ [.string nm]) ∧ (w.alloc (.cells #[.string nm] 9)).grownBy W' nv.ownBlock ∧ (nv.ownBlock = some g ∨ w.heap.size < g) := by
  obtain ⟨i0, hi, hz0, hz1, hz2⟩ := info_parts infoStr
  have ho : (w.alloc (.cells #[.string nm] 9)).ownsRow base 9 1 nv n cells := hown.alloc _
  obtain ⟨v', w', hr, h2, h3, h4⟩ := run_append_own_at (P := Tryd.prog) (w := w.alloc (.cells #[.string nm] 9)) base 22 22 9 i0 _ 1 16 Tryd.underlying22 hi hz0 hz1 hz2 rfl (by decide) nv n cells ho ⟨w.heap.size, 0, none⟩ 1 1 [.string nm] rfl
    (fun j u hj => by
      have hnew : (w.alloc (.cells #[.string nm] 9)).heap[w.heap.size]? = some (.cells #[.string nm] 9) := heap_alloc_new _ _
      have ha : (⟨w.heap.size, 0, none⟩ : Addr).add j = ⟨w.heap.size, j, none⟩ := by unfold Addr.add; split <;> simp_all
      rw [ha, cell_of_row (w.alloc (.cells #[.string nm] 9)) w.heap.size j _ _ (0, 0) hnew]
      simpa using hj)
    (fun u hu => by simp at hu; subst hu; rfl) (by unfold maxLen; omega) (by omega) (by simp; omega)
  rcases h2.2 with ⟨_, h0⟩ | ⟨g, cap, cur, rfl, hbg, hg, hnc, hrest⟩
  · omega
  · refine ⟨g, cap, w', fun _ => hr, h2, h3, ?_⟩
    rcases h4.2 with h5 | h5
    · exact .inl h5.symm
    · right
      have : g = (w.alloc (.cells #[.string nm] 9)).heap.size := by simpa [Value.ownBlock] using h5
      rw [this]; simp
structure BehindO (P2 g base : Nat) (nv' lv' : Value) (n1 : Nat) (cells : List Value) (W' wx : World) : Prop where
  own : wx.ownsRow base 25 5 lv' n1 cells
  p2 : wx.heap[P2]? = some (.cells #[.int .i64 6, .int .i64 0, .string ⟨#[]⟩, nv', lv'] 25 (0, 0))
  rest : ∀ b, b ≠ g → b ≠ P2 → wx.heap[b]? = W'.heap[b]?
  gr : ∀ (S : Nat → Prop) (w : World), Gr S w W' → (g < w.heap.size → S g) → (P2 < w.heap.size → S P2) → Gr S w wx
theorem five_behindO {W' : World} {base P2 g n c : Nat} {cells : List Value} {z0 z1 z2 z3 z4 y4 nv' : Value} (hg : g ≠ P2) (h : W'.ownsRow base 25 5 (.slice (some ⟨g, 0, none⟩) (n + 1) c) (n + 1) (cells ++ [z0, z1, z2, z3, z4])) (hl : Hid (cells.length = n * 5))
    (hp : W'.heap[P2]? = some (.cells #[.int .i64 6, .int .i64 0, .string ⟨#[]⟩, nv', y4] 25 (0, 0))) {a b cc d e : Value} :
    BehindO P2 g base nv' (.slice (some ⟨g, 0, none⟩) (n + 1) c) (n + 1) (cells ++ [a, b, cc, d, e]) W' ((fiveO W' g (n * 5) a b cc d e).setCell ⟨P2, 4, none⟩ (.slice (some ⟨g, 0, none⟩) (n + 1) c)) := by
  refine ⟨(own_five h hl.out a b cc d e).same fun k hk => ?_, ?_, fun b' h1 h2 => ?_, fun S w hG h1 h2 => Gr.setCell (a := ⟨P2, 4, none⟩) (hG.fiveO h1 a b cc d e) h2 _⟩
  · have : g = k := by simpa [Value.ownBlock] using hk
    exact Below.heap_setCell _ _ _ _ (by show k ≠ P2; omega)
  · refine heap_setCell_same _ _ _ _ _ _ ((fiveO_block (Ne.symm hg) _ _ _ _ _).trans hp)
  · rw [Below.heap_setCell _ _ _ _ (show b' ≠ P2 from h2)]
    exact fiveO_block h1 _ _ _ _ _
theorem five_aheadO {W' : World} {base P2 g n c : Nat} {cells : List Value} {z0 z1 z2 z3 z4 y4 nv' : Value} (hg : g ≠ P2) (h : W'.ownsRow base 25 5 (.slice (some ⟨g, 0, none⟩) (n + 1) c) (n + 1) (cells ++ [z0, z1, z2, z3, z4])) (hl : Hid (cells.length = n * 5))
    (hp : W'.heap[P2]? = some (.cells #[.int .i64 6, .int .i64 0, .string ⟨#[]⟩, nv', y4] 25 (0, 0))) {a b cc d e : Value} :
    BehindO P2 g base nv' (.slice (some ⟨g, 0, none⟩) (n + 1) c) (n + 1) (cells ++ [a, b, cc, d, e]) W' (fiveO (W'.setCell ⟨P2, 4, none⟩ (.slice (some ⟨g, 0, none⟩) (n + 1) c)) g (n * 5) a b cc d e) := by
  have h' : (W'.setCell ⟨P2, 4, none⟩ (.slice (some ⟨g, 0, none⟩) (n + 1) c)).ownsRow base 25 5 (.slice (some ⟨g, 0, none⟩) (n + 1) c) (n + 1) (cells ++ [z0, z1, z2, z3, z4]) := h.same fun k hk => by
    have : g = k := by simpa [Value.ownBlock] using hk
    exact Below.heap_setCell _ _ _ _ (by show k ≠ P2; omega)
  refine ⟨own_five h' hl.out a b cc d e, ?_, fun b' h1 h2 => ?_, fun S w hG h1 h2 => Gr.fiveO (Gr.setCell (a := ⟨P2, 4, none⟩) hG h2 _) h1 a b cc d e⟩
  · rw [fiveO_block (Ne.symm hg)]
    exact heap_setCell_same _ _ _ _ _ _ hp
  · rw [fiveO_block h1]
    exact Below.heap_setCell _ _ _ _ (show b' ≠ P2 from h2)
/-- What a round of an object comes to. -/
theorem ORow.push {R P0 PS P1 P2 M base : Nat} {deep : Int} {ns : List ByteArray} {js : List J} {w w1 V X1 W' wx : World} {nv lv : Value} {g1 c1 g c : Nat} {cells : List Value} {s : ByteArray} {rest : Bs} {nm : ByteArray} {j : J} {v : Value} {row1 row2 : Obj}
    (h0 : R < P0) (h1 : P0 < P1) (h2 : P1 < P2) (h3 : P2 < M) (h4 : M < PS) (h5 : PS < base) (hb : base ≤ w.heap.size)
    (hp0 : w.heap[P0]? = some (.cells #[.pointer (some ⟨R, 0, none⟩)] 42 (0, 0))) (hps : w.heap[PS]? = some (.cells #[.map (some M)] 67 (0, 0))) (hp1 : w.heap[P1]? = some (.cells #[.int .i64 deep] 3 (0, 0)))
    (hownn : w.ownsRow base 9 1 nv ns.length (ns.map Value.string)) (hown : w.ownsRow base 25 5 lv js.length cells) (hap : ∀ g, nv.ownBlock = some g → lv.ownBlock ≠ some g) (hkid : Kids2 (apart base nv lv) w js cells)
    (hG : Gr (one' R) w w1) (hR : Rd R s rest w1) (hj : JAt (fun b => w.heap.size ≤ b) w1 j v)
    (hVb : ∀ b, b < w1.heap.size → V.heap[b]? = w1.heap[b]?) (hVs : V.heap.size = w1.heap.size + 1) (hGV : Gr (one' R) w V)
    (hgr1 : (V.alloc row1).grownBy X1 nv.ownBlock) (hn1 : X1.ownsRow base 9 1 (.slice (some ⟨g1, 0, none⟩) (ns.length + 1) c1) (ns.length + 1) (ns.map Value.string ++ [.string nm])) (hg1 : nv.ownBlock = some g1 ∨ V.heap.size < g1)
    (hgr2 : ((X1.setCell ⟨P2, 3, none⟩ (.slice (some ⟨g1, 0, none⟩) (ns.length + 1) c1)).drew.alloc row2).grownBy W' lv.ownBlock) (hg2 : lv.ownBlock = some g ∨ X1.heap.size < g)
    (hbh : BehindO P2 g base (.slice (some ⟨g1, 0, none⟩) (ns.length + 1) c1) (.slice (some ⟨g, 0, none⟩) (js.length + 1) c) (js.length + 1) (cells ++ vcells v) W' wx) :
    ORow R P0 PS P1 P2 M base deep (ns ++ [nm]) (js ++ [j]) wx ∧ (∀ b, b < w1.heap.size → b ≠ P2 → nv.ownBlock ≠ some b → lv.ownBlock ≠ some b → wx.heap[b]? = w1.heap[b]?) ∧ Gr (turnedO R P2 M base) w wx ∧ Rd R s rest wx := by
  have hs1 := hG.size
  have szX1 : V.heap.size + 1 ≤ X1.heap.size := by have := hgr1.size; simpa using this
  have rown := hownn.lt
  have row := hown.lt
  have hGX1 : Gr (turnedO R P2 M base) w X1 := by
    have hV' : Gr (turnedO R P2 M base) w V := hGV.mono fun b _ e => .inl e
    exact (hV'.alloc row1).grown hgr1 fun k hk _ => .inr (.inr (.inr (rown k hk).1))
  have hGX := Gr.setCell (S := turnedO R P2 M base) (a := ⟨P2, 3, none⟩) hGX1 (fun _ => .inr (.inr (.inl rfl))) (.slice (some ⟨g1, 0, none⟩) (ns.length + 1) c1)
  have hX : ∀ b, b ≠ P2 → (X1.setCell ⟨P2, 3, none⟩ (.slice (some ⟨g1, 0, none⟩) (ns.length + 1) c1)).heap[b]? = X1.heap[b]? := fun b hne => Below.heap_setCell _ _ _ _ hne
  have szX : (X1.setCell ⟨P2, 3, none⟩ (.slice (some ⟨g1, 0, none⟩) (ns.length + 1) c1)).heap.size = X1.heap.size := by simp
  generalize X1.setCell ⟨P2, 3, none⟩ (.slice (some ⟨g1, 0, none⟩) (ns.length + 1) c1) = X at hgr2 hX szX hGX
  have hXd : X.drew.heap.size = X1.heap.size := szX
  have hg1b : base ≤ g1 := by
    rcases hg1 with h | h
    · exact (rown g1 h).1
    · omega
  have hgb : base ≤ g := by
    rcases hg2 with h | h
    · exact (row g h).1
    · omega
  have hgg : g ≠ g1 := by
    intro e; subst e
    rcases hg1 with h | h
    · rcases hg2 with h' | h'
      · exact hap g h h'
      · have := (rown g h).2; omega
    · rcases hg2 with h' | h'
      · have := (row g h').2; omega
      · have hlt : g < X1.heap.size := (hn1.lt g rfl).2
        omega
  have hV1 : ∀ b, b < V.heap.size → nv.ownBlock ≠ some b → X1.heap[b]? = V.heap[b]? := fun b hlt hne => by
    rw [hgr1.block b (by simp; omega) (fun e => hne e.symm)]
    exact Below.heap_alloc V row1 b hlt
  have hW : ∀ b, b < X1.heap.size → b ≠ P2 → lv.ownBlock ≠ some b → W'.heap[b]? = X1.heap[b]? := fun b hlt hne hno => by
    rw [hgr2.block b (by simp; omega) (fun e => hno e.symm)]
    exact (Below.heap_alloc X.drew row2 b (by omega)).trans (hX b hne)
  have hx : ∀ b, b < w1.heap.size → b ≠ P2 → nv.ownBlock ≠ some b → lv.ownBlock ≠ some b → wx.heap[b]? = w1.heap[b]? := fun b hlt hne hnn hno => by
    have hbg : b ≠ g := by
      rcases hg2 with h | h
      · intro e; subst e; exact hno h
      · omega
    rw [hbh.rest b hbg hne, hW b (by omega) hne hno, hV1 b (by omega) hnn, hVb b hlt]
  have nb : ∀ b, b < base → nv.ownBlock ≠ some b ∧ lv.ownBlock ≠ some b := fun b hlt => ⟨fun e => by have := (rown b e).1; omega, fun e => by have := (row b e).1; omega⟩
  have hGW : Gr (turnedO R P2 M base) w W' := (hGX.drew.alloc row2).grown hgr2 fun k hk _ => .inr (.inr (.inr (row k hk).1))
  have hGwx : Gr (turnedO R P2 M base) w wx := hbh.gr _ _ hGW (fun _ => .inr (.inr (.inr hgb))) (fun _ => .inr (.inr (.inl rfl)))
  have lt : ∀ {b : Nat} {o : Obj}, w.heap[b]? = some o → b < w.heap.size := fun e => (Array.getElem?_eq_some_iff.1 e).1
  have hno1 : lv.ownBlock ≠ some g1 := by
    intro e
    rcases hg1 with h | h
    · exact hap g1 h e
    · have := (row g1 e).2; omega
  have hwx1 : wx.heap[g1]? = X1.heap[g1]? := by
    rw [hbh.rest g1 (Ne.symm hgg) (by omega)]
    exact hW g1 (hn1.lt g1 rfl).2 (by omega) hno1
  refine ⟨⟨?_, ?_, ?_, _, _, _, hbh.p2, ?_, by rw [List.length_append]; exact hbh.own, ?_, ?_⟩, hx, hGwx, ?_⟩
  · exact (hGwx.block P0 (lt hp0) (fun e => by rcases e with e | e | e | e <;> omega)).trans hp0
  · exact (hGwx.block PS (lt hps) (fun e => by rcases e with e | e | e | e <;> omega)).trans hps
  · exact (hGwx.block P1 (lt hp1) (fun e => by rcases e with e | e | e | e <;> omega)).trans hp1
  · rw [List.length_append, List.map_append]
    exact hn1.same fun k hk => by
      have : g1 = k := by simpa [Value.ownBlock] using hk
      rw [← this]; exact hwx1
  · intro g0 hg0 hg0'
    have e1 : g1 = g0 := by simpa [Value.ownBlock] using hg0
    have e2 : g = g0 := by simpa [Value.ownBlock] using hg0'
    omega
  · have hnv : (Value.slice (some ⟨g1, 0, none⟩) (ns.length + 1) c1).ownBlock = some g1 := rfl
    have hlv : (Value.slice (some ⟨g, 0, none⟩) (js.length + 1) c).ownBlock = some g := rfl
    have ap : ∀ b, base ≤ b → b < w1.heap.size → nv.ownBlock ≠ some b → lv.ownBlock ≠ some b → apart base (.slice (some ⟨g1, 0, none⟩) (ns.length + 1) c1) (.slice (some ⟨g, 0, none⟩) (js.length + 1) c) b := fun b hbb hlt e1 e2 => by
      refine ⟨hbb, ?_, ?_⟩
      · rw [hnv]; intro e; injection e with e; subst e
        rcases hg1 with h | h
        · exact e1 h
        · omega
      · rw [hlv]; intro e; injection e with e; subst e
        rcases hg2 with h | h
        · exact e2 h
        · omega
    have szx : w1.heap.size ≤ wx.heap.size :=
      (hbh.gr (fun _ => True) w1 ⟨by rw [hGW.os, hG.os], by rw [hGW.tape, hG.tape], by rw [hGW.output, hG.output], by have := hgr2.size; simp at this; omega, fun b _ hn => absurd trivial hn⟩ (fun _ => trivial) (fun _ => trivial)).size
    refine Kids2.push (hkid.frame (fun b hlt hbb => ap b hbb.1 (by omega) (fun e => hbb.2.1 e.symm) (fun e => hbb.2.2 e.symm)) (fun b hbb hlt => ?_) hGwx.size) (JAt.frame (fun b hlt hbb => ap b (by omega) hlt (fun e => by have := (rown b e).2; omega) (fun e => by have := (row b e).2; omega)) (fun b hbb hlt => ?_) szx _ _ hj)
    · rw [hx b (by omega) (by have := hbb.1; omega) (fun e => hbb.2.1 e.symm) (fun e => hbb.2.2 e.symm)]
      exact hG.block b hlt (fun e => by have := hbb.1; unfold one' at e; omega)
    · exact hx b hlt (by omega) (fun e => by have := (rown b e).2; omega) (fun e => by have := (row b e).2; omega)
  · have hRlt := hR.lt
    exact hR.kept (hx R hRlt (by omega) (nb R (by omega)).1 (nb R (by omega)).2)
end Go.Proofs.YtdooeedemgmpiaaDoor
