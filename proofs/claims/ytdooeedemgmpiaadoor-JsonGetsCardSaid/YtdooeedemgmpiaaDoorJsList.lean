/- The reader's list: what one round of it does. Conditions: those that each theorem names. -/
import Derived.Test.YtdooeedemgmpiaaDoorJsMem
import Derived.Test.YtdooeedemgmpiaaDoorJsText
import Derived.Test.YtdooeedemgmpiaaDoorJsWord
import Derived.Test.YtdooeedemgmpiaaDoorRun
import Derived.Deep.RegionLaw
namespace Go.Proofs.YtdooeedemgmpiaaDoor
set_option linter.unusedVariables false
open Go Go.RowKit Js

def ValP (R : Nat) (s : ByteArray) (x : Js.R J) (w : World) (e : Ending) (w' : World) : Prop :=
  ∃ v j, e = .returned (.tuple #[v, .int .i64 x.err]) ∧ JAt (fun b => w.heap.size ≤ b) w' j v ∧ (∀ j0 r, x = .ok j0 r → j = j0) ∧ Gr (one' R) w w' ∧ Rd R s x.rest w'
/-- What the call value does where so many may still be within one another. -/
def ValueOk (d : Nat) : Prop := ∀ (R : Nat) (s : ByteArray) (l : Bs) (w : World), Rd R s l w → s.size ≤ 16777215 → Gl w → gN ≤ R →
  Calls Tryd.prog 21 #[.pointer (some ⟨R, 0, none⟩), .int .i64 ((33 : Int) - d)] w (ValP R s (value d l) w)
def zero5 : Obj := .cells #[.int .i64 0, .int .i64 0, .string ⟨#[]⟩, .slice none 0 0, .slice none 0 0] 25
theorem infoJson : (Tryd.prog.info? 25).map (fun i => (i.zero, i.size, i.bytes)) = some (some (.agg #[.int .i64 0, .int .i64 0, .string ⟨#[]⟩, .slice none 0 0, .slice none 0 0]), 5, 80) := by kernel_rfl
/-- A row of values gets one element more, still zero. -/
theorem append_five {w : World} {base : Nat} {lv : Value} {n : Nat} {cells : List Value} (hown : w.ownsRow base 25 5 lv n cells) (hn : n ≤ 16777216) (hb : base ≤ w.heap.size) :
    ∃ g c W', (∀ ty, (Builtin.append_ #[23, 23] ty #[lv, .slice (some ⟨w.heap.size, 0, none⟩) 1 1]).run Tryd.prog (w.alloc zero5) = .ok (.slice (some ⟨g, 0, none⟩) (n + 1) c) W') ∧
      W'.ownsRow base 25 5 (.slice (some ⟨g, 0, none⟩) (n + 1) c) (n + 1) (cells ++ [.int .i64 0, .int .i64 0, .string ⟨#[]⟩, .slice none 0 0, .slice none 0 0]) ∧ (w.alloc zero5).grownBy W' lv.ownBlock ∧ (lv.ownBlock = some g ∨ w.heap.size < g) ∧ n < c := by
  obtain ⟨i0, hi, hz0, hz1, hz2⟩ := info_parts infoJson
  have ho : (w.alloc zero5).ownsRow base 25 5 lv n cells := hown.alloc _
  obtain ⟨v', w', hr, h2, h3, h4⟩ := run_append_own_at (P := Tryd.prog) (w := w.alloc zero5) base 23 23 25 i0 _ 5 80 Tryd.underlying23 hi hz0 hz1 hz2 rfl (by decide) lv n cells ho ⟨w.heap.size, 0, none⟩ 1 1 [.int .i64 0, .int .i64 0, .string ⟨#[]⟩, .slice none 0 0, .slice none 0 0] rfl
    (fun j u hj => by
      have hnew : (w.alloc zero5).heap[w.heap.size]? = some zero5 := heap_alloc_new _ _
      have ha : (⟨w.heap.size, 0, none⟩ : Addr).add j = ⟨w.heap.size, j, none⟩ := by unfold Addr.add; split <;> simp_all
      rw [ha, cell_of_row (w.alloc zero5) w.heap.size j _ _ (0, 0) hnew]
      simpa using hj)
    (fun u hu => by simp at hu; rcases hu with rfl | rfl | rfl | rfl <;> rfl) (by unfold maxLen; omega) (by omega) (by simp; omega)
  rcases h2.2 with ⟨_, h0⟩ | ⟨g, cap, cur, rfl, hbg, hg, hnc, hrest⟩
  · omega
  · refine ⟨g, cap, w', fun _ => hr, h2, h3, ?_, by omega⟩
    rcases h4.2 with h5 | h5
    · exact .inl h5.symm
    · right
      have : g = (w.alloc zero5).heap.size := by simpa [Value.ownBlock] using h5
      rw [this]; simp
theorem five_at {w : World} {B : Nat} {a b c d e x0 x1 x2 x3 x4 : Value} {T : TypeId} (h : w.heap[B]? = some (.cells #[a, b, c, d, e] T (0, 0))) : (five w B x0 x1 x2 x3 x4).heap[B]? = some (.cells #[x0, x1, x2, x3, x4] T (0, 0)) := by
  unfold five
  exact heap_setCell_same _ _ _ _ _ _ (heap_setCell_same _ _ _ _ _ _ (heap_setCell_same _ _ _ _ _ _ (heap_setCell_same _ _ _ _ _ _ (heap_setCell_same _ _ _ _ _ _ h))))
structure LSt (R P0 P1 P2 base : Nat) (deep : Int) (js : List J) (w : World) : Prop where
  p0 : w.heap[P0]? = some (.cells #[.pointer (some ⟨R, 0, none⟩)] 42 (0, 0))
  p1 : w.heap[P1]? = some (.cells #[.int .i64 deep] 3 (0, 0))
  row : ∃ lv cells, w.heap[P2]? = some (.cells #[.int .i64 5, .int .i64 0, .string ⟨#[]⟩, .slice none 0 0, lv] 25 (0, 0)) ∧ w.ownsRow base 25 5 lv js.length cells ∧ Kids base w lv js cells
def fiveO (w : World) (g o : Nat) (a b c d e : Value) : World := ((((w.setCell ⟨g, o, none⟩ a).setCell ⟨g, o + 1, none⟩ b).setCell ⟨g, o + 2, none⟩ c).setCell ⟨g, o + 3, none⟩ d).setCell ⟨g, o + 4, none⟩ e
def turned (R P2 base : Nat) : Nat → Prop := fun b => b = R ∨ b = P2 ∨ base ≤ b
/-- What the append of an element comes to, whatever the order. -/
structure Behind (P2 g base : Nat) (lv' : Value) (n1 : Nat) (cells : List Value) (W' wx : World) : Prop where
  own : wx.ownsRow base 25 5 lv' n1 cells
  p2 : wx.heap[P2]? = some (.cells #[.int .i64 5, .int .i64 0, .string ⟨#[]⟩, .slice none 0 0, lv'] 25 (0, 0))
  rest : ∀ b, b ≠ g → b ≠ P2 → wx.heap[b]? = W'.heap[b]?
  gr : ∀ (S : Nat → Prop) (w : World), Gr S w W' → (g < w.heap.size → S g) → (P2 < w.heap.size → S P2) → Gr S w wx
theorem fiveO_block {w : World} {g o b : Nat} (h : b ≠ g) (x0 x1 x2 x3 x4 : Value) : (fiveO w g o x0 x1 x2 x3 x4).heap[b]? = w.heap[b]? := by
  unfold fiveO
  repeat rw [Below.heap_setCell _ _ _ _ h]
theorem Gr.fiveO {S : Nat → Prop} {w w' : World} (h : Gr S w w') {g o : Nat} (hg : g < w.heap.size → S g) (a b c d e : Value) : Gr S w (fiveO w' g o a b c d e) := by
  unfold Go.Proofs.YtdooeedemgmpiaaDoor.fiveO
  exact Gr.setCell (a := ⟨g, o + 4, none⟩) (Gr.setCell (a := ⟨g, o + 3, none⟩) (Gr.setCell (a := ⟨g, o + 2, none⟩) (Gr.setCell (a := ⟨g, o + 1, none⟩) (Gr.setCell (a := ⟨g, o, none⟩) h hg a) hg b) hg c) hg d) hg e
theorem own_five {w : World} {base g n c : Nat} {cells : List Value} {z0 z1 z2 z3 z4 : Value} (h : w.ownsRow base 25 5 (.slice (some ⟨g, 0, none⟩) (n + 1) c) (n + 1) (cells ++ [z0, z1, z2, z3, z4])) (hl : cells.length = n * 5) (a b cc d e : Value) :
    (fiveO w g (n * 5) a b cc d e).ownsRow base 25 5 (.slice (some ⟨g, 0, none⟩) (n + 1) c) (n + 1) (cells ++ [a, b, cc, d, e]) := by
  have h5 := ((((h.stored (n * 5) a).1.stored (n * 5 + 1) b).1.stored (n * 5 + 2) cc).1.stored (n * 5 + 3) d).1.stored (n * 5 + 4) e
  have e1 : (((((cells ++ [z0, z1, z2, z3, z4]).set (n * 5) a).set (n * 5 + 1) b).set (n * 5 + 2) cc).set (n * 5 + 3) d).set (n * 5 + 4) e = cells ++ [a, b, cc, d, e] := by
    rw [← hl]
    simp [List.set_append_right]
  rw [e1] at h5
  exact h5.1
theorem five_behind {W' : World} {base P2 g n c : Nat} {cells : List Value} {z0 z1 z2 z3 z4 y4 : Value} (hg : g ≠ P2) (h : W'.ownsRow base 25 5 (.slice (some ⟨g, 0, none⟩) (n + 1) c) (n + 1) (cells ++ [z0, z1, z2, z3, z4])) (hl : Hid (cells.length = n * 5))
    (hp : W'.heap[P2]? = some (.cells #[.int .i64 5, .int .i64 0, .string ⟨#[]⟩, .slice none 0 0, y4] 25 (0, 0))) {a b cc d e : Value} :
    Behind P2 g base (.slice (some ⟨g, 0, none⟩) (n + 1) c) (n + 1) (cells ++ [a, b, cc, d, e]) W' ((fiveO W' g (n * 5) a b cc d e).setCell ⟨P2, 4, none⟩ (.slice (some ⟨g, 0, none⟩) (n + 1) c)) := by
  refine ⟨(own_five h hl.out a b cc d e).same fun k hk => ?_, ?_, fun b' h1 h2 => ?_, fun S w hG h1 h2 => Gr.setCell (a := ⟨P2, 4, none⟩) (hG.fiveO h1 a b cc d e) h2 _⟩
  · have : g = k := by simpa [Value.ownBlock] using hk
    exact Below.heap_setCell _ _ _ _ (by show k ≠ P2; omega)
  · refine heap_setCell_same _ _ _ _ _ _ ((fiveO_block (Ne.symm hg) _ _ _ _ _).trans hp)
  · rw [Below.heap_setCell _ _ _ _ (show b' ≠ P2 from h2)]
    exact fiveO_block h1 _ _ _ _ _
theorem five_ahead {W' : World} {base P2 g n c : Nat} {cells : List Value} {z0 z1 z2 z3 z4 y4 : Value} (hg : g ≠ P2) (h : W'.ownsRow base 25 5 (.slice (some ⟨g, 0, none⟩) (n + 1) c) (n + 1) (cells ++ [z0, z1, z2, z3, z4])) (hl : Hid (cells.length = n * 5))
    (hp : W'.heap[P2]? = some (.cells #[.int .i64 5, .int .i64 0, .string ⟨#[]⟩, .slice none 0 0, y4] 25 (0, 0))) {a b cc d e : Value} :
    Behind P2 g base (.slice (some ⟨g, 0, none⟩) (n + 1) c) (n + 1) (cells ++ [a, b, cc, d, e]) W' (fiveO (W'.setCell ⟨P2, 4, none⟩ (.slice (some ⟨g, 0, none⟩) (n + 1) c)) g (n * 5) a b cc d e) := by
  have h' : (W'.setCell ⟨P2, 4, none⟩ (.slice (some ⟨g, 0, none⟩) (n + 1) c)).ownsRow base 25 5 (.slice (some ⟨g, 0, none⟩) (n + 1) c) (n + 1) (cells ++ [z0, z1, z2, z3, z4]) := h.same fun k hk => by
    have : g = k := by simpa [Value.ownBlock] using hk
    exact Below.heap_setCell _ _ _ _ (by show k ≠ P2; omega)
  refine ⟨own_five h' hl.out a b cc d e, ?_, fun b' h1 h2 => ?_, fun S w hG h1 h2 => Gr.fiveO (Gr.setCell (a := ⟨P2, 4, none⟩) hG h2 _) h1 a b cc d e⟩
  · rw [fiveO_block (Ne.symm hg)]
    exact heap_setCell_same _ _ _ _ _ _ hp
  · rw [fiveO_block h1]
    exact Below.heap_setCell _ _ _ _ (show b' ≠ P2 from h2)
theorem LSt.push {R P0 P1 P2 base : Nat} {deep : Int} {js : List J} {w w1 V W' wx : World} {p : Option Addr} {c' c g : Nat} {cells : List Value} {s : ByteArray} {rest : Bs} {j : J} {v : Value} {row : Obj} (h0 : R < P0) (h1 : P0 < P1) (h2 : P1 < P2) (h3 : P2 < base) (hb : base ≤ w.heap.size)
    (hp0 : w.heap[P0]? = some (.cells #[.pointer (some ⟨R, 0, none⟩)] 42 (0, 0))) (hp1 : w.heap[P1]? = some (.cells #[.int .i64 deep] 3 (0, 0)))
    (hown : w.ownsRow base 25 5 (.slice p js.length c') js.length cells) (hkid : Kids base w (.slice p js.length c') js cells) (hG : Gr (one' R) w w1) (hR : Rd R s rest w1) (hj : JAt (fun b => w.heap.size ≤ b) w1 j v)
    (hVb : ∀ b, b < w1.heap.size → V.heap[b]? = w1.heap[b]?) (hVs : V.heap.size = w1.heap.size + 1) (hGV : Gr (one' R) w V) (hgr : (V.drew.alloc row).grownBy W' (Value.slice p js.length c').ownBlock) (hgb : (Value.slice p js.length c').ownBlock = some g ∨ V.drew.heap.size < g)
    (hbh : Behind P2 g base (.slice (some ⟨g, 0, none⟩) (js.length + 1) c) (js.length + 1) (cells ++ vcells v) W' wx) : LSt R P0 P1 P2 base deep (js ++ [j]) wx ∧ Gr (turned R P2 base) w wx ∧ Rd R s rest wx := by
  have hs1 := hG.size
  have hVd : V.drew.heap.size = V.heap.size := rfl
  have hgbase : base ≤ g := by
    rcases hgb with h | h
    · exact (hown.lt g h).1
    · omega
  have hrow : ∀ b, (Value.slice p js.length c').ownBlock = some b → base ≤ b ∧ b < w.heap.size := hown.lt
  -- below w1's size nothing but the row has turned
  have hW : ∀ b, b < w1.heap.size → (Value.slice p js.length c').ownBlock ≠ some b → W'.heap[b]? = w1.heap[b]? := fun b hlt hne => by
    rw [hgr.block b (by simp; omega) (fun e => hne e.symm)]
    exact (Below.heap_alloc V.drew row b (by omega)).trans (hVb b hlt)
  have hx : ∀ b, b < w1.heap.size → b ≠ P2 → (Value.slice p js.length c').ownBlock ≠ some b → wx.heap[b]? = w1.heap[b]? := fun b hlt hne hno => by
    have hbg : b ≠ g := by
      rcases hgb with h | h
      · intro e; subst e; exact hno h
      · omega
    rw [hbh.rest b hbg hne, hW b hlt hno]
  have nrow : ∀ b, b < base → (Value.slice p js.length c').ownBlock ≠ some b := fun b hlt e => by have := (hrow b e).1; omega
  have szW : w1.heap.size ≤ W'.heap.size := by have := hgr.size; simp at this; omega
  have hGW : Gr (turned R P2 base) w W' := by
    have hV' : Gr (turned R P2 base) w V := hGV.mono fun b _ e => .inl e
    exact (hV'.drew.alloc row).grown hgr fun k hk _ => .inr (.inr (hrow k hk).1)
  have hGX : Gr (turned R P2 base) w wx := hbh.gr _ _ hGW (fun _ => .inr (.inr hgbase)) (fun _ => .inr (.inl rfl))
  refine ⟨⟨?_, ?_, _, _, hbh.p2, by rw [List.length_append]; exact hbh.own, ?_⟩, hGX, ?_⟩
  · rw [hx P0 (by omega) (by omega) (nrow _ (by omega))]
    exact (hG.block P0 (by omega) (fun e => by unfold one' at e; omega)).trans hp0
  · rw [hx P1 (by omega) (by omega) (nrow _ (by omega))]
    exact (hG.block P1 (by omega) (fun e => by unfold one' at e; omega)).trans hp1
  · have hlv : (Value.slice (some ⟨g, 0, none⟩) (js.length + 1) c).ownBlock = some g := rfl
    refine Kids.push (hkid.frame (lv' := .slice (some ⟨g, 0, none⟩) (js.length + 1) c) (fun b hbb hlt hno => ?_) (fun b hbb hlt hno => ?_) hGX.size) (JAt.frame (fun b hlt hbb => ⟨by omega, ?_⟩) (fun b hbb hlt => ?_) ?_ _ _ hj)
    · rw [hlv]
      intro e
      injection e with e
      subst e
      rcases hgb with h | h
      · exact hno h.symm
      · omega
    · rw [hx b (by omega) (by omega) (fun e => hno e.symm)]
      exact hG.block b hlt (fun e => by unfold one' at e; omega)
    · exact hx b hlt (by omega) (fun e => by have := (hrow b e).2; omega)
    · exact (hbh.gr (fun _ => True) w1 ⟨by rw [hGW.os, hG.os], by rw [hGW.tape, hG.tape], by rw [hGW.output, hG.output], szW, fun b _ hn => absurd trivial hn⟩ (fun _ => trivial) (fun _ => trivial)).size
    · rw [hlv]
      intro e
      injection e with e
      subst e
      rcases hgb with h | h
      · have := (hrow _ h).2; omega
      · omega
  · have hRlt := hR.lt
    have hRw : R < base := by omega
    exact hR.kept (hx R hRlt (by omega) (nrow _ hRw))
def OneP (R P0 P1 P2 base : Nat) (deep : Int) (js : List J) (s : ByteArray) (x : Js.R J) (w : World) (e : Ending) (w' : World) : Prop :=
  ∃ j, e = .returned (.int .i64 x.err) ∧ (∀ j0 r, x = .ok j0 r → j = j0) ∧ LSt R P0 P1 P2 base deep (js ++ [j]) w' ∧ Gr (turned R P2 base) w w' ∧ Rd R s x.rest w'
set_option maxHeartbeats 2000000 in
set_option maxRecDepth 100000 in
theorem list_one (d : Nat) (hv : ValueOk d) (hd : d ≤ 32) (R P0 P1 P2 base : Nat) (js : List J) (s : ByteArray) (l : Bs) (w : World) (hL : LSt R P0 P1 P2 base ((32 : Int) - d) js w) (h : Rd R s l w) (hs : s.size ≤ 16777215) (G : Gl w) (hR : gN ≤ R)
    (h0 : R < P0) (h1 : P0 < P1) (h2 : P1 < P2) (h3 : P2 < base) (hb : base ≤ w.heap.size) (hn : js.length ≤ 16777216) :
    Calls Tryd.prog 47 #[.pointer (some ⟨P0, 0, none⟩), .pointer (some ⟨P1, 0, none⟩), .pointer (some ⟨P2, 0, none⟩)] w (OneP R P0 P1 P2 base ((32 : Int) - d) js s (value d l) w) := by
  have HV := Lib.hid (hv R s l w h hs G hR)
  have c0 : w.cell? ⟨P0, 0, none⟩ = some (.pointer (some ⟨R, 0, none⟩)) := by simp [World.cell?, hL.p0]
  have c1 : w.cell? ⟨P1, 0, none⟩ = some (.int .i64 ((32 : Int) - d)) := by simp [World.cell?, hL.p1]
  have e33 : (32 : Int) - d + 1 = 33 - d := by omega
  rw [← e33] at HV
  have H := Lib.hid h
  have HL := Lib.hid hL
  clear h hL G hR e33 hv
  go_enter Tryd.func47, Tryd.ntmps47
  go_wp2_with fail
  refine HV.out.mono ?_
  rintro e w1 ⟨v, j, rfl, hj, hx, hg, hr⟩
  obtain ⟨np, nc, lp, lc, hvv, _⟩ := hj.five
  generalize j.kind = vk at hvv
  generalize j.num = vn at hvv
  generalize j.text = vt at hvv
  generalize j.names.length = nl at hvv
  generalize j.list.length = ll at hvv
  subst hvv
  have HJ := Lib.hid hj
  have HX := Lib.hid hx
  have HG := Lib.hid hg
  have HR := Lib.hid hr
  clear hj hx hg hr
  have hV : ∃ V, V = w1.alloc (.cells #[.int .i64 vk, .int .i64 vn, .string vt, .slice np nl nc, .slice lp ll lc] 25) := ⟨_, rfl⟩
  obtain ⟨V, hV⟩ := hV
  have hVb : ∀ b, b < w1.heap.size → V.heap[b]? = w1.heap[b]? := fun b hlt => by rw [hV]; exact Below.heap_alloc _ _ _ hlt
  have hVs : V.heap.size = w1.heap.size + 1 := by rw [hV]; simp
  have hVn : V.heap[w1.heap.size]? = some (.cells #[.int .i64 vk, .int .i64 vn, .string vt, .slice np nl nc, .slice lp ll lc] 25 (0, 0)) := by
    rw [hV]; exact heap_alloc_new _ _
  have hGV : Gr (one' R) w V := by rw [hV]; exact HG.out.alloc _
  have hs1 := HG.out.size
  obtain ⟨hp0, hp1, lv, cells, hp2, hown, hkid⟩ := HL.out
  have blk : ∀ b, b < w.heap.size → b ≠ R → V.heap[b]? = w.heap[b]? := fun b hlt hne => hGV.block b hlt hne
  have q2 := (blk P2 (by omega) (by omega)).trans hp2
  have hownV : V.drew.ownsRow base 25 5 lv js.length cells := hown.same (fun g hg => by have := hown.lt g hg; exact blk g this.2 (by omega))
  obtain ⟨g, c, W', happ, ho', hgr', hgb, hnc⟩ := append_five hownV hn (by show base ≤ V.heap.size; omega)
  have v0 : V.cell? ⟨P2, 4, none⟩ = some lv := by simp [World.cell?, q2]
  obtain ⟨p, c', hlv⟩ : ∃ p c', lv = .slice p js.length c' := by
    rcases hown.2 with ⟨rfl, h0⟩ | ⟨g, cap, cur, rfl, _⟩
    · exact ⟨_, _, by rw [h0]⟩
    · exact ⟨_, _, rfl⟩
  subst hlv
  have a0 : V.cell? ⟨w1.heap.size, 0, none⟩ = some (.int .i64 vk) := by simp [World.cell?, hVn]
  have a1 : V.cell? ⟨w1.heap.size, 1, none⟩ = some (.int .i64 vn) := by simp [World.cell?, hVn]
  have a2 : V.cell? ⟨w1.heap.size, 2, none⟩ = some (.string vt) := by simp [World.cell?, hVn]
  have a3 : V.cell? ⟨w1.heap.size, 3, none⟩ = some (.slice np nl nc) := by simp [World.cell?, hVn]
  have a4 : V.cell? ⟨w1.heap.size, 4, none⟩ = some (.slice lp ll lc) := by simp [World.cell?, hVn]
  have hltP : P2 < V.heap.size := by omega
  have hltV : w1.heap.size < V.heap.size := by omega
  have keepc : ∀ (o : Obj) (b i : Nat) (u : Value), b < V.heap.size → V.cell? ⟨b, i, none⟩ = some u → (V.alloc o).cell? ⟨b, i, none⟩ = some u := fun o b i u hlt hc => by
    rw [← hc]; exact World.cell?_of_block (w := V) (a := ⟨b, i, none⟩) (Below.heap_alloc V o b hlt)
  have HV2 := Lib.hid hV
  have HVB := Lib.hid hVb
  have HVS := Lib.hid hVs
  have HGV := Lib.hid hGV
  have HP0 := Lib.hid hp0
  have HP1 := Lib.hid hp1
  have HKID := Lib.hid hkid
  have HOWN := Lib.hid hown
  have HP2 := Lib.hid hp2
  have HO := Lib.hid ho'
  have HGR := Lib.hid hgr'
  have HGB := Lib.hid hgb
  have HBLK := Lib.hid blk
  have HQ2 := Lib.hid q2
  have hjn : (js.length : Int) ≤ 16777216 := by omega
  have hnc' : (js.length : Int) < c := by omega
  have hcx : c ≤ maxLen := by
    rcases HO.out.2 with ⟨hx, _⟩ | ⟨_, _, _, hx, _, _, _, hx2, _⟩
    · cases hx
    · injection hx with _ _ hx3; rw [hx3]; exact hx2
  have b0 : ∀ o, (V.alloc o).cell? ⟨P2, 4, none⟩ = some (.slice p js.length c') := fun o => keepc o _ _ _ hltP v0
  have b1 : ∀ o, (V.alloc o).cell? ⟨w1.heap.size, 0, none⟩ = some (.int .i64 vk) := fun o => keepc o _ _ _ hltV a0
  have b2 : ∀ o, (V.alloc o).cell? ⟨w1.heap.size, 1, none⟩ = some (.int .i64 vn) := fun o => keepc o _ _ _ hltV a1
  have b3 : ∀ o, (V.alloc o).cell? ⟨w1.heap.size, 2, none⟩ = some (.string vt) := fun o => keepc o _ _ _ hltV a2
  have b4 : ∀ o, (V.alloc o).cell? ⟨w1.heap.size, 3, none⟩ = some (.slice np nl nc) := fun o => keepc o _ _ _ hltV a3
  have b5 : ∀ o, (V.alloc o).cell? ⟨w1.heap.size, 4, none⟩ = some (.slice lp ll lc) := fun o => keepc o _ _ _ hltV a4
  -- cells behind the append
  have hgP : g ≠ P2 := by
    rcases HGB.out with h | h
    · have := (HOWN.out.lt g h).1; omega
    · have : V.drew.heap.size = V.heap.size := rfl; omega
  have hW2 : W'.heap[P2]? = V.heap[P2]? := by
    have e1 : (V.drew.alloc zero5).heap[P2]? = V.heap[P2]? := Below.heap_alloc V.drew zero5 P2 hltP
    rw [HGR.out.block P2 (by simp; omega) (fun e => by have := (HOWN.out.lt P2 e.symm).1; omega), e1]
  have hW4 : W'.heap[P2]? = some (.cells #[.int .i64 5, .int .i64 0, .string ⟨#[]⟩, .slice none 0 0, .slice p js.length c'] 25 (0, 0)) := hW2.trans q2
  have f4 : W'.frozen? ⟨P2, 4, none⟩ = false := by simp [World.frozen?, hW4]
  have d4 : W'.cell? ⟨P2, 4, none⟩ = some (.slice p js.length c') := by simp [World.cell?, hW4]
  have hW5 : W'.heap[w1.heap.size]? = some (.cells #[.int .i64 vk, .int .i64 vn, .string vt, .slice np nl nc, .slice lp ll lc] 25 (0, 0)) := by
    have e1 : (V.drew.alloc zero5).heap[w1.heap.size]? = V.heap[w1.heap.size]? := Below.heap_alloc V.drew zero5 _ hltV
    rw [HGR.out.block _ (by simp; omega) (fun e => by have := (HOWN.out.lt _ e.symm).2; omega), e1]
    exact hVn
  have u0 : W'.cell? ⟨w1.heap.size, 0, none⟩ = some (.int .i64 vk) := by simp [World.cell?, hW5]
  have u1 : W'.cell? ⟨w1.heap.size, 1, none⟩ = some (.int .i64 vn) := by simp [World.cell?, hW5]
  have u2 : W'.cell? ⟨w1.heap.size, 2, none⟩ = some (.string vt) := by simp [World.cell?, hW5]
  have u3 : W'.cell? ⟨w1.heap.size, 3, none⟩ = some (.slice np nl nc) := by simp [World.cell?, hW5]
  have u4 : W'.cell? ⟨w1.heap.size, 4, none⟩ = some (.slice lp ll lc) := by simp [World.cell?, hW5]
  have hlc : cells.length = js.length * 5 := HOWN.out.1
  have g0 : W'.cell? ⟨g, js.length * 5, none⟩ = some (.int .i64 0) := by rw [HO.out.cellAt _ (by omega)]; simp [hlc]
  have g1 : W'.cell? ⟨g, js.length * 5 + 1, none⟩ = some (.int .i64 0) := by rw [HO.out.cellAt _ (by omega)]; rw [List.getElem?_append_right (by omega)]; simp [hlc]
  have g2 : W'.cell? ⟨g, js.length * 5 + 2, none⟩ = some (.string ⟨#[]⟩) := by rw [HO.out.cellAt _ (by omega)]; rw [List.getElem?_append_right (by omega)]; simp [hlc]
  have g3 : W'.cell? ⟨g, js.length * 5 + 3, none⟩ = some (.slice none 0 0) := by rw [HO.out.cellAt _ (by omega)]; rw [List.getElem?_append_right (by omega)]; simp [hlc]
  have g4 : W'.cell? ⟨g, js.length * 5 + 4, none⟩ = some (.slice none 0 0) := by rw [HO.out.cellAt _ (by omega)]; rw [List.getElem?_append_right (by omega)]; simp [hlc]
  have k0 := HO.out.frozenAt (js.length * 5)
  have k1 := HO.out.frozenAt (js.length * 5 + 1)
  have k2 := HO.out.frozenAt (js.length * 5 + 2)
  have k3 := HO.out.frozenAt (js.length * 5 + 3)
  have k4 := HO.out.frozenAt (js.length * 5 + 4)
  have HLC := Lib.hid hlc
  have HHS := Lib.hid hs1
  have HO1 : Hid (W'.ownsRow base 25 5 (.slice (some ⟨g, 0, none⟩) (js.length + 1) c) (js.length + 1) (cells ++ [.int .i64 0, .int .i64 0, .string ⟨#[]⟩, .slice none 0 0, .slice none 0 0])) := HO
  have HW4 := Lib.hid hW4
  have hlc1 := Lib.hid hlc
  have HFIN : Hid (∀ wx, Behind P2 g base (.slice (some ⟨g, 0, none⟩) (js.length + 1) c) (js.length + 1) (cells ++ [.int .i64 vk, .int .i64 vn, .string vt, .slice np nl nc, .slice lp ll lc]) W' wx → LSt R P0 P1 P2 base ((32 : Int) - d) (js ++ [j]) wx ∧ Gr (turned R P2 base) w wx ∧ Rd R s (value d l).rest wx) :=
    Lib.hid fun wx hbh => LSt.push h0 h1 h2 h3 hb HP0.out HP1.out HOWN.out HKID.out HG.out HR.out HJ.out HVB.out HVS.out hGV HGR.out HGB.out hbh
  have HA2 := Lib.hid (HFIN.out _ (five_behind (a := .int .i64 vk) (b := .int .i64 vn) (cc := .string vt) (d := .slice np nl nc) (e := .slice lp ll lc) hgP HO1.out hlc1 HW4.out))
  have HB2 := Lib.hid (HFIN.out _ (five_ahead (a := .int .i64 vk) (b := .int .i64 vn) (cc := .string vt) (d := .slice np nl nc) (e := .slice lp ll lc) hgP HO1.out hlc1 HW4.out))
  unfold fiveO at HA2 HB2
  clear hV hVb hVs hVn hGV hp0 hp1 hkid hown hp2 ho' hgr' hgb blk q2 hs1 keepc hW2 hW4 hW5 hlc hownV
  unfold zero5 at happ
  have happ' : ∀ ty, (Builtin.append_ #[23, 23] ty #[.slice p js.length c', .slice (some ⟨V.heap.size, 0, none⟩) 1 1]).run Tryd.prog (V.alloc (.cells #[.int .i64 0, .int .i64 0, .string ⟨#[]⟩, .slice none 0 0, .slice none 0 0] 25)).drew = .ok (.slice (some ⟨g, 0, none⟩) (js.length + 1) c) W' := happ
  clear happ
  have hn0 : (0 : Int) ≤ (js.length : Int) := by omega
  have hn1 : (js.length : Int) < ((js.length + 1 : Nat) : Int) := by omega
  generalize hN1 : js.length + 1 = n1 at happ' HO hn1
  have HN1 := Lib.hid hN1
  clear hN1
  go_wp2_with fail
  rw [← HV2.out]
  go_cut [] (fun wx => LSt R P0 P1 P2 base ((32 : Int) - d) (js ++ [j]) wx ∧ Gr (turned R P2 base) w wx ∧ Rd R s (value d l).rest wx)
  case first =>
    go_region_law (refine step_append_run (by rfl) _ _ _ _ (by rfl) _ _ (.slice (some ⟨g, 0, none⟩) n1 c) W' (by rfl) (by rfl) happ' ?_)
    all_goals (have hx1 := HN1.out; subst hx1)
    all_goals go_wp2_with fail
    all_goals go_meet
    all_goals first | with_reducible exact HA2.out | with_reducible exact HB2.out
  case rest =>
    obtain ⟨hl, hgg, hrr⟩ := hcut
    have HX2 := HX
    clear hgP
    go_wp2_with fail
    go_ret
    exact ⟨j, rfl, HX.out, hl, hgg, hrr⟩
end Go.Proofs.YtdooeedemgmpiaaDoor
