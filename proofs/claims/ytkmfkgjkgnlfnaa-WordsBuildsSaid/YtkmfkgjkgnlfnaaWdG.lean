/- An index's groups in memory: a map of rows of ids, one id put to its value's row; the ids' rows by their values, plain. Conditions: those that each theorem names. -/
import Derived.Test.YtkmfkgjkgnlfnaaWdP
import Derived.Test.YtkmfkgjkgnlfnaaMpE
namespace Go.Proofs.Ytkmfkgjkgnlfnaa
set_option linter.unusedVariables false
namespace Wd
open Go Go.RowKit Go.Shelf Go.Sort Go.Maps Pq Pq.Pl Rk Ids
open Go.ChangeMaps (setBlock)
/-! ### Rows of ids -/
def encI (n : Int) : List Value := [.int .i64 n]
theorem flatI : Flat Try.prog encI 1 3 37 8 where
  under := Try.underlying37
  info := info_of (z := .int .i64 0) (by kernel_rfl) rfl
  pos := by decide
  len _ := rfl
  one x u hu := by simp [encI] at hu; subst hu; rfl
theorem rowC_ints (L : List Int) : rowC encI L = ints L := by
  induction L with
  | nil => rfl
  | cons x r ih => rw [rowC_cons, ih]; rfl
theorem own_int {w : World} {base : Nat} {v : Value} {L : List Int} : Go.Proofs.Ytkmfkgjkgnlfnaa.Own w base v L ↔ Rk.Own encI 1 3 w base v L := by
  unfold Go.Proofs.Ytkmfkgjkgnlfnaa.Own Rk.Own
  rw [rowC_ints]
abbrev OwnI (w : World) (base : Nat) (v : Value) (L : List Int) : Prop := Rk.Own encI 1 3 w base v L
/-! ### Groups -/
/-- A value, the header of its ids' row, its ids. -/
structure Gm where
  v : Val
  s : Sl
  l : List Int
def gpOf (G : List Gm) : Gp Val := G.map fun x => (x.v, x.l)
/-- Block M is a map from values to rows of ids, each row in a block of its own. -/
structure GrpAt (w : World) (base M : Nat) (G : List Gm) : Prop where
  map : Mp Try.prog 24 w M (fun y u => ∃ x ∈ G, y = vv x.v ∧ u = slv x.s) G.length
  rows : ∀ x ∈ G, OwnI w base (slv x.s) x.l ∧ x.l ≠ []
  apart : G.Pairwise fun a b => (slv a.s).ownBlock ≠ (slv b.s).ownBlock
  keys : ((gpOf G).map Prod.fst).Nodup
section
variable {w w' : World} {base M : Nat} {G : List Gm}
theorem GrpAt.ltM (h : GrpAt w base M G) : M < w.heap.size := h.map.lt
theorem GrpAt.block (h : GrpAt w base M G) {x : Gm} (hx : x ∈ G) : ∃ g, (slv x.s).ownBlock = some g ∧ base ≤ g ∧ g < w.heap.size ∧ g ≠ M := by
  obtain ⟨h1, h2⟩ := h.rows x hx
  obtain ⟨g, cap, e, hb, hg⟩ := Rk.own_form h1 (List.length_pos_iff.2 h2)
  refine ⟨g, by rw [e]; rfl, hb, hg, fun e2 => ?_⟩
  subst e2
  rcases h1.2 with ⟨e3, _⟩ | ⟨g', cap', cur, e3, _, hc, _⟩
  · rw [e3] at e; cases e
  · rw [e3] at e
    injection e with e4
    injection e4 with e4
    injection e4 with e4
    subst e4
    obtain ⟨es, clock, hm, _⟩ := h.map
    rw [hm] at hc
    cases hc
theorem GrpAt.kept (h : GrpAt w base M G) (hM : w'.heap[M]? = w.heap[M]?) (hr : ∀ x ∈ G, ∀ g, (slv x.s).ownBlock = some g → w'.heap[g]? = w.heap[g]?) : GrpAt w' base M G where
  map := h.map.kept hM
  rows x hx := ⟨own_keep (h.rows x hx).1 fun g hg _ => hr x hx g hg, (h.rows x hx).2⟩
  apart := h.apart
  keys := h.keys
theorem GrpAt.below (h : GrpAt w base M G) (g : Below w.heap.size w w') : GrpAt w' base M G :=
  h.kept (g.block M h.ltM) fun x hx k hk => by
    obtain ⟨k', e, _, h2, _⟩ := h.block hx
    rw [hk] at e
    injection e with e
    subst e
    exact g.block k h2
theorem grp_made (w : World) (base : Nat) : GrpAt (w.alloc (.map #[] 0)) base w.heap.size [] where
  map := (Mp.made w 24).congr fun y u => by simp
  rows x hx := by cases hx
  apart := List.Pairwise.nil
  keys := List.nodup_nil
/-- One id more under its value. -/
def putM (v : Val) (s : Sl) (i : Int) : List Gm → List Gm
  | [] => [⟨v, s, [i]⟩]
  | x :: r => if x.v = v then ⟨x.v, s, x.l ++ [i]⟩ :: r else x :: putM v s i r
theorem gp_putM (v : Val) (s : Sl) (i : Int) : ∀ G, gpOf (putM v s i G) = putG v i (gpOf G)
  | [] => rfl
  | x :: r => by
    unfold putM gpOf putG
    simp only [List.map_cons]
    by_cases h : x.v = v
    · simp [h]
    · rw [if_neg h, if_neg h, List.map_cons]
      exact congrArg _ (gp_putM v s i r)
theorem putM_new {v : Val} {s : Sl} {i : Int} : ∀ {G : List Gm}, v ∉ (gpOf G).map Prod.fst → putM v s i G = G ++ [⟨v, s, [i]⟩]
  | [], _ => rfl
  | x :: r, h => by
    have h' : v ≠ x.v ∧ v ∉ (gpOf r).map Prod.fst := by simpa [gpOf, not_or] using h
    unfold putM
    rw [if_neg fun e => h'.1 e.symm, putM_new h'.2]
    rfl
theorem putM_old {v : Val} {s : Sl} {i : Int} : ∀ {G : List Gm} {x : Gm}, ((gpOf G).map Prod.fst).Nodup → x ∈ G → x.v = v → ∃ A B, G = A ++ x :: B ∧ putM v s i G = A ++ ⟨v, s, x.l ++ [i]⟩ :: B ∧ ∀ y ∈ A ++ B, y.v ≠ v
  | y :: r, x, hn, hx, e => by
    have hn' : y.v ∉ (gpOf r).map Prod.fst ∧ ((gpOf r).map Prod.fst).Nodup := by simpa [gpOf] using hn
    by_cases h : y.v = v
    · have hxy : x = y := by
        rcases List.mem_cons.1 hx with q | q
        · exact q
        · exact absurd (by rw [h, ← e]; exact List.mem_map.2 ⟨_, List.mem_map.2 ⟨x, q, rfl⟩, rfl⟩) hn'.1
      subst hxy
      refine ⟨[], r, rfl, by unfold putM; rw [if_pos h, h]; rfl, fun z hz e2 => hn'.1 ?_⟩
      rw [h, ← e2]
      exact List.mem_map.2 ⟨_, List.mem_map.2 ⟨z, by simpa using hz, rfl⟩, rfl⟩
    · have hx' : x ∈ r := by
        rcases List.mem_cons.1 hx with q | q
        · exact absurd (by rw [← q]; exact e) h
        · exact q
      obtain ⟨A, B, h1, h2, h3⟩ := putM_old (s := s) (i := i) hn'.2 hx' e
      refine ⟨y :: A, B, by rw [h1]; rfl, by unfold putM; rw [if_neg h, h2]; rfl, fun z hz => ?_⟩
      rcases List.mem_cons.1 hz with q | q
      · rw [q]; exact h
      · exact h3 z q
/-- Of the map's map: what a lookup tells. -/
theorem zero_ints (w : World) : (zeroValue 37).run Try.prog w = .ok (.slice none 0 0) w := Try.zeroValue37 w
theorem grp_look (h : GrpAt w base M G) (v : Val) (hv : OkV v) (W : World) (hW : W.heap[M]? = w.heap[M]?) :
    (∃ x ∈ G, x.v = v ∧ (Instr.lookup 57 (.map (some M)) (vv v) false).run Try.prog W = .ok (slv x.s) W) ∨
    (v ∉ (gpOf G).map Prod.fst ∧ (Instr.lookup 57 (.map (some M)) (vv v) false).run Try.prog W = .ok (.slice none 0 0) W) := by
  have hm := h.map.kept hW
  by_cases hx : ∃ x ∈ G, x.v = v
  · obtain ⟨x, hx, e⟩ := hx
    exact .inl ⟨x, hx, e, hm.look val_keyed Try.underlying57 (z := .slice none 0 0) zero_ints (x := vv v) (v := slv x.s) ⟨x, hx, by rw [e], rfl⟩ false W rfl⟩
  · obtain ⟨l, hl⟩ := key_val v hv
    refine .inr ⟨fun hm2 => ?_, hm.miss val_keyed Try.underlying57 (z := .slice none 0 0) zero_ints hl (fun u ⟨x, hx', e, _⟩ => hx ⟨x, hx', (vv_inj e).symm⟩) false W rfl⟩
    obtain ⟨q, hq, e⟩ := List.mem_map.1 hm2
    obtain ⟨x, hx', rfl⟩ := List.mem_map.1 hq
    exact hx ⟨x, hx', e⟩
theorem setBlock_below {B : Nat} {w0 w : World} {b : Nat} (h : Below B w0 w) (hb : B ≤ b) (o : Obj) : Below B w0 (setBlock w b o) :=
  ⟨h.os, h.tape, h.output, by rw [setBlock_size]; exact h.size, fun i hi => by rw [setBlock_ne o (by omega)]; exact h.block i hi⟩
/-- 'm[v] = append(m[v], id)': all its steps. W: the world in which the id lies in a block of its own. -/
theorem grp_put (h : GrpAt w base M G) (v : Val) (hv : OkV v) (i : Int) {W : World} {g0 : Nat} (hB : Below w.heap.size w W) (hg0 : w.heap.size ≤ g0) (hi : W.heap[g0]? = some (.cells #[.int .i64 i] 3 (0, 0)))
    {bb : Nat} (hbr : bb ≤ base) (hbm : bb ≤ M) (hrw : base ≤ w.heap.size) (hn : G.length < maxLen) (hl : ∀ x ∈ G, (x.l.length + 1) * 8 ≤ 140737488355328) :
    ∃ (u : Sl) (o1 : Obj) (st : Int) (s : Sl) (W5 : World) (o2 : Obj),
      (Instr.mapEntry 57 (.map (some M)) (vv v)).run Try.prog W = .ok (.tuple #[slv u, .int .i64 st]) (setBlock W M o1) ∧
      (∀ ty, (Builtin.append_ #[37, 37] ty #[slv u, .slice (some ⟨g0, 0, none⟩) 1 1]).run Try.prog (setBlock W M o1) = .ok (slv s) W5) ∧
      (Instr.entryStore 57 (.map (some M)) (.int .i64 st) (slv s)).run Try.prog W5 = .ok () (setBlock W5 M o2) ∧
      GrpAt (setBlock W5 M o2) base M (putM v s i G) ∧ Below bb w (setBlock W5 M o2) ∧ w.heap.size ≤ (setBlock W5 M o2).heap.size ∧ ∀ b, b < base → b ≠ M → (setBlock W5 M o2).heap[b]? = w.heap[b]? := by
  have hM := h.ltM
  have hMW : W.heap[M]? = w.heap[M]? := hB.block M hM
  have hMlt : M < W.heap.size := Nat.lt_of_lt_of_le hM hB.size
  have hg0W := lt_of_block hi
  -- what holds of both cases
  have both : ∀ (u : Sl) (A : List Int) (o1 : Obj), OwnI (setBlock W M o1) base (slv u) A → (∀ g, (slv u).ownBlock = some g → g < w.heap.size ∧ g ≠ M) → (A.length + 1) * 8 ≤ 140737488355328 →
      ∃ (s : Sl) (W5 : World), (∀ ty, (Builtin.append_ #[37, 37] ty #[slv u, .slice (some ⟨g0, 0, none⟩) 1 1]).run Try.prog (setBlock W M o1) = .ok (slv s) W5) ∧ OwnI W5 base (slv s) (A ++ [i]) ∧ (setBlock W M o1).grownBy W5 (slv u).ownBlock ∧
        ((slv s).ownBlock = (slv u).ownBlock ∨ (slv s).ownBlock = some W.heap.size) ∧ W5.heap[M]? = some o1 ∧ (∀ o2, Below bb w (setBlock W5 M o2) ∧ w.heap.size ≤ (setBlock W5 M o2).heap.size ∧ ∀ b, b < base → b ≠ M → (setBlock W5 M o2).heap[b]? = w.heap[b]?) := by
    intro u A o1 ho hu hl
    have hi1 : (setBlock W M o1).heap[g0]? = some (.cells (encI i).toArray 3 (0, 0)) := by rw [setBlock_ne o1 (show g0 ≠ M by omega)]; exact hi
    obtain ⟨v', W5, hr, h1, h2, h3, g', cap, e, _, _⟩ := append_el flatI ho hi1 hl (by unfold maxLen; omega) (by rw [setBlock_size]; have := hB.size; omega)
    have hs : v' = slv ⟨some ⟨g', 0, none⟩, A.length + 1, cap⟩ := e
    subst hs
    have hsz := h2.size
    rw [setBlock_size] at hsz h3
    have hne : some M ≠ (slv u).ownBlock := fun e => (hu M e.symm).2 rfl
    have hM5 : W5.heap[M]? = some o1 := (h2.block M (by rw [setBlock_size]; exact hMlt) hne).trans (setBlock_at o1 hMlt)
    refine ⟨_, W5, hr, h1, h2, h3, hM5, fun o2 => ⟨?_, by rw [setBlock_size]; have := hB.size; omega, fun j hj hjM => ?_⟩⟩
    · have b1 : Below bb w (setBlock W M o1) := setBlock_below (hB.mono (by omega)) hbm o1
      have b2 : Below bb w W5 := b1.grown h2 (by rw [setBlock_size]; have := hB.size; omega) (fun j hj => Nat.le_trans hbr (ho.lt j hj).1)
      exact setBlock_below b2 hbm o2
    · rw [setBlock_ne o2 hjM, h2.block j (by rw [setBlock_size]; have := hB.size; omega) (fun e => by have := (ho.lt j e.symm).1; omega), setBlock_ne o1 hjM]
      exact hB.block j (by omega)
  by_cases hx : ∃ x ∈ G, x.v = v
  · obtain ⟨x, hx, e⟩ := hx
    obtain ⟨o1, st, he, hst⟩ := h.map.entry_old val_keyed Try.underlying57 (x := vv v) (u0 := slv x.s) ⟨x, hx, by rw [e], rfl⟩
    obtain ⟨gx, hgx, hgb, hgl, hgM⟩ := h.block hx
    have hx1 : OwnI (setBlock W M o1) base (slv x.s) x.l := own_keep (h.rows x hx).1 fun g hg hgl => by
      rw [hgx] at hg
      injection hg with hg
      subst hg
      rw [setBlock_ne o1 hgM]
      exact hB.block gx hgl
    obtain ⟨s, W5, hr, ho, hgw, hloc, hM5, hbel⟩ := both x.s x.l o1 hx1 (fun g hg => by rw [hgx] at hg; injection hg with hg; subst hg; exact ⟨hgl, hgM⟩) (hl x hx)
    obtain ⟨o2, hs, hs2⟩ := hst (slv s)
    have hM5l : M < W5.heap.size := lt_of_block hM5
    obtain ⟨A, B, e1, e2, e3⟩ := putM_old (s := s) (i := i) h.keys hx e
    have gM : ∀ g, (slv s).ownBlock = some g → g ≠ M ∧ g < W5.heap.size := fun g hg => by
      refine ⟨fun e4 => ?_, (ho.lt g hg).2⟩
      rcases hloc with q | q
      · rw [q, hgx] at hg; injection hg with hg; exact hgM (by omega)
      · rw [q] at hg; injection hg with hg; omega
    -- the other rows
    have others : ∀ y ∈ A ++ B, OwnI (setBlock W5 M o2) base (slv y.s) y.l ∧ y.l ≠ [] ∧ (slv y.s).ownBlock ≠ (slv s).ownBlock := by
      intro y hy
      have hyG : y ∈ G := by rw [e1]; simp at hy ⊢; rcases hy with q | q <;> simp [q]
      obtain ⟨gy, hgy, _, hgyl, hgyM⟩ := h.block hyG
      have hne : gy ≠ gx := by
        have hp := h.apart
        rw [e1, List.pairwise_append, List.pairwise_cons] at hp
        obtain ⟨_, ⟨hp1, _⟩, hp2⟩ := hp
        intro e4
        rcases List.mem_append.1 hy with q | q
        · exact hp2 y q x (by simp) (by rw [hgy, hgx, e4])
        · exact hp1 y q (by rw [hgy, hgx, e4])
      refine ⟨own_keep (h.rows y hyG).1 fun g hg hgl' => ?_, (h.rows y hyG).2, fun e4 => ?_⟩
      · rw [hgy] at hg
        injection hg with hg
        subst hg
        have k3 : W5.heap[gy]? = (setBlock W M o1).heap[gy]? := hgw.block gy (by rw [setBlock_size]; have := hB.size; omega) (by rw [hgx]; simp; exact hne)
        rw [setBlock_ne o2 hgyM, k3, setBlock_ne o1 hgyM]
        exact hB.block gy hgl'
      · rw [hgy] at e4
        rcases hloc with q | q
        · rw [q, hgx] at e4; injection e4 with e4; exact hne e4
        · rw [q] at e4; injection e4 with e4; have := hB.size; omega
    have own5 : OwnI (setBlock W5 M o2) base (slv s) (x.l ++ [i]) := own_keep ho fun g hg _ => by rw [setBlock_ne o2 (gM g hg).1]
    refine ⟨x.s, o1, st, s, W5, o2, he W hMW, hr, hs W5 hM5, ?_, hbel o2⟩
    have hgp : gpOf (putM v s i G) = putG v i (gpOf G) := gp_putM v s i G
    have hk := keys_putG v i (gpOf G)
    have hin : v ∈ (gpOf G).map Prod.fst := List.mem_map.2 ⟨(x.v, x.l), List.mem_map.2 ⟨x, hx, rfl⟩, e⟩
    rw [if_pos hin] at hk
    refine ⟨?_, fun y hy => ?_, ?_, by rw [hgp, hk]; exact h.keys⟩
    · have hlen : (putM v s i G).length = G.length := by rw [e2, e1]; simp
      rw [hlen]
      refine (hs2 _ (setBlock_at o2 hM5l)).congr fun y u => ?_
      rw [e2, e1]
      constructor
      · rintro (⟨rfl, rfl⟩ | ⟨hne, z, hz, rfl, rfl⟩)
        · exact ⟨⟨v, s, x.l ++ [i]⟩, by simp, rfl, rfl⟩
        · refine ⟨z, ?_, rfl, rfl⟩
          simp only [List.mem_append, List.mem_cons] at hz ⊢
          rcases hz with q | q | q
          · exact .inl q
          · subst q; exact absurd (by rw [e]) hne
          · exact .inr (.inr q)
      · rintro ⟨z, hz, rfl, rfl⟩
        simp only [List.mem_append, List.mem_cons] at hz
        rcases hz with q | q | q
        · exact .inr ⟨fun e4 => e3 z (by simp [q]) (vv_inj e4), z, by simp [q], rfl, rfl⟩
        · subst q; exact .inl ⟨rfl, rfl⟩
        · exact .inr ⟨fun e4 => e3 z (by simp [q]) (vv_inj e4), z, by simp [q], rfl, rfl⟩
    · rw [e2] at hy
      simp only [List.mem_append, List.mem_cons] at hy
      rcases hy with q | q | q
      · exact ⟨(others y (by simp [q])).1, (others y (by simp [q])).2.1⟩
      · subst q; exact ⟨own5, by simp⟩
      · exact ⟨(others y (by simp [q])).1, (others y (by simp [q])).2.1⟩
    · have hp := h.apart
      rw [e1, List.pairwise_append, List.pairwise_cons] at hp
      obtain ⟨p1, ⟨p2, p3⟩, p4⟩ := hp
      rw [e2, List.pairwise_append, List.pairwise_cons]
      refine ⟨p1, ⟨fun y hy e4 => (others y (by simp [hy])).2.2 e4.symm, p3⟩, fun a ha c hc => ?_⟩
      rcases List.mem_cons.1 hc with q | q
      · subst q; exact (others a (by simp [ha])).2.2
      · exact p4 a ha c (by simp [q])
  · obtain ⟨l, hlk⟩ := key_val v hv
    have hno : v ∉ (gpOf G).map Prod.fst := fun hm2 => by
      obtain ⟨q, hq, e⟩ := List.mem_map.1 hm2
      obtain ⟨x, hx', rfl⟩ := List.mem_map.1 hq
      exact hx ⟨x, hx', e⟩
    obtain ⟨o1, st, he, hst⟩ := h.map.entry_new val_keyed Try.underlying57 (z := .slice none 0 0) zero_ints hlk (fun u ⟨x, hx', e, _⟩ => hx ⟨x, hx', (vv_inj e).symm⟩) hn
    obtain ⟨s, W5, hr, ho, hgw, hloc, hM5, hbel⟩ := both ⟨none, 0, 0⟩ [] o1 (own_none _ _) (fun g hg => by cases hg) (by decide)
    obtain ⟨o2, hs, hs2⟩ := hst (slv s)
    have hM5l : M < W5.heap.size := lt_of_block hM5
    have hloc' : (slv s).ownBlock = some W.heap.size := by
      rcases hloc with q | q
      · obtain ⟨g, cap, e, _, _⟩ := Rk.own_form ho (by simp)
        rw [e] at q
        cases q
      · exact q
    have e2 := putM_new (s := s) (i := i) hno
    have others : ∀ y ∈ G, OwnI (setBlock W5 M o2) base (slv y.s) y.l ∧ y.l ≠ [] ∧ (slv y.s).ownBlock ≠ (slv s).ownBlock := by
      intro y hyG
      obtain ⟨gy, hgy, _, hgyl, hgyM⟩ := h.block hyG
      refine ⟨own_keep (h.rows y hyG).1 fun g hg hgl' => ?_, (h.rows y hyG).2, fun e4 => ?_⟩
      · have hg := Option.some.inj (hgy.symm.trans hg)
        subst hg
        have k3 : W5.heap[gy]? = (setBlock W M o1).heap[gy]? := hgw.block gy (by rw [setBlock_size]; have := hB.size; omega) (by show some gy ≠ none; simp)
        rw [setBlock_ne o2 hgyM, k3, setBlock_ne o1 hgyM]
        exact hB.block gy hgl'
      · rw [hgy, hloc'] at e4; injection e4 with e4; have := hB.size; omega
    have own5 : OwnI (setBlock W5 M o2) base (slv s) [i] := own_keep ho fun g hg _ => by
      have hg := Option.some.inj (hloc'.symm.trans hg)
      rw [setBlock_ne o2 (by omega)]
    refine ⟨⟨none, 0, 0⟩, o1, st, s, W5, o2, he W hMW, hr, hs W5 hM5, ?_, hbel o2⟩
    have hgp : gpOf (putM v s i G) = putG v i (gpOf G) := gp_putM v s i G
    have hk := keys_putG v i (gpOf G)
    rw [if_neg hno] at hk
    refine ⟨?_, fun y hy => ?_, ?_, by rw [hgp, hk]; exact List.nodup_append.2 ⟨h.keys, by simp, fun a ha c hc e4 => by simp at hc; rw [e4, hc] at ha; exact hno ha⟩⟩
    · rw [e2, List.length_append]
      refine (hs2 _ (setBlock_at o2 hM5l)).congr fun y u => ?_
      constructor
      · rintro (⟨rfl, rfl⟩ | ⟨hne, z, hz, rfl, rfl⟩)
        · exact ⟨⟨v, s, [i]⟩, by simp, rfl, rfl⟩
        · exact ⟨z, by simp [hz], rfl, rfl⟩
      · rintro ⟨z, hz, rfl, rfl⟩
        simp only [List.mem_append, List.mem_singleton] at hz
        rcases hz with q | q
        · exact .inr ⟨fun e4 => hx ⟨z, q, vv_inj e4⟩, z, q, rfl, rfl⟩
        · subst q; exact .inl ⟨rfl, rfl⟩
    · rw [e2] at hy
      simp only [List.mem_append, List.mem_singleton] at hy
      rcases hy with q | q
      · exact ⟨(others y q).1, (others y q).2.1⟩
      · subst q; exact ⟨own5, by simp⟩
    · rw [e2, List.pairwise_append]
      refine ⟨h.apart, by simp, fun a ha c hc => ?_⟩
      simp only [List.mem_singleton] at hc
      subst hc
      exact (others a ha).2.2
end
end Wd
end Go.Proofs.Ytkmfkgjkgnlfnaa
