/- An index's Find, Len, Any, walked. Conditions: those that each theorem names. -/
import Derived.Test.YtkmfkgjkgnlfnaaWdM
namespace Go.Proofs.Ytkmfkgjkgnlfnaa
set_option linter.unusedVariables false
namespace Wd
open Go Go.RowKit Go.Shelf Go.Sort Go.Maps Pq Pq.Pl Rk Ids
set_option maxHeartbeats 4000000 in
set_option maxRecDepth 100000 in
theorem find_any {w : World} {base B : Nat} {R : List (Rw Val)} (h : IxAt w base B R) (v : Val) (hv : OkV v) :
    Calls Try.prog 11 #[.pointer (some ⟨B, 0, none⟩), vv v] w fun e w' => ∃ u, e = .returned u ∧ Go.Proofs.Ytkmfkgjkgnlfnaa.Own w' w.heap.size u (findL R v) ∧ Below w.heap.size w w' := by
  obtain ⟨M, G, rb, h1, h2, h3, h4, h5, h6, h7, h8, h9, h10⟩ := h
  obtain ⟨s, hlk, hcl⟩ := ix_find h2 h3 h8 v hv h9
  have HLK := Lib.hid hlk
  have HCL := Lib.hid hcl
  have HLS := Lib.hid (fun W (hW : Below w.heap.size w W) => lists_any ((hW.block B h7).trans h1))
  have HB := Lib.hid (Rk.fresh_alloc w (vobj v))
  obtain ⟨d0, d1, d2⟩ := cells3_of (Pq.heap_last w (vobj v))
  obtain ⟨vk, vn, vt⟩ := v
  obtain ⟨sp, sn, sc⟩ := s
  simp only at d0 d1 d2
  clear h1 h2 h3 h4 h5 h6 h7 h8 h9 h10 hlk hcl hv
  go_enter Try.func11, Try.ntmps11
  go_wp2_with fail
  have HSZ : Hid ((w.alloc (vobj ⟨vk, vn, vt⟩)).heap.size = w.heap.size + 1) := Lib.hid (by simp)
  generalize w.alloc (vobj ⟨vk, vn, vt⟩) = W0 at *
  have hbd : Below w.heap.size w W0.drew := HB.out.drew
  have hS : W0.drew.cell? ⟨w.heap.size, 0, none⟩ = some (.int .i64 vk) ∧ W0.drew.cell? ⟨w.heap.size, 1, none⟩ = some (.int .i64 vn) ∧ W0.drew.cell? ⟨w.heap.size, 2, none⟩ = some (.string vt) ∧ Below w.heap.size w W0.drew := ⟨d0, d1, d2, hbd⟩
  have H1 := Lib.hid (HLS.out W0.drew hbd)
  have H2 := Lib.hid (HCL.out W0.drew hbd)
  have hq := HLK.out W0.drew hbd
  have KEEP : ∀ w3 : World, Below W0.drew.heap.size W0.drew w3 → w3.cell? ⟨w.heap.size, 0, none⟩ = some (.int .i64 vk) ∧ w3.cell? ⟨w.heap.size, 1, none⟩ = some (.int .i64 vn) ∧ w3.cell? ⟨w.heap.size, 2, none⟩ = some (.string vt) ∧ Below w.heap.size w w3 := fun w3 hb => by
    have hlt : w.heap.size < W0.drew.heap.size := by show w.heap.size < W0.heap.size; rw [HSZ.out]; omega
    exact ⟨(hb.cell (p := ⟨w.heap.size, 0, none⟩) hlt).trans d0, (hb.cell (p := ⟨w.heap.size, 1, none⟩) hlt).trans d1, (hb.cell (p := ⟨w.heap.size, 2, none⟩) hlt).trans d2, hbd.trans (hb.mono (Nat.le_of_lt hlt))⟩
  have HK := Lib.hid KEEP
  clear d0 d1 d2 hbd HLS HCL HLK HB HSZ KEEP
  go_region_held3 (fun x => x.cell? ⟨w.heap.size, 0, none⟩ = some (.int .i64 vk) ∧ x.cell? ⟨w.heap.size, 1, none⟩ = some (.int .i64 vn) ∧ x.cell? ⟨w.heap.size, 2, none⟩ = some (.string vt) ∧ Below w.heap.size w x)
    (first | assumption | exact HK.out _ hb)
    (first
      | (go_at_call 32; refine H1.out.mono ?_; rintro e w1 ⟨rfl, rfl⟩)
      | (go_at_call 31; refine H2.out.mono ?_; rintro e w3 ⟨u, rfl, ho, hb⟩))
  have HF := Lib.hid (HK.out _ hb).2.2.2
  have HO := Lib.hid ho
  clear ho hb
  go_wp2_with fail
  go_ret
  exact ⟨u, rfl, HO.out, HF.out⟩
/-! ### A range over an index's map -/
def gmP (x : Gm) : Value × Value := (vv x.v, slv x.s)
/-- Block r ranges over the groups; Gd have come. -/
def RgG (w : World) (M r : Nat) (G Gd : List Gm) (cnt : Nat) : Prop := Rgm Try.prog 24 w M r G.length (fun y u => ∃ x ∈ G, y = vv x.v ∧ u = slv x.s) (Gd.map gmP) cnt ∧ ∀ x ∈ Gd, x ∈ G
theorem gm_inj : ∀ {l : List Gm}, ((gpOf l).map Prod.fst).Nodup → ∀ {x y : Gm}, x ∈ l → y ∈ l → x.v = y.v → x = y
  | [], _, _, _, h, _, _ => by cases h
  | a :: l, hn, x, y, hx, hy, e => by
    have hn' : a.v ∉ (gpOf l).map Prod.fst ∧ ((gpOf l).map Prod.fst).Nodup := by simpa [gpOf] using hn
    have out : ∀ z ∈ l, z.v ≠ a.v := fun z hz e => hn'.1 (by rw [← e]; exact List.mem_map.2 ⟨_, List.mem_map.2 ⟨z, hz, rfl⟩, rfl⟩)
    rcases List.mem_cons.1 hx with q | q
    · rcases List.mem_cons.1 hy with q2 | q2
      · rw [q, q2]
      · exact absurd (by rw [← e, q]) (out y q2)
    · rcases List.mem_cons.1 hy with q2 | q2
      · exact absurd (by rw [e, q2]) (out x q)
      · exact gm_inj hn'.2 q q2 e
theorem sl_ext {a b : Sl} (h : slv a = slv b) : a = b := by
  obtain ⟨p, n, c⟩ := a
  obtain ⟨p', n', c'⟩ := b
  injection h with h1 h2 h3
  subst h1; subst h2; subst h3; rfl
theorem gp_map (Gd : List Gm) : (gpOf Gd).map Prod.fst = Gd.map fun x => x.v := by unfold gpOf; rw [List.map_map]; rfl
section
variable {w : World} {M r cnt : Nat} {G Gd : List Gm} {R : List (Rw Val)}
theorem RgG.keys (h : RgG w M r G Gd cnt) : ((gpOf Gd).map Prod.fst).Nodup := by
  have hk := h.1.keys
  rw [List.map_map] at hk
  rw [gp_map]
  exact nodup_map_inj hk fun x _ y _ e => by show vv x.v = vv y.v; rw [e]
theorem RgG.len (h : RgG w M r G Gd cnt) (h3 : gpOf G = grpL R) (hr : Ris (R.map Prod.fst)) : ((gpOf Gd).flatMap Prod.snd).length ≤ R.length := by
  obtain ⟨h1, h2⟩ := grp_ids (ris_nodup hr) (gpOf Gd) h.keys fun x hx => by
    obtain ⟨y, hy, rfl⟩ := List.mem_map.1 hx
    have hm : (y.v, y.l) ∈ grpL R := by rw [← h3]; exact List.mem_map.2 ⟨y, h.2 y hy, rfl⟩
    exact (mem_grp.1 hm).1
  have := nodup_sub_len h1 (B := R.map Prod.fst) fun i hi => by
    obtain ⟨x, _, hx⟩ := (h2 i).1 hi
    exact List.mem_map_of_mem (f := Prod.fst) hx
  rwa [List.length_map] at this
theorem RgG.next (h : RgG w M r G Gd cnt) {x : Gm} (hx : x ∈ G) {w' : World} {cnt' : Nat} (hg : Rgm Try.prog 24 w' M r G.length (fun y u => ∃ x ∈ G, y = vv x.v ∧ u = slv x.s) (Gd.map gmP ++ [(vv x.v, slv x.s)]) cnt') : RgG w' M r G (Gd ++ [x]) cnt' :=
  ⟨by rw [List.map_append]; exact hg, fun y hy => by
    rcases List.mem_append.1 hy with q | q
    · exact h.2 y q
    · simp at q; subst q; exact hx⟩
theorem RgG.kept {w' : World} (h : RgG w M r G Gd cnt) (hM : w'.heap[M]? = w.heap[M]?) (hr : w'.heap[r]? = w.heap[r]?) : RgG w' M r G Gd cnt := ⟨h.1.kept hM hr, h.2⟩
/-- All have come. -/
theorem RgG.all (h : RgG w M r G Gd cnt) (hk : ((gpOf G).map Prod.fst).Nodup) (hd : ∀ y u, (∃ x ∈ G, y = vv x.v ∧ u = slv x.s) → (y, u) ∈ Gd.map gmP) (h3 : gpOf G = grpL R) : ∀ x, x ∈ gpOf Gd ↔ x ∈ grpL R := by
  intro q
  rw [← h3]
  constructor
  · intro hq
    obtain ⟨y, hy, rfl⟩ := List.mem_map.1 hq
    exact List.mem_map.2 ⟨y, h.2 y hy, rfl⟩
  · intro hq
    obtain ⟨y, hy, rfl⟩ := List.mem_map.1 hq
    obtain ⟨z, hz, e⟩ := List.mem_map.1 (hd (vv y.v) (slv y.s) ⟨y, hy, rfl, rfl⟩)
    have ez : z.v = y.v := vv_inj (congrArg Prod.fst e)
    obtain rfl := gm_inj hk (h.2 z hz) hy ez
    exact List.mem_map.2 ⟨z, hz, rfl⟩
theorem gm_of {x : Val} {c : Sl} (h : ∃ g ∈ G, vv x = vv g.v ∧ slv c = slv g.s) : ∃ g ∈ G, x = g.v ∧ c = g.s := by
  obtain ⟨g, hg, a, b⟩ := h
  exact ⟨g, hg, vv_inj a, sl_ext b⟩
theorem flat_snoc (Gd : List Gm) (x : Gm) : (gpOf (Gd ++ [x])).flatMap Prod.snd = (gpOf Gd).flatMap Prod.snd ++ x.l := by simp [gpOf]
end
/-- All groups have come. -/
def AllC (G Gd : List Gm) : Prop := ∀ y u, (∃ x ∈ G, y = vv x.v ∧ u = slv x.s) → (y, u) ∈ Gd.map gmP
/-- One group more has come. -/
def StepC (w w' : World) (M r : Nat) (G Gd : List Gm) (cnt : Nat) (g : Gm) : Prop := g ∈ G ∧ ∃ cnt', RgG w' M r G (Gd ++ [g]) cnt' ∧ cnt' < cnt ∧ w.grownBy w' (some r) ∧ w'.heap.size = w.heap.size
/-- How many ids have come. -/
def tot (Gd : List Gm) : Nat := ((gpOf Gd).flatMap Prod.snd).length
/-- The step, in the walk. -/
theorem wpList_next_gm {P : Program} (hP : P = Try.prog) (w : World) {ops : Array Oper} {rest : List Oper} {o : Oper} {a : Act} {Q : Exit → Act → World → Prop} (hg : o.guard = none) (it : Operand) (hop : o.op = Op.next it false) {M r cnt : Nat} {G Gd : List Gm}
    (hit : a.eval it = .pointer (some ⟨r, 0, none⟩)) (h : RgG w M r G Gd cnt)
    (hDone : AllC G Gd → wpList P ops Q rest (a.put o.dst (.tuple #[.bool false])) w)
    (hMore : ∀ (g : Gm) (w' : World), StepC w w' M r G Gd cnt g → (Instr.entry (.pointer (some ⟨r, 0, none⟩))).run P w' = .ok (.tuple #[vv g.v, slv g.s]) w' → wpList P ops Q rest (a.put o.dst (.tuple #[.bool true, vv g.v, slv g.s])) w') :
    wpList P ops Q (o :: rest) a w := by
  subst hP
  refine wpList_next_mp w hg it hop 24 vv slv M r G.length _ (Gd.map gmP) cnt (fun y u ⟨x, _, a, b⟩ => ⟨x.v, x.s, a, b⟩) hit h.1 (fun hd => hDone hd) ?_
  intro x c w' cnt' hs _ hrg hlt hgr hsz hen
  obtain ⟨g, hgG, rfl, rfl⟩ := gm_of hs
  exact hMore g w' ⟨hgG, cnt', h.next hgG hrg, hlt, hgr, hsz⟩ hen
theorem gm_shape {G : List Gm} (y u : Value) (h : ∃ x ∈ G, y = vv x.v ∧ u = slv x.s) : ∃ (x : Val) (c : Sl), y = vv x ∧ u = slv c := by
  obtain ⟨x, _, a, b⟩ := h
  exact ⟨x.v, x.s, a, b⟩
set_option maxHeartbeats 4000000 in
set_option maxRecDepth 100000 in
theorem len_any {w : World} {base B : Nat} {R : List (Rw Val)} (h : IxAt w base B R) :
    Calls Try.prog 18 #[.pointer (some ⟨B, 0, none⟩)] w fun e w' => e = .returned (.int .i64 (anyL R).length) ∧ Below w.heap.size w w' := by
  obtain ⟨M, G, rb, h1, h2, h3, h4, h5, h6, h7, h8, h9, h10⟩ := h
  have HLS := Lib.hid (lists_any h1)
  have HMP := Lib.hid h2.map
  clear h1
  go_enter Try.func18, Try.ntmps18
  go_wp2_with (first
    | (go_at_call 32; refine HLS.out.mono ?_; rintro e w1 ⟨rfl, rfl⟩)
    | (at_range; refine wpList_range_mp _ rfl _ 57 rfl 24 37 Try.underlying57 M G.length _ rfl HMP.out ?_; intro ob cnt hrg))
  go_frame
  have HBG : Hid (Below w.heap.size w (w.alloc ob)) := Lib.hid (Rk.fresh_alloc _ _)
  have H0 : Hid (RgG (w.alloc ob) M w.heap.size G [] cnt) := Lib.hid ⟨hrg, by simp⟩
  have HG := Lib.hid h2
  have H3 := Lib.hid h3
  have H8 := Lib.hid h8
  have H9 := Lib.hid h9
  clear hrg h2 h3 h4 h5 h6 h7 h8 h9 h10 HLS HMP
  go_loopw [3] (fun v wr => ∃ Gd cnt, RgG wr M w.heap.size G Gd cnt ∧ v = .int .i64 (tot Gd : Int) ∧ Below w.heap.size w wr) (fun _ wr => wr.rangeLeft M w.heap.size)
  case atStart => exact ⟨[], cnt, H0.out, by simp [tot, gpOf], HBG.out⟩
  case round =>
    obtain ⟨Gd, cn, hR, rfl, hb⟩ := hrel
    have HR := Lib.hid hR
    have HB := Lib.hid hb
    clear hR hb H0 HBG
    go_wp2_with (at_next; refine wpList_next_gm rfl _ rfl _ rfl rfl HR.out ?_ ?_)
    · intro hd
      go_wp2_with fail
      go_ret
      have e : tot Gd = (anyL R).length := (grp_all H8.out HR.out.keys (HR.out.all HG.out.keys hd H3.out)).2
      rw [e]
      exact ⟨rfl, HB.out⟩
    · intro g w' hg hen
      have hwr : wrap64 ((tot Gd : Int) + (g.s.n : Int)) = (tot (Gd ++ [g]) : Int) := by
        have hn : g.s.n = g.l.length := by
          obtain ⟨p, c, e⟩ := (own_row flatI (HG.out.rows g hg.1).1).form
          injection e
        obtain ⟨_, cn', hle, _⟩ := hg
        have hle := hle.len H3.out H8.out
        unfold tot
        rw [flat_snoc, List.length_append] at hle ⊢
        have := H9.out
        rw [hn]
        unfold wrap64
        omega
      have HX := Lib.hid hg
      clear hg
      obtain ⟨gv, ⟨gp, gn, gc⟩, gl⟩ := g
      simp only at hwr hen
      go_wp2_with fail
      go_roundw
      all_goals obtain ⟨hgG, cn', hR2, hlt, hgr, hsz⟩ := HX.out
      case rel =>
        have hb2 := HB.out.grown hgr HB.out.size (fun j hj => by cases hj; exact Nat.le_refl _)
        exact ⟨_, cn', hR2, congrArg _ hwr, hb2⟩
      case measure => rw [hR2.1.left_eq, HR.out.1.left_eq]; exact hlt
end Wd
end Go.Proofs.Ytkmfkgjkgnlfnaa
