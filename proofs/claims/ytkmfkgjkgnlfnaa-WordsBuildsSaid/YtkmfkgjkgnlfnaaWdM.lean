/- An index's Find, Any, Values, Len: what stands in its groups, plain; lists and Find. Conditions: those that each theorem names. -/
import Derived.Test.YtkmfkgjkgnlfnaaWdB
import Derived.Test.YtkmfkgjkgnlfnaaRgm
import Derived.Test.YtkmfkgjkgnlfnaaWdC
namespace Go.Proofs.Ytkmfkgjkgnlfnaa
set_option linter.unusedVariables false
namespace Wd
open Go Go.RowKit Go.Shelf Go.Sort Go.Maps Pq Pq.Pl Rk Ids
/-! ### Groups, plain -/
/-- Groups of unlike values out of an index's: their ids are unlike, and ids of rows. -/
theorem grp_ids {R : List (Rw Val)} (hR : (R.map Prod.fst).Nodup) : ∀ (g : Gp Val), (g.map Prod.fst).Nodup → (∀ x ∈ g, x.2 = someL R x.1) → (g.flatMap Prod.snd).Nodup ∧ (∀ i, i ∈ g.flatMap Prod.snd ↔ ∃ x ∈ g, (i, some x.1) ∈ R)
  | [], _, _ => ⟨by simp, fun i => by simp⟩
  | x :: r, hn, hl => by
    rw [List.map_cons, List.nodup_cons] at hn
    obtain ⟨h1, h2⟩ := grp_ids hR r hn.2 fun y hy => hl y (List.mem_cons_of_mem _ hy)
    have hx := hl x List.mem_cons_self
    have hm : ∀ i, i ∈ x.2 ↔ (i, some x.1) ∈ R := fun i => by
      rw [hx]
      unfold someL
      simp only [List.mem_map, List.mem_filter, decide_eq_true_eq]
      constructor
      · rintro ⟨⟨j, o⟩, ⟨h, e⟩, rfl⟩
        have e : o = some x.1 := e
        subst e
        exact h
      · exact fun h => ⟨_, ⟨h, rfl⟩, rfl⟩
    refine ⟨?_, fun i => ?_⟩
    · rw [List.flatMap_cons]
      refine List.nodup_append.2 ⟨?_, h1, fun a ha b hb e => ?_⟩
      · rw [hx]
        unfold someL
        exact List.Nodup.sublist ((List.filter_sublist).map _) hR
      · subst e
        obtain ⟨y, hy, hyR⟩ := (h2 a).1 hb
        have e := unlike_inj R hR _ ((hm a).1 ha) _ hyR rfl
        injection e with _ e
        exact hn.1 (by rw [Option.some.inj e]; exact List.mem_map_of_mem hy)
    · rw [List.flatMap_cons, List.mem_append, h2, hm]
      constructor
      · rintro (h | ⟨y, hy, h⟩)
        · exact ⟨x, List.mem_cons_self, h⟩
        · exact ⟨y, List.mem_cons_of_mem _ hy, h⟩
      · rintro ⟨y, hy, h⟩
        rcases List.mem_cons.1 hy with q | q
        · subst q; exact .inl h
        · exact .inr ⟨y, q, h⟩
theorem grp_all {R : List (Rw Val)} (hR : Ris (R.map Prod.fst)) {g : Gp Val} (hn : (g.map Prod.fst).Nodup) (hm : ∀ x, x ∈ g ↔ x ∈ grpL R) : srtL (g.flatMap Prod.snd) = anyL R ∧ (g.flatMap Prod.snd).length = (anyL R).length := by
  have hRn := ris_nodup hR
  obtain ⟨h1, h2⟩ := grp_ids hRn g hn fun x hx => (mem_grp.1 ((hm x).1 hx)).1
  have h3 : ∀ i, i ∈ g.flatMap Prod.snd ↔ i ∈ anyL R := fun i => by
    rw [h2, mem_anyL]
    constructor
    · rintro ⟨x, _, h⟩; exact ⟨_, h⟩
    · rintro ⟨v, h⟩
      have hs : someL R v ≠ [] := fun e => by
        have : i ∈ someL R v := by
          unfold someL
          simp only [List.mem_map, List.mem_filter, decide_eq_true_eq]
          exact ⟨_, ⟨h, rfl⟩, rfl⟩
        rw [e] at this
        cases this
      exact ⟨(v, someL R v), (hm _).2 (mem_grp.2 ⟨rfl, hs⟩), h⟩
  exact ⟨ris_ext (srtL_ris h1) (ris_anyL R) fun i => by rw [mem_srtL, h3], len_ext h1 (ris_nodup (ris_anyL R)) h3⟩
theorem grp_vals {R : List (Rw Val)} {A : List Val} (hA : A.Nodup) (hm : ∀ v, v ∈ A ↔ v ∈ (grpL R).map Prod.fst) : (A.mergeSort fun x y => !(ltOf cmpV) y x) = valsL ltV R := by
  refine risV_ext ordV (sort_ris hA) (ris_valsL ordV R) fun v => ?_
  rw [(List.mergeSort_perm A _).mem_iff, hm, mem_valsL ordV, List.mem_map]
  constructor
  · rintro ⟨⟨v', l⟩, hx, rfl⟩
    obtain ⟨e, hne⟩ := mem_grp.1 hx
    cases hl : l with
    | nil => exact absurd hl hne
    | cons i t =>
      have : i ∈ someL R v' := by rw [← e, hl]; simp
      unfold someL at this
      simp only [List.mem_map, List.mem_filter, decide_eq_true_eq] at this
      obtain ⟨⟨j, o⟩, ⟨h, e⟩, rfl⟩ := this
      have e : o = some v' := e
      subst e
      exact ⟨j, h⟩
  · rintro ⟨i, h⟩
    have hs : someL R v ≠ [] := fun e => by
      have : i ∈ someL R v := by
        unfold someL
        simp only [List.mem_map, List.mem_filter, decide_eq_true_eq]
        exact ⟨_, ⟨h, rfl⟩, rfl⟩
      rw [e] at this
      cases this
    exact ⟨(v, someL R v), mem_grp.2 ⟨rfl, hs⟩, rfl⟩
/-! ### lists -/
set_option maxHeartbeats 1000000 in
theorem lists_any {w : World} {B M : Nat} (h : w.heap[B]? = some (.cells #[.map (some M)] 66 (0, 0))) :
    Calls Try.prog 32 #[.pointer (some ⟨B, 0, none⟩)] w fun e w' => e = .returned (.map (some M)) ∧ w = w' := by
  have c0 : w.cell? ⟨B, 0, none⟩ = some (.map (some M)) := by rw [Lib.cell_of_heap h]; rfl
  go_enter Try.func32, Try.ntmps32
  go_wp2_with fail
  go_ret
  exact ⟨rfl, rfl⟩
set_option maxHeartbeats 1000000 in
theorem lists_nil (w : World) : Calls Try.prog 32 #[.pointer none] w fun e w' => e = .returned (.map none) ∧ w = w' := by
  go_enter Try.func32, Try.ntmps32
  go_wp2_with fail
  go_ret
  exact ⟨rfl, rfl⟩
/-! ### Find -/
theorem ix_find {w : World} {M rb : Nat} {R : List (Rw Val)} {G : List Gm} (h2 : GrpAt w rb M G) (h3 : gpOf G = grpL R) (hr : Ris (R.map Prod.fst)) (v : Val) (hv : OkV v) (hl : R.length * 56 ≤ 140737488355328) :
    ∃ s : Sl, (∀ W : World, Below w.heap.size w W → (Instr.lookup 57 (.map (some M)) (vv v) false).run Try.prog W = .ok (slv s) W) ∧
      (∀ W : World, Below w.heap.size w W → Calls Try.prog 31 #[slv s] W fun e w' => ∃ u, e = .returned u ∧ Go.Proofs.Ytkmfkgjkgnlfnaa.Own w' w.heap.size u (findL R v) ∧ Below W.heap.size W w') := by
  have hlen : ∀ l : List Int, l = someL R v → l.length * 8 ≤ 140737488355328 := fun l e => by
    have : l.length ≤ R.length := by rw [e]; unfold someL; rw [List.length_map]; exact List.length_filter_le _ _
    omega
  by_cases hx : ∃ x ∈ G, x.v = v
  · obtain ⟨x, hx, e⟩ := hx
    have hm : (x.v, x.l) ∈ grpL R := by rw [← h3]; exact List.mem_map.2 ⟨x, hx, rfl⟩
    have e2 := (mem_grp.1 hm).1
    rw [e] at e2
    refine ⟨x.s, fun W hW => ?_, fun W hW => ?_⟩
    · rcases grp_look h2 v hv W (hW.block M h2.ltM) with ⟨x', hx', e', h⟩ | ⟨hn, _⟩
      · have : x' = x := by
          have hk := h2.keys
          have inj : ∀ (l : List Gm), ((gpOf l).map Prod.fst).Nodup → x' ∈ l → x ∈ l → x' = x := by
            intro l
            induction l with
            | nil => intro _ h; cases h
            | cons a l ih =>
              intro hn ha hb
              have hn' : a.v ∉ (gpOf l).map Prod.fst ∧ ((gpOf l).map Prod.fst).Nodup := by simpa [gpOf] using hn
              have out : ∀ z ∈ l, z.v ≠ a.v := fun z hz e => hn'.1 (by rw [← e]; exact List.mem_map.2 ⟨_, List.mem_map.2 ⟨z, hz, rfl⟩, rfl⟩)
              rcases List.mem_cons.1 ha with q | q
              · rcases List.mem_cons.1 hb with q2 | q2
                · rw [q, q2]
                · exact absurd (by rw [e, ← e', q]) (out x q2)
              · rcases List.mem_cons.1 hb with q2 | q2
                · exact absurd (by rw [e', ← e, q2]) (out x' q)
                · exact ih hn'.2 q q2
          exact inj G hk hx' hx
        rw [← this]; exact h
      · exact absurd (List.mem_map.2 ⟨_, List.mem_map.2 ⟨x, hx, rfl⟩, e⟩) hn
    · have ho := own_int.2 ((h2.below hW).rows x hx).1
      refine (clone_own x.l (slv x.s) W ho.at (hlen _ e2)).mono ?_
      rintro e1 w' ⟨u, rfl, h4, h5⟩
      rw [e2, some_find hr] at h4
      exact ⟨u, rfl, own_base h4 hW.size, h5⟩
  · have hno : v ∉ (gpOf G).map Prod.fst := fun hm => by
      obtain ⟨q, hq, e⟩ := List.mem_map.1 hm
      obtain ⟨x, hx', rfl⟩ := List.mem_map.1 hq
      exact hx ⟨x, hx', e⟩
    have e2 : findL R v = [] := by
      rw [← some_find hr]
      cases hs : someL R v with
      | nil => rfl
      | cons a b => exact absurd (by rw [h3]; exact List.mem_map.2 ⟨_, mem_grp.2 ⟨rfl, by rw [hs]; simp⟩, rfl⟩) hno
    refine ⟨⟨none, 0, 0⟩, fun W hW => ?_, fun W hW => ?_⟩
    · rcases grp_look h2 v hv W (hW.block M h2.ltM) with ⟨x', hx', e', _⟩ | ⟨_, h⟩
      · exact absurd ⟨x', hx', e'⟩ hx
      · exact h
    · refine (clone_own [] (.slice none 0 0) W (.inl ⟨rfl, none, 0, rfl⟩) (by simp)).mono ?_
      rintro e1 w' ⟨u, rfl, h4, h5⟩
      rw [e2]
      exact ⟨u, rfl, own_base h4 hW.size, h5⟩
end Wd
end Go.Proofs.Ytkmfkgjkgnlfnaa
