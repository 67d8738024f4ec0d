/- The document's own Copy. Conditions: those that each theorem names. -/
import Derived.Test.YtfppemgagifmpaaDoorPlCq
import Derived.Test.YtfppemgagifmpaaDoorPlOh
namespace Go.Proofs.YtfppemgagifmpaaDoor
set_option linter.unusedVariables false
open Go Go.RowKit Go.Shelf Pl
set_option maxHeartbeats 4000000 in
set_option maxRecDepth 100000 in
theorem pcopy_own (a : Pt) (u x : Value) (w : World) (hu : VecsAt w u a.vecs) (hx : FldsAt w x a.flds) (hv1 : a.vecs.length * 40 ≤ 140737488355328) (hv2 : ∀ y ∈ a.vecs, y.v.length * 8 ≤ 140737488355328) (hf1 : a.flds.length * 48 ≤ 140737488355328) :
    Calls Tryd.prog 5 #[.agg #[.int .i64 a.id, u, x]] w fun e w' => ∃ u' x' m, e = .returned (.agg #[.int .i64 a.id, u', x']) ∧ VecsOwn w' m u' a.vecs ∧ FldsOwn w' x' a.flds ∧ w.heap.size ≤ m ∧ (∀ g, x'.ownBlock = some g → a.flds ≠ [] → w.heap.size ≤ g ∧ g < m) ∧ Below w.heap.size w w' := by
  have HU := Lib.hid hu
  have HX := Lib.hid hx
  have HV1 := Lib.hid hv1
  have HV2 := Lib.hid hv2
  have HF1 := Lib.hid hf1
  obtain ⟨p1, c1, rfl⟩ := hu.form
  obtain ⟨p3, c3, rfl⟩ := hx.form
  clear hu hx hv1 hv2 hf1
  have z := heap_last w (.cells #[.int .i64 a.id, .slice p1 a.vecs.length c1, .slice p3 a.flds.length c3] 29)
  obtain ⟨a0, a1, a2⟩ := cells3_new z (.cells #[.int .i64 0, .slice none 0 0, .slice none 0 0] 29)
  have HB := Lib.hid ((fresh_alloc w (.cells #[.int .i64 a.id, .slice p1 a.vecs.length c1, .slice p3 a.flds.length c3] 29)).alloc (by simp) (.cells #[.int .i64 0, .slice none 0 0, .slice none 0 0] 29))
  have HSZ : Hid (w.heap.size + 2 = ((w.alloc (.cells #[.int .i64 a.id, .slice p1 a.vecs.length c1, .slice p3 a.flds.length c3] 29)).alloc (.cells #[.int .i64 0, .slice none 0 0, .slice none 0 0] 29)).heap.size) := Lib.hid (by simp)
  have z2 := heap_last (w.alloc (.cells #[.int .i64 a.id, .slice p1 a.vecs.length c1, .slice p3 a.flds.length c3] 29)) (.cells #[.int .i64 0, .slice none 0 0, .slice none 0 0] 29)
  rw [show (w.alloc (.cells #[.int .i64 a.id, .slice p1 a.vecs.length c1, .slice p3 a.flds.length c3] 29)).heap.size = w.heap.size + 1 by simp] at z2
  have HR := Lib.hid z2
  clear z z2
  go_enter Tryd.func5, Tryd.ntmps5
  go_upto_region 1 with (fail)
  generalize (w.alloc (.cells #[.int .i64 a.id, .slice p1 a.vecs.length c1, .slice p3 a.flds.length c3] 29)).alloc (.cells #[.int .i64 0, .slice none 0 0, .slice none 0 0] 29) = V at *
  go_cut [3] (fun p wx => ∃ P f, p = .pointer (some ⟨P, 0, none⟩) ∧ Made V a.id a.flds P f wx)
  case first =>
    have gA : w.heap.size < V.heap.size := by have := HSZ.out; omega
    have one : ∀ {i : Nat} {v : Value}, V.cell? ⟨w.heap.size, i, none⟩ = some v → ∀ o, (V.alloc o).cell? ⟨w.heap.size, i, none⟩ = some v := fun h o => by
      rw [← h]; exact World.cell?_of_block (w := V) (heap_old V o gA)
    have b0 := one a0
    have b2 := one a2
    have hx1 := HX.out.below HB.out
    obtain ⟨f1, W1, happ1, own1, gr1⟩ := append_flds0 (w := V.drew) (base := V.heap.size) (hx1.belowD fun _ _ => rfl) HF1.out (Nat.le_refl _)
    obtain ⟨f2, W2, happ2, own2, gr2⟩ := append_flds0 (w := (V.alloc (.cells #[.int .i64 0, .slice none 0 0, .slice none 0 0] 29)).drew) (base := V.heap.size + 1) (hx1.belowD fun b hb => heap_old V _ hb) HF1.out (by show _ ≤ (V.alloc _).heap.size; simp)
    obtain ⟨q1, s1, rfl⟩ := own_slice own1
    obtain ⟨q2, s2, rfl⟩ := own_slice own2
    have e0 : W2.heap[V.heap.size]? = some (.cells #[.int .i64 0, .slice none 0 0, .slice none 0 0] 29 (0, 0)) := by
      rw [(grown_below gr2 (Nat.le_refl _)).block V.heap.size (by show _ < (V.alloc _).heap.size; simp)]
      exact heap_last V _
    obtain ⟨d0, d1, d2⟩ := cells3_of e0
    have B1 := grown_below (B := V.heap.size) gr1 (Nat.le_refl _)
    have B2 := grown_below gr2 (Nat.le_refl _)
    have m0 : W1.cell? ⟨w.heap.size, 0, none⟩ = some (.int .i64 a.id) := by
      rw [← a0]; exact World.cell?_of_block (w := V) (B1.block _ gA)
    have m1 : ∀ o, (W1.alloc o).cell? ⟨w.heap.size, 0, none⟩ = some (.int .i64 a.id) := fun o => by
      rw [← m0]; exact World.cell?_of_block (w := W1) (heap_old W1 o (Nat.lt_of_lt_of_le gA B1.size))
    have m2 : W2.cell? ⟨w.heap.size, 0, none⟩ = some (.int .i64 a.id) := by
      rw [← b0 (.cells #[.int .i64 0, .slice none 0 0, .slice none 0 0] 29)]; exact World.cell?_of_block (B2.block _ (by show _ < (V.alloc _).heap.size; simp; omega))
    have HB1 := Lib.hid B1
    have HB2 := Lib.hid B2
    clear B1 B2
    have k0 : ∀ i, W2.frozen? ⟨V.heap.size, i, none⟩ = false := fun i => by simp [World.frozen?, e0]
    have k1 := k0 0
    have k2 := k0 1
    have k3 := k0 2
    have MA := Lib.hid (made_new (i := a.id) own1 (grown_below3 gr1))
    have MB := Lib.hid (made_set (i := a.id) own2 (grown_below2 gr2) e0)
    have G1 := Lib.hid gr1
    have G2 := Lib.hid gr2
    have E0 := Lib.hid e0
    clear own1 own2 gr1 gr2 e0 one gA hx1 k0
    go_region_law (first | (refine step_append_run (by rfl) _ _ _ _ (by rfl) _ _ (.slice q1 a.flds.length s1) W1 (by rfl) (by rfl) happ1 ?_) | (refine step_append_run (by rfl) _ _ _ _ (by rfl) _ _ (.slice q2 a.flds.length s2) W2 (by rfl) (by rfl) happ2 ?_))
    all_goals go_wp2_with fail
    all_goals go_meet
    all_goals first | exact ⟨_, _, rfl, MA.out⟩ | exact ⟨_, _, rfl, MB.out⟩
  case rest =>
    obtain ⟨P, f, rfl, hM⟩ := hcut
    have HM := Lib.hid hM
    clear hM
    go_wp2_with fail
    go_loopw [4] (fun i wr => ∃ k : Nat, k ≤ a.vecs.length ∧ i = .int .i64 k ∧ Part V wc a P f k wr) (fun i _ => a.vecs.length - (intOf i).toNat)
    case atStart => exact ⟨0, Nat.zero_le _, rfl, part_zero HM.out⟩
    case round =>
      obtain ⟨k, hk, rfl, hp⟩ := hrel
      have HP := Lib.hid hp
      clear hp
      obtain ⟨wq, rfl⟩ : ∃ wq : World, wq = wr := ⟨_, rfl⟩
      by_cases hlt : k < a.vecs.length
      · obtain ⟨u, ss, h1, h2, hown, hin, hff, hfb, hbe, hP1, hP2, hP3⟩ := HP.out
        have HW := Lib.hid (HB.out.trans (hbe.mono HB.out.size))
        rcases HU.out with ⟨e0, _⟩ | ⟨g1, o1, q1, S1, hs1, hg1, hc1, hi1⟩
        · rw [e0] at hlt; simp at hlt
        obtain ⟨rfl, rfl⟩ : p1 = some ⟨g1, o1, none⟩ ∧ c1 = q1 := by injection hs1 with e1 e2 e3; exact ⟨e1, e3⟩
        have EX := Lib.hid (List.getElem?_eq_getElem hlt)
        have hv8 := HV2.out _ (List.getElem_mem hlt)
        have hm := fun X (hX : Below w.heap.size w X) => hc1 X (hX.block g1 hg1) k hlt
        have hiv := (hi1 k hlt).below HW.out
        clear hs1 hi1 hc1
        generalize a.vecs[k] = xx at *
        generalize S1 k = sv at *
        obtain ⟨r1, t1, rfl, -⟩ := hiv.form
        obtain ⟨pu, cu, rfl⟩ := own_slice hown
        obtain ⟨s0, W1, happ1, own1, gr1⟩ := append_ints0 (w := wq.drew) (base := wq.heap.size) (hiv.moved (Nat.le_refl _) (fun _ _ _ => rfl)) hv8 (Nat.le_refl _)
        obtain ⟨qs, cs, rfl⟩ := own_slice own1
        have gs1 : wq.heap.size ≤ W1.heap.size := gr1.size
        have hA : (((a.vecs.take k).map (·.name)).zip ss).length = k := by simp [h2]; omega
        have b1 : ∀ g, g < wq.heap.size → W1.heap[g]? = wq.heap[g]? := fun g hg => gr1.block g hg (by simp)
        have b2 : ∀ g, g < wq.heap.size → (W1.alloc (.cells #[.string xx.name, .slice qs xx.v.length cs] 43)).heap[g]? = wq.heap[g]? := fun g hg => (heap_old W1 _ (by omega)).trans (b1 g hg)
        have hownB : (W1.alloc (.cells #[.string xx.name, .slice qs xx.v.length cs] 43)).ownsRow wc.heap.size 43 2 (.slice pu k cu) (((a.vecs.take k).map (·.name)).zip ss).length (vCells (((a.vecs.take k).map (·.name)).zip ss)) := by
          rw [hA]; exact own_same hown fun g hg => b2 g (own_lt hown hg).2
        obtain ⟨u2, W2, happ2, own2, gr2, hob⟩ := append_vec hownB (heap_last W1 _) rfl (by rw [hA]; have := HV1.out; omega) (by simp; omega)
        have HN := Lib.hid (part_next EX.out h1 h2 hown hin hff hfb hbe hP1 hP2 hP3 gr1 own1 own2 gr2 hob)
        obtain ⟨pu2, cu2, rfl⟩ := own_slice own2
        have b3 : ∀ g, g < wq.heap.size → (Value.slice pu k cu).ownBlock ≠ some g → W2.heap[g]? = wq.heap[g]? := fun g hg hne => by
          rw [gr2.block g (by simp; omega) (fun e => hne e.symm)]; exact b2 g hg
        have hPu : (Value.slice pu k cu).ownBlock ≠ some P := fun e => by have := (own_lt hown e).1; omega
        have hPq : P < wq.heap.size := by omega
        have hrowP := (b3 P hPq hPu).trans h1
        obtain ⟨_, l0, _⟩ := cells3_of (w := wq.drew) h1
        obtain ⟨_, l1, _⟩ := cells3_of ((b1 P hPq).trans h1)
        obtain ⟨_, l2, _⟩ := cells3_of ((b2 P hPq).trans h1)
        obtain ⟨_, l3, _⟩ := cells3_of hrowP
        have l4 : W2.frozen? ⟨P, 1, none⟩ = false := by simp [World.frozen?, hrowP]
        have BV1 : Below V.heap.size V W1 := (hbe.drew).grown gr1 hbe.size (fun k hk => by cases hk)
        have BV2 := BV1.alloc BV1.size (.cells #[.string xx.name, .slice qs xx.v.length cs] 43)
        have BV3 : Below V.heap.size V W2 := BV2.grown gr2 BV2.size (fun g hg => by have := (own_lt hown hg).1; omega)
        have gA : w.heap.size < V.heap.size := by have := HSZ.out; omega
        have hS : ∀ X, Below V.heap.size V X → X.cell? ⟨w.heap.size, 1, none⟩ = some (.slice (some ⟨g1, o1, none⟩) a.vecs.length c1) ∧ X.cell? ⟨g1, o1 + k * 2, none⟩ = some (.string xx.name) ∧ X.cell? ⟨g1, o1 + k * 2 + 1, none⟩ = some (.slice r1 xx.v.length t1) := fun X hX => by
          have hw := HB.out.trans (hX.mono HB.out.size)
          exact ⟨box_later (w := w) a1 hX gA, (hm X hw).1, (hm X hw).2⟩
        have hS2 : ∀ X, Below V.heap.size V X → X.cell? ⟨P, 1, none⟩ = some (.slice pu k cu) → X.cell? ⟨w.heap.size, 1, none⟩ = some (.slice (some ⟨g1, o1, none⟩) a.vecs.length c1) ∧ X.cell? ⟨g1, o1 + k * 2, none⟩ = some (.string xx.name) ∧ X.cell? ⟨g1, o1 + k * 2 + 1, none⟩ = some (.slice r1 xx.v.length t1) ∧ X.cell? ⟨P, 1, none⟩ = some (.slice pu k cu) := fun X hX h => by
          obtain ⟨s1, s2, s3⟩ := hS X hX
          exact ⟨s1, s2, s3, h⟩
        have S0 := hS2 _ hbe.drew l0
        have S1' := hS2 _ BV1 l1
        have S2' := hS2 _ BV2 l2
        have S3' := hS2 _ BV3 l3
        have z1 := (hS _ hbe).1
        have hkk : (k : Int) < a.vecs.length := by omega
        generalize hNN : (((a.vecs.take k).map fun y : Vec => y.name).zip ss ++ [(xx.name, Value.slice qs xx.v.length cs)]).length = NN at *
        have HNN := Lib.hid hNN
        have HKV : Hid (k < a.vecs.length ∧ a.vecs.length ≤ maxLen) := Lib.hid ⟨hlt, by have := HV1.out; unfold maxLen; omega⟩
        clear h1 h2 hown hin hff hfb hbe hP1 hP2 hP3 hm hiv own1 gr1 own2 gr2 hob hownB b1 b2 b3 hPu hrowP BV1 BV2 BV3 hS hS2 hA hNN hv8 gs1 gA hPq hg1
        go_wp2_with fail
        refine wp_region_L 19 (fun X => X.cell? ⟨w.heap.size, 1, none⟩ = some (.slice (some ⟨g1, o1, none⟩) a.vecs.length c1) ∧ X.cell? ⟨g1, o1 + k * 2, none⟩ = some (.string xx.name) ∧ X.cell? ⟨g1, o1 + k * 2 + 1, none⟩ = some (.slice r1 xx.v.length t1) ∧ X.cell? ⟨P, 1, none⟩ = some (.slice pu k cu)) (by kernel_rfl) S0 fun hSS => ?_
        refine L_take' (i := 0) (v := ?vv0) rfl (by kernel_rfl) (by kernel_rfl) (by kernel_rfl) (by kernel_rfl) (fun _ _ _ h => h) (Or.inl ⟨by rfl, ?hy0⟩) (by assumption) ?rest0
        case hy0 =>
          intro wx hSx
          obtain ⟨sa, sb, sc, sd⟩ := hSx
          go_simp
          all_goals with_reducible rfl
        try simp only [Act.put, List.setIfInBounds_toArray, List.set_cons_zero, List.set_cons_succ]
        refine L_take' (i := 1) (v := ?vv1) rfl (by kernel_rfl) (by kernel_rfl) (by kernel_rfl) (by kernel_rfl) (fun _ _ _ h => h) (Or.inl ⟨by rfl, ?hy1⟩) (by assumption) ?rest1
        case hy1 =>
          intro wx hSx
          obtain ⟨sa, sb, sc, sd⟩ := hSx
          go_simp
          all_goals with_reducible rfl
        try simp only [Act.put, List.setIfInBounds_toArray, List.set_cons_zero, List.set_cons_succ]
        refine L_take' (i := 2) (v := ?vv2) rfl (by kernel_rfl) (by kernel_rfl) (by kernel_rfl) (by kernel_rfl) (fun _ _ _ h => h) (Or.inl ⟨by rfl, ?hy2⟩) (by assumption) ?rest2
        case hy2 =>
          intro wx hSx
          obtain ⟨sa, sb, sc, sd⟩ := hSx
          go_simp
          all_goals with_reducible rfl
        try simp only [Act.put, List.setIfInBounds_toArray, List.set_cons_zero, List.set_cons_succ]
        refine L_take' (i := 3) (v := ?vv3) rfl (by kernel_rfl) (by kernel_rfl) (by kernel_rfl) (by kernel_rfl) (fun _ _ _ h => h) (Or.inl ⟨by rfl, ?hy3⟩) (by assumption) ?rest3
        case hy3 =>
          intro wx hSx
          obtain ⟨sa, sb, sc, sd⟩ := hSx
          go_simp
          all_goals with_reducible rfl
        try simp only [Act.put, List.setIfInBounds_toArray, List.set_cons_zero, List.set_cons_succ]
        refine L_take' (i := 4) (v := ?vv4) rfl (by kernel_rfl) (by kernel_rfl) (by kernel_rfl) (by kernel_rfl) (fun _ _ _ h => h) (Or.inl ⟨by rfl, ?hy4⟩) (by assumption) ?rest4
        case hy4 =>
          intro wx hSx
          obtain ⟨sa, sb, sc, sd⟩ := hSx
          go_simp
          all_goals with_reducible rfl
        try simp only [Act.put, List.setIfInBounds_toArray, List.set_cons_zero, List.set_cons_succ]
        refine L_take' (i := 5) (v := ?vv5) rfl (by kernel_rfl) (by kernel_rfl) (by kernel_rfl) (by kernel_rfl) (fun _ _ _ h => h) (Or.inl ⟨by rfl, ?hy5⟩) (by assumption) ?rest5
        case hy5 =>
          intro wx hSx
          obtain ⟨sa, sb, sc, sd⟩ := hSx
          go_simp
          all_goals with_reducible rfl
        try simp only [Act.put, List.setIfInBounds_toArray, List.set_cons_zero, List.set_cons_succ]
        refine L_take' (i := 6) (v := ?vv6) rfl (by kernel_rfl) (by kernel_rfl) (by kernel_rfl) (by kernel_rfl) (fun _ _ _ h => h) (Or.inl ⟨by rfl, ?hy6⟩) (by assumption) ?rest6
        case hy6 =>
          intro wx hSx
          obtain ⟨sa, sb, sc, sd⟩ := hSx
          go_simp
          all_goals with_reducible rfl
        try simp only [Act.put, List.setIfInBounds_toArray, List.set_cons_zero, List.set_cons_succ]
        refine L_take' (i := 7) (v := ?vv7) rfl (by kernel_rfl) (by kernel_rfl) (by kernel_rfl) (by kernel_rfl) (fun _ _ _ h => h) (Or.inl ⟨by rfl, ?hy7⟩) (by assumption) ?rest7
        case hy7 =>
          intro wx hSx
          obtain ⟨sa, sb, sc, sd⟩ := hSx
          go_simp
          all_goals with_reducible rfl
        try simp only [Act.put, List.setIfInBounds_toArray, List.set_cons_zero, List.set_cons_succ]
        refine L_take' (i := 8) (v := ?vv8) rfl (by kernel_rfl) (by kernel_rfl) (by kernel_rfl) (by kernel_rfl) (fun _ _ _ h => h) (Or.inl ⟨by rfl, ?hy8⟩) (by assumption) ?rest8
        case hy8 =>
          intro wx hSx
          obtain ⟨sa, sb, sc, sd⟩ := hSx
          go_simp
          all_goals with_reducible rfl
        try simp only [Act.put, List.setIfInBounds_toArray, List.set_cons_zero, List.set_cons_succ]
        refine L_take' (i := 9) (v := ?vv9) rfl (by kernel_rfl) (by kernel_rfl) (by kernel_rfl) (by kernel_rfl) (fun _ _ _ h => h) (Or.inl ⟨by rfl, ?hy9⟩) (by assumption) ?rest9
        case hy9 =>
          intro wx hSx
          obtain ⟨sa, sb, sc, sd⟩ := hSx
          go_simp
          all_goals with_reducible rfl
        try simp only [Act.put, List.setIfInBounds_toArray, List.set_cons_zero, List.set_cons_succ]
        refine L_take' (i := 10) (v := ?vv10) rfl (by kernel_rfl) (by kernel_rfl) (by kernel_rfl) (by kernel_rfl) (fun _ _ _ h => h) (Or.inl ⟨by rfl, ?hy10⟩) (by assumption) ?rest10
        case hy10 =>
          intro wx hSx
          obtain ⟨sa, sb, sc, sd⟩ := hSx
          go_simp
          all_goals with_reducible rfl
        try simp only [Act.put, List.setIfInBounds_toArray, List.set_cons_zero, List.set_cons_succ]
        refine L_take' (i := 11) (v := ?vv11) rfl (by kernel_rfl) (by kernel_rfl) (by kernel_rfl) (by kernel_rfl) (fun _ _ _ h => h) (Or.inl ⟨by rfl, ?hy11⟩) (by assumption) ?rest11
        case hy11 =>
          intro wx hSx
          obtain ⟨sa, sb, sc, sd⟩ := hSx
          go_simp
          all_goals with_reducible rfl
        try simp only [Act.put, List.setIfInBounds_toArray, List.set_cons_zero, List.set_cons_succ]
        refine L_take' (i := 12) (v := ?vv12) rfl (by kernel_rfl) (by kernel_rfl) (by kernel_rfl) (by kernel_rfl) (fun _ _ _ h => h) (Or.inl ⟨by rfl, ?hy12⟩) (by assumption) ?rest12
        case hy12 =>
          intro wx hSx
          obtain ⟨sa, sb, sc, sd⟩ := hSx
          go_simp
          all_goals with_reducible rfl
        try simp only [Act.put, List.setIfInBounds_toArray, List.set_cons_zero, List.set_cons_succ]
        refine L_take' (i := 13) (v := ?vv13) rfl (by kernel_rfl) (by kernel_rfl) (by kernel_rfl) (by kernel_rfl) (fun _ _ _ h => h) (Or.inl ⟨by rfl, ?hy13⟩) (by assumption) ?rest13
        case hy13 =>
          intro wx hSx
          obtain ⟨sa, sb, sc, sd⟩ := hSx
          go_simp
          all_goals with_reducible rfl
        try simp only [Act.put, List.setIfInBounds_toArray, List.set_cons_zero, List.set_cons_succ]
        refine L_one' (i := 14) rfl (by kernel_rfl) fun K hK => ?_
        refine step_append_run (by rfl) _ _ _ _ (by rfl) _ _ (.slice qs xx.v.length cs) W1 (by rfl) (by rfl) happ1 ?_
        refine hK _ _ (fun _ => S1') ?_
        clear K hK
        try simp only [Act.put, List.setIfInBounds_toArray, List.set_cons_zero, List.set_cons_succ]
        refine L_one' (i := 15) rfl (by kernel_rfl) fun K hK => ?_
        go_simp
        refine hK _ _ (fun _ => S1') ?_
        clear K hK
        try simp only [Act.put, List.setIfInBounds_toArray, List.set_cons_zero, List.set_cons_succ]
        refine L_one' (i := 16) rfl (by kernel_rfl) fun K hK => ?_
        go_simp
        refine hK _ _ (fun _ => S2') ?_
        clear K hK
        try simp only [Act.put, List.setIfInBounds_toArray, List.set_cons_zero, List.set_cons_succ]
        refine L_one' (i := 17) rfl (by kernel_rfl) fun K hK => ?_
        refine step_append_run (by rfl) _ _ _ _ (by rfl) _ _ (.slice pu2 NN cu2) W2 (by rfl) (by rfl) happ2 ?_
        refine hK _ _ (fun _ => S3') ?_
        clear K hK
        try simp only [Act.put, List.setIfInBounds_toArray, List.set_cons_zero, List.set_cons_succ]
        refine L_one' (i := 18) rfl (by kernel_rfl) fun K hK => ?_
        go_simp
        refine hK _ _ (fun _ => S3') ?_
        clear K hK
        try simp only [Act.put, List.setIfInBounds_toArray, List.set_cons_zero, List.set_cons_succ]
        refine L_one' (i := 19) rfl (by kernel_rfl) fun K hK => ?_
        go_simp
        refine hK _ _ (fun h => absurd rfl h) ?_
        clear K hK
        try simp only [Act.put, List.setIfInBounds_toArray, List.set_cons_zero, List.set_cons_succ]
        refine L_done (by kernel_rfl) ?_ _
        go_wp2_with fail
        go_roundw
        case rel => exact ⟨k + 1, by have := HKV.out; omega, congrArg _ (wrap_s HKV.out.2 HKV.out.1), HN.out⟩
        case measure =>
          rw [wrap_s HKV.out.2 HKV.out.1]
          exact int_less HKV.out.1
      · obtain rfl : k = a.vecs.length := by omega
        obtain ⟨u, ss, h1, h2, hown, hin, hff, hfb, hbe, hP1, hP2, hP3⟩ := HP.out
        have gA : w.heap.size < V.heap.size := by have := HSZ.out; omega
        have gB : w.heap.size + 1 < V.heap.size := by have := HSZ.out; omega
        have z1 := box_later (w := w) a1 hbe gA
        have hz := (hbe.block _ gB).trans HR.out
        obtain ⟨pu, cu, rfl⟩ := own_slice hown
        obtain ⟨pf, cf, rfl⟩ := hff.form
        obtain ⟨c0, c1', c2⟩ := cells3_of h1
        obtain ⟨d0, d1, d2⟩ := cells3_of hz
        have k0 : wq.frozen? ⟨w.heap.size + 1, 0, none⟩ = false := by simp [World.frozen?, hz]
        have k1 : wq.frozen? ⟨w.heap.size + 1, 1, none⟩ = false := by simp [World.frozen?, hz]
        have k2 : wq.frozen? ⟨w.heap.size + 1, 2, none⟩ = false := by simp [World.frozen?, hz]
        obtain ⟨⟨e0, e1, e2⟩, hbf⟩ := set3 hz (HB.out.trans (hbe.mono HB.out.size)) (by omega) (.int .i64 a.id) (.slice pu a.vecs.length cu) (.slice pf a.flds.length cf)
        have HFIN := Lib.hid (And.intro (part_all (x := .int .i64 a.id) (y := .slice pu a.vecs.length cu) (z := .slice pf a.flds.length cf) h2 hown hin hff hfb gB (by omega)) hbf)
        have HFB := Lib.hid hfb
        have HMM : Hid (w.heap.size ≤ wc.heap.size) := Lib.hid (by omega)
        clear h1 h2 hown hin hff hfb hbe hP1 hP2 hP3 hz hbf gA gB a0 a1 a2
        go_wp2_with fail
        refine bodyPost_ret (v := .agg #[.int .i64 a.id, .slice pu a.vecs.length cu, .slice pf a.flds.length cf]) (by simp [results, Tryd.results5, go_sem, e0, e1, e2]) rfl ?_
        exact ⟨_, _, _, rfl, HFIN.out.1.1, HFIN.out.1.2, HMM.out, fun g hg hn => ⟨by have := (HFB.out g hg hn).2.2; have := HSZ.out; omega, (HFB.out g hg hn).2.1⟩, HFIN.out.2⟩
theorem pcopy_any (a : Pt) (u x : Value) (w : World) (hu : VecsAt w u a.vecs) (hx : FldsAt w x a.flds) (hv1 : a.vecs.length * 40 ≤ 140737488355328) (hv2 : ∀ y ∈ a.vecs, y.v.length * 8 ≤ 140737488355328) (hf1 : a.flds.length * 48 ≤ 140737488355328) :
    Calls Tryd.prog 5 #[.agg #[.int .i64 a.id, u, x]] w fun e w' => ∃ u' x', e = .returned (.agg #[.int .i64 a.id, u', x']) ∧ VecsAt w' u' a.vecs ∧ FldsAt w' x' a.flds ∧ Below w.heap.size w w' := by
  refine (pcopy_own a u x w hu hx hv1 hv2 hf1).mono ?_
  rintro e w' ⟨u', x', m, rfl, h1, h2, -, -, h4⟩
  exact ⟨u', x', rfl, h1.at, h2.at, h4⟩
end Go.Proofs.YtfppemgagifmpaaDoor
