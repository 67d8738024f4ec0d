/- The document's own disk: Write. Conditions: those that each theorem names. -/
import Derived.Test.YtblhbkhehddccaaRfCut
namespace Go.Proofs.Ytblhbkhehddccaa
set_option linter.unusedVariables false
open Go.RowKit Dk
theorem infoFile : (Try.prog.info? 83).map (fun i => (i.zero, i.size, i.bytes)) = some (some (.agg #[.string ⟨#[]⟩, .int .i64 0]), 2, 24) := by kernel_rfl
/-- A row of files behind an own one: the source may be nil. -/
theorem append_files {w : World} {base : Nat} {v : Value} {A B : List FileC} {q : Option Addr} {c : Nat} (hown : w.ownsRow base 83 2 v A.length (fileCells A))
    (hs : (q = none ∧ B = []) ∨ ∃ ad, q = some ad ∧ ∀ j u, (fileCells B)[j]? = some u → w.cell? (ad.add j) = some u) (hb : A.length + B.length ≤ 2199023255552) (hbase : base ≤ w.heap.size) :
    ∃ v' w', (∀ ty, (Builtin.append_ #[26, 26] ty #[v, .slice q B.length c]).run Try.prog w = .ok v' w') ∧ w'.ownsRow base 83 2 v' (A ++ B).length (fileCells (A ++ B)) ∧ w.grownBy w' v.ownBlock ∧ (v'.ownBlock = v.ownBlock ∨ v'.ownBlock = some w.heap.size) := by
  obtain ⟨i0, hi, hz0, hz1, hz2⟩ := info_parts infoFile
  have hlen : ∀ L : List FileC, (fileCells L).length = L.length * 2 := fun L => by
    induction L with
    | nil => rfl
    | cons p r ih => show (fileCells r).length + 1 + 1 = _; rw [ih, List.length_cons]; omega
  rcases hs with ⟨rfl, rfl⟩ | ⟨ad, rfl, hc⟩
  · refine ⟨v, w, fun ty => ?_, by simpa using hown, ⟨rfl, rfl, rfl, Nat.le_refl _, fun _ _ _ => rfl⟩, .inl rfl⟩
    have ht := Try.underlying26
    rcases hown.2 with ⟨rfl, h0⟩ | ⟨g, cap, cur, rfl, _, hg, h1, _⟩
    · simp [Builtin.append_, run_underlying ht, sizeOf, typeInfo, hi, Builtin.lenOf, Builtin.firstCells]
    · simp [Builtin.append_, run_underlying ht, sizeOf, typeInfo, hi, Builtin.lenOf, Builtin.firstCells, storeCells, h1]
  · obtain ⟨v', w', hr, h2, h3, h4⟩ := run_append_own_at (P := Try.prog) w base 26 26 83 i0 _ 2 24 Try.underlying26 hi hz0 hz1 hz2 rfl (by decide) v A.length (fileCells A) hown ad B.length c (fileCells B) (hlen B) hc
      (fun u hu => by
        obtain ⟨p, _, hp⟩ := List.mem_flatMap.1 hu
        simp at hp
        rcases hp with rfl | rfl <;> rfl) (by unfold maxLen; omega) (by omega) hbase
    have e : fileCells (A ++ B) = fileCells A ++ fileCells B := by simp [fileCells]
    exact ⟨v', w', fun _ => hr, by rw [e, List.length_append]; exact h2, h3, h4.2⟩
/-- A file more, in memory. -/
theorem newfile_top {w W4 : World} {B : Nat} {X : Nat → Prop} {M : RSt} {fv nv lv ov pv fv' : Value} {cs : List Chg} {o : Obj} (h : RfTop w B X M fv nv lv ov pv cs) (gr : (w.alloc o).grownBy W4 fv.ownBlock) (x : FileC)
    (hown : W4.ownsRow 0 83 2 fv' (M.files ++ [x]).length (fileCells (M.files ++ [x]))) (hob : fv'.ownBlock = fv.ownBlock ∨ fv'.ownBlock = some (w.alloc o).heap.size) :
    RfTop (W4.setCell ⟨B, 0, none⟩ fv') B (fun b => X b ∨ (w.heap.size ≤ b ∧ b < W4.heap.size)) { M with files := M.files ++ [x] } fv' nv lv ov pv cs ∧ Rk X w (W4.setCell ⟨B, 0, none⟩ fv') := by
  have hsz : ∀ (W : World) a v, (W.setCell a v).heap.size = W.heap.size := fun W a v => by simp [World.setCell]
  have h4 : w.heap.size + 1 ≤ W4.heap.size := by have := gr.size; simpa using this
  have old4 : ∀ b, b < w.heap.size → fv.ownBlock ≠ some b → W4.heap[b]? = w.heap[b]? := fun b hb hne => by
    rw [gr.block b (by simp; omega) (fun e => hne e.symm)]
    exact Below.heap_alloc _ _ _ hb
  have old : ∀ b, b < w.heap.size → fv.ownBlock ≠ some b → b ≠ B → (W4.setCell ⟨B, 0, none⟩ fv').heap[b]? = w.heap[b]? := fun b hb hne hB => by
    rw [heap_setCell_other _ _ _ _ hB, old4 b hb hne]
  have hle : w.heap.size ≤ (W4.setCell ⟨B, 0, none⟩ fv').heap.size := by rw [hsz]; omega
  have hB := h.lt B h.here
  have box4 := (old4 B hB (fun e => (h.own B e).2 rfl)).trans h.box
  have kp : ∀ v, v = nv ∨ v = lv ∨ v = ov ∨ v = pv → ∀ g, v.ownBlock = some g → (W4.setCell ⟨B, 0, none⟩ fv').heap[g]? = w.heap[g]? := fun v hv g hg => by
    have := h.apart v hv g hg
    exact old g (h.lt g this.1) this.2.2 this.2.1
  have hfl := fun g (hg : fv'.ownBlock = some g) => (hown.lt g hg).2
  have hnew : ∀ g, fv'.ownBlock = some g → (X g ∧ g ≠ B ∧ fv.ownBlock = some g) ∨ (w.heap.size ≤ g ∧ g < W4.heap.size) := fun g hg => by
    rcases hob with e | e
    · rw [e] at hg
      exact .inl ⟨(h.own g hg).1, (h.own g hg).2, hg⟩
    · have hl := hfl g hg
      rw [e] at hg
      injection hg with hg
      simp at hg
      exact .inr ⟨by omega, hl⟩
  refine ⟨⟨?_, ?_, h.now.kept (kp nv (.inl rfl)) hle, h.last.kept (kp lv (.inr (.inl rfl))) hle, h.opn.kept (kp ov (.inr (.inr (.inl rfl)))) hle, h.sets, h.flt.kept (kp pv (.inr (.inr (.inr rfl)))) hle, ?_, ?_, .inl h.here, ?_⟩, ?_⟩
  · exact heap_setCell_same _ B 0 _ _ fv' box4
  · exact ownsRow_same hown fun g hg => heap_setCell_other _ _ _ _ (by
      rcases hnew g hg with k | k
      · exact k.2.1
      · show g ≠ B; omega)
  · intro v hv g hg
    have ha := h.apart v hv g hg
    refine ⟨.inl ha.1, ha.2.1, fun e => ?_⟩
    rcases hnew g e with k | k
    · exact ha.2.2 k.2.2
    · have := h.lt g ha.1; omega
  · intro g hg
    rcases hnew g hg with k | k
    · exact ⟨.inl k.1, k.2.1⟩
    · exact ⟨.inr k, by omega⟩
  · intro b hb
    rw [hsz]
    rcases hb with hb | hb
    · have := h.lt b hb; omega
    · exact hb.2
  · refine ⟨?_, ?_, ?_, hle, fun b hb hx => old b hb (fun e => hx (h.own b e).1) (fun e => hx (by rw [e]; exact h.here))⟩
    · show W4.os = w.os; exact gr.os
    · show W4.tape = w.tape; exact gr.tape
    · show W4.output = w.output; exact gr.output
def writeN (M : RSt) (t : Nm) : Int := if hitE M.hit = 0 then (t.size : Int) else hitN M.hit
def layR (M : RSt) (s : Nm) (d : List UInt8) : RSt := match nmGet M.now s with
  | some i => { M with files := M.files.set i { M.files[i]?.getD ⟨[], 0⟩ with data := (M.files[i]?.getD ⟨[], 0⟩).data ++ d } }
  | none => { M with files := M.files ++ [⟨d, 0⟩], opn := M.opn ++ [[(s, some M.files.length)]] }
def writeR (M : RSt) (s t : Nm) : Int × Int × RSt :=
  if s.toList.isEmpty then (0, 1, M) else if writeN M t < 0 then (0, hitE M.hit, { M with made := M.made + 1 }) else
    (min (writeN M t) t.size, hitE M.hit, layR { M with made := M.made + 1 } s (t.data.toList.take (min (writeN M t) t.size).toNat))
theorem text_begin (t : ByteArray) (k : Nat) : t.extract 0 k = ⟨(t.data.toList.take k).toArray⟩ := by
  apply ByteArray.ext
  rw [ByteArray.data_extract]
  apply Array.toList_inj.1
  simp
theorem text_more (a b : List UInt8) : (⟨a.toArray⟩ : ByteArray) ++ ⟨b.toArray⟩ = ⟨(a ++ b).toArray⟩ := by
  apply ByteArray.ext
  rw [ByteArray.data_append]
  simp
set_option maxHeartbeats 4000000 in
set_option maxRecDepth 100000 in
theorem rwrite_any (B : Nat) (X : Nat → Prop) (M : RSt) (s t : ByteArray) (w : World) (h : RfAt w B X M) (hk : RfOk M) (hf : Filed M s) (hnf : M.files.length ≤ 1099511627776) (hsz : ∀ (i : Nat) (f : FileC), M.files[i]? = some f → f.data.length + t.size ≤ 4611686018427387904) (hts : t.size ≤ 4611686018427387904) :
    Calls Try.prog 9 #[.pointer (some ⟨B, 0, none⟩), .string s, .string t] w fun e w' => e = .returned (.tuple #[.int .i64 (writeR M s t).1, .int .i64 (writeR M s t).2.1]) ∧ RfOp w B X (writeR M s t).2.2 w' := by
  have HS := Lib.hid (rstep_any B X M w h hk.low hk.high hk.flt)
  have HO := Lib.hid (RfOp.same h)
  unfold writeR
  cases h0 : s.toList.isEmpty
  · rw [if_neg (by simp)]
    by_cases h1 : writeN M t < 0
    · rw [if_pos h1]
      have he : (hitE M.hit == 0) = false := by
        unfold writeN at h1
        by_cases c : hitE M.hit = 0
        · rw [if_pos c] at h1; omega
        · simp [c]
      have hn : hitN M.hit < 0 := by
        unfold writeN at h1
        rw [if_neg (by simpa using he)] at h1; exact h1
      generalize hitE M.hit = E at *
      generalize hitN M.hit = N at *
      clear h1 hk hf hnf hsz hts
      go_enter Try.func9, Try.ntmps9
      go_wp2_with fail
      refine HS.out.mono ?_
      rintro e w2 ⟨rfl, k1, k2⟩
      have HF := Lib.hid (k1.ticked k2)
      clear k1 k2
      go_wp2_with fail
      go_ret2
      exact ⟨rfl, HF.out⟩
    · rw [if_neg h1]
      obtain ⟨k, hk1⟩ : ∃ k : Nat, min (writeN M t) t.size = (k : Int) := ⟨(min (writeN M t) t.size).toNat, by omega⟩
      rw [hk1, Int.toNat_natCast]
      have hkt : k ≤ t.size := by omega
      have hways : (hitE M.hit = 0 ∧ k = t.size) ∨ ((hitE M.hit == 0) = false ∧ ¬ hitN M.hit < 0 ∧ min (hitN M.hit) (t.size : Int) = (k : Int)) := by
        unfold writeN at h1 hk1
        by_cases c : hitE M.hit = 0
        · rw [if_pos c] at h1 hk1; exact .inl ⟨c, by omega⟩
        · rw [if_neg c] at h1 hk1; exact .inr ⟨by simp [c], h1, hk1⟩
      have HFI : Hid (∀ i : Nat, nmGet M.now s = some i → ∃ f : FileC, M.files[i]? = some f ∧ f.data.length + t.size ≤ 4611686018427387904) := Lib.hid fun i hi => by
        obtain ⟨f, hfi⟩ := hf i hi
        exact ⟨f, hfi, hsz i f hfi⟩
      have hx := text_begin t k
      obtain ⟨d, hd⟩ : ∃ d, d = t.data.toList.take k := ⟨_, rfl⟩
      rw [← hd] at hx ⊢
      have hdl : d.length = k := by
        rw [hd, List.length_take]
        have : t.data.toList.length = t.size := by rw [Array.length_toList]; rfl
        omega
      have HDL := Lib.hid hdl
      have hnow : M.now.length ≤ maxLen := by have := hk.now; unfold maxLen; omega
      have HNW := Lib.hid hnow
      have HKO := Lib.hid hk
      have hkt' : (k : Int) ≤ (t.size : Int) := by omega
      have hk0 : (0 : Int) ≤ (k : Int) := by omega
      have HKT := Lib.hid hkt
      have HNF := Lib.hid hnf
      generalize hE : hitE M.hit = E at *
      generalize hN : hitN M.hit = N at *
      clear hd hdl hnow hk hf hnf hsz h1 hE hN hkt
      have HTS := Lib.hid hts
      clear hts h HO hk1
      cases hg : nmGet M.now s with
      | some i =>
        obtain ⟨f, hfi, hfl⟩ := HFI.out i hg
        have hfn : fileNo M.now s = i := by unfold fileNo; rw [hg]
        have hlay : layR { M with made := M.made + 1 } s d = { M with made := M.made + 1, files := M.files.set i { f with data := f.data ++ d } } := by
          unfold layR
          show (match nmGet M.now s with | some i => _ | none => _) = _
          rw [hg]; simp only; rw [hfi]; rfl
        rw [hlay]
        have HFN := Lib.hid hfn
        have HFF := Lib.hid hfi
        have hil : (i : Int) < (M.files.length : Int) := by have := (List.getElem?_eq_some_iff.1 hfi).1; omega
        have hi0 : ¬ (i : Int) < 0 := by omega
        have hcat1 : f.data.length + k ≤ 4611686018427387904 := by have := HKT.out; omega
        have HC1 := Lib.hid hcat1
        clear hg hfi hfl hfn hlay hcat1 HFI
        rcases hways with ⟨rfl, hkk⟩ | ⟨he, hnn, hmin⟩
        · have hmin : min (t.size : Int) (t.size : Int) = (k : Int) := by omega
          have hts0 : ¬ (t.size : Int) < 0 := by omega
          clear hkk
          go_enter Try.func9, Try.ntmps9
          go_wp2_with fail
          refine HS.out.mono ?_
          rintro e w2 ⟨rfl, ⟨fv, nv, lv, ov, pv, cs, ht⟩, k2⟩
          have HFD := Lib.hid (rfind_any (RSt.now { M with made := M.made + 1 }) nv s w2 ht.now HNW.out)
          have hff : fileNo (RSt.now { M with made := M.made + 1 }) s = i := HFN.out
          rw [hff] at HFD
          obtain ⟨pn, cn, rfl⟩ := ht.now.form
          generalize (RSt.now { M with made := M.made + 1 }).length = nn at *
          obtain ⟨g, c, he2, hXg, hgB, c0, c1, f0, f1⟩ := ht.row (i := i) (f := f) HFF.out
          have hset := ht.setBytes (i := i) (f := f) HFF.out he2 (f.data ++ d)
          obtain ⟨⟨a0, a1, -⟩, -, -, -⟩ := ht.cells
          have HF : Hid (RfOp w B X { M with made := M.made + 1, files := M.files.set i { f with data := f.data ++ d } } (w2.setCell ⟨g, i * 2, none⟩ (.string (⟨f.data.toArray⟩ ++ ⟨d.toArray⟩))).drew) := Lib.hid (by
            rw [text_more]
            exact ⟨X, RfAt.below ⟨_, _, _, _, _, _, hset⟩ (Below.refl _ _).drew, fun _ h => .inl h, (k2.set (.inl hXg)).trans (Rk.of (Below.refl _ _).drew)⟩)
          simp only at he2
          subst he2
          have hcat2 : (⟨f.data.toArray⟩ : ByteArray).size + (⟨d.toArray⟩ : ByteArray).size ≤ 9223372036854775807 := by
            show f.data.toArray.size + d.toArray.size ≤ _
            have := HC1.out; have := HDL.out
            simp; omega
          have hcat3 : ¬ 9223372036854775807 < (⟨f.data.toArray⟩ : ByteArray).size + (⟨d.toArray⟩ : ByteArray).size := by omega
          generalize (⟨f.data.toArray⟩ : ByteArray) = bs at *
          generalize (⟨d.toArray⟩ : ByteArray) = tx at *
          generalize M.files.length = nf at *
          clear hff ht hset hXg hgB k2 c1 f1
          go_wp2_with fail
          refine HFD.out.mono ?_
          rintro e w' ⟨rfl, rfl⟩
          go_wp2_with fail
          go_region
          go_wp2_with fail
          go_ret2
          exact ⟨rfl, HF.out⟩
        · skip
          go_enter Try.func9, Try.ntmps9
          go_wp2_with fail
          refine HS.out.mono ?_
          rintro e w2 ⟨rfl, ⟨fv, nv, lv, ov, pv, cs, ht⟩, k2⟩
          have HFD := Lib.hid (rfind_any (RSt.now { M with made := M.made + 1 }) nv s w2 ht.now HNW.out)
          have hff : fileNo (RSt.now { M with made := M.made + 1 }) s = i := HFN.out
          rw [hff] at HFD
          obtain ⟨pn, cn, rfl⟩ := ht.now.form
          generalize (RSt.now { M with made := M.made + 1 }).length = nn at *
          obtain ⟨g, c, he2, hXg, hgB, c0, c1, f0, f1⟩ := ht.row (i := i) (f := f) HFF.out
          have hset := ht.setBytes (i := i) (f := f) HFF.out he2 (f.data ++ d)
          obtain ⟨⟨a0, a1, -⟩, -, -, -⟩ := ht.cells
          have HF : Hid (RfOp w B X { M with made := M.made + 1, files := M.files.set i { f with data := f.data ++ d } } (w2.setCell ⟨g, i * 2, none⟩ (.string (⟨f.data.toArray⟩ ++ ⟨d.toArray⟩))).drew) := Lib.hid (by
            rw [text_more]
            exact ⟨X, RfAt.below ⟨_, _, _, _, _, _, hset⟩ (Below.refl _ _).drew, fun _ h => .inl h, (k2.set (.inl hXg)).trans (Rk.of (Below.refl _ _).drew)⟩)
          simp only at he2
          subst he2
          have hcat2 : (⟨f.data.toArray⟩ : ByteArray).size + (⟨d.toArray⟩ : ByteArray).size ≤ 9223372036854775807 := by
            show f.data.toArray.size + d.toArray.size ≤ _
            have := HC1.out; have := HDL.out
            simp; omega
          have hcat3 : ¬ 9223372036854775807 < (⟨f.data.toArray⟩ : ByteArray).size + (⟨d.toArray⟩ : ByteArray).size := by omega
          generalize (⟨f.data.toArray⟩ : ByteArray) = bs at *
          generalize (⟨d.toArray⟩ : ByteArray) = tx at *
          generalize M.files.length = nf at *
          clear hff ht hset hXg hgB k2 c1 f1
          go_wp2_with fail
          refine HFD.out.mono ?_
          rintro e w' ⟨rfl, rfl⟩
          go_wp2_with fail
          go_region
          go_wp2_with fail
          go_ret2
          exact ⟨rfl, HF.out⟩
      | none =>
        have hfn : fileNo M.now s = -1 := by unfold fileNo; rw [hg]
        have hlay : layR { M with made := M.made + 1 } s d = { M with made := M.made + 1, files := M.files ++ [⟨d, 0⟩], opn := M.opn ++ [[(s, some M.files.length)]] } := by
          unfold layR
          show (match nmGet M.now s with | some i => _ | none => _) = _
          rw [hg]
        rw [hlay]
        have HFN := Lib.hid hfn
        clear hg hfn hlay HFI
        rcases hways with ⟨rfl, hkk⟩ | ⟨he, hnn, hmin⟩
        · have hmin : min (t.size : Int) (t.size : Int) = (k : Int) := by omega
          have hts0 : ¬ (t.size : Int) < 0 := by omega
          clear hkk
          go_enter Try.func9, Try.ntmps9
          go_wp2_with fail
          refine HS.out.mono ?_
          rintro e w2 ⟨rfl, ⟨fv, nv, lv, ov, pv, cs, ht⟩, k2⟩
          have HFD := Lib.hid (rfind_any (RSt.now { M with made := M.made + 1 }) nv s w2 ht.now HNW.out)
          have hff : fileNo (RSt.now { M with made := M.made + 1 }) s = -1 := HFN.out
          rw [hff] at HFD
          obtain ⟨v4, W4, run4, own4, gr4, hob⟩ := append_files (w := w2.alloc (.cells #[.string ⟨#[]⟩, .int .i64 0] 83)) (base := 0) (A := M.files) (B := [⟨[], 0⟩]) (q := some ⟨w2.heap.size, 0, none⟩) (c := 1) (ht.files.alloc _) (.inr ⟨_, rfl, fun j u hu => by
            have e : fileCells [⟨[], 0⟩] = [.string ⟨#[]⟩, .int .i64 0] := rfl
            rw [e] at hu
            have ea : (⟨w2.heap.size, 0, none⟩ : Addr).add j = ⟨w2.heap.size, j, none⟩ := by unfold Addr.add; split <;> simp_all
            rw [ea]
            have hx := heapLast w2 (.cells #[.string ⟨#[]⟩, .int .i64 0] 83)
            simp only [World.cell?, hx]
            simpa using hu⟩) (by have := HNF.out; simp; omega) (Nat.zero_le _)
          obtain ⟨ht5, k5⟩ := newfile_top ht gr4 ⟨[], 0⟩ own4 hob
          obtain ⟨p4, c4, rfl⟩ : ∃ p c, v4 = .slice p (M.files ++ [(⟨[], 0⟩ : FileC)]).length c := by
            rcases own4.2 with ⟨rfl, h0⟩ | ⟨g, cap, cur, rfl, _⟩
            · exact ⟨none, 0, by rw [h0]⟩
            · exact ⟨_, _, rfl⟩
          obtain ⟨pn, cn, rfl⟩ := ht.now.form
          obtain ⟨pf, cf, hfv⟩ : ∃ p c, fv = .slice p M.files.length c := by
            rcases ht.files.2 with ⟨rfl, h0⟩ | ⟨g, cap, cur, rfl, _⟩
            · exact ⟨none, 0, by rw [show M.files.length = 0 from h0]⟩
            · exact ⟨_, _, rfl⟩
          obtain ⟨⟨a0, a1, -⟩, -, -, -⟩ := ht.cells
          have box4 : W4.frozen? ⟨B, 0, none⟩ = false ∧ ∃ u, W4.cell? ⟨B, 0, none⟩ = some u := by
            have e : W4.heap[B]? = w2.heap[B]? := by
              rw [gr4.block B (by have := ht.lt B ht.here; simp; omega) (fun e => (ht.own B e.symm).2 rfl)]
              exact Below.heap_alloc _ _ _ (ht.lt B ht.here)
            have hb := e.trans ht.box
            exact ⟨(boxSix hb).2 0, _, (boxSix hb).1.1.1⟩
          obtain ⟨fz4, u4, cu4⟩ := box4
          obtain ⟨⟨b0, -, -⟩, -, -, -⟩ := ht5.cells
          have HTN := Lib.hid (rturn_op B _ _ ⟨1, s, ⟨#[]⟩, M.files.length⟩ _ ⟨_, _, _, _, _, _, ht5⟩ (show M.now.length ≤ _ from HKO.out.now) (show M.opn.length ≤ _ from HKO.out.opn))
          have HK5 := Lib.hid k5
          have HK2 := Lib.hid k2
          have hn1 : (M.files ++ [(⟨[], 0⟩ : FileC)]).length = M.files.length + 1 := by simp
          have hwr : wrap64 (((M.files ++ [(⟨[], 0⟩ : FileC)]).length : Int) - 1) = (M.files.length : Int) := by have := HNF.out; rw [hn1]; unfold wrap64; omega
          have hidx : (M.files.length : Int) < ((M.files ++ [(⟨[], 0⟩ : FileC)]).length : Int) := by rw [hn1]; omega
          have HROW : Hid ((M.files ++ [(⟨[], 0⟩ : FileC)])[M.files.length]? = some ⟨[], 0⟩) := Lib.hid (by simp)
          have HSET : Hid ((M.files ++ [(⟨[], 0⟩ : FileC)]).set M.files.length ⟨[] ++ d, 0⟩ = M.files ++ [⟨d, 0⟩]) := Lib.hid (by rw [List.set_append_right _ _ (Nat.le_refl _)]; simp)
          have HN1 := Lib.hid (rfl : (M.files ++ [(⟨[], 0⟩ : FileC)]).length = (M.files ++ [(⟨[], 0⟩ : FileC)]).length)
          subst hfv
          generalize (RSt.now { M with made := M.made + 1 }).length = nn at *
          have hHN : ∀ z, z = (M.files ++ [(⟨[], 0⟩ : FileC)]).length → Hid ((M.files ++ [(⟨[], 0⟩ : FileC)]).length = z) := fun z h => Lib.hid h.symm
          obtain ⟨n1, hn1e⟩ : ∃ n1, n1 = (M.files ++ [(⟨[], 0⟩ : FileC)]).length := ⟨_, rfl⟩
          have HNE := hHN n1 hn1e
          rw [← hn1e] at run4 hwr hidx b0 HTN HK5
          clear hff ht ht5 k5 k2 own4 gr4 hob hn1 hHN HN1
          obtain ⟨nf, hnfe⟩ : ∃ nf, nf = M.files.length := ⟨_, rfl⟩
          rw [← hnfe] at a0 run4 hwr hidx HROW HSET
          have HNFE := Lib.hid hnfe
          have hTN2 := HTN.out
          rw [← hnfe] at hTN2
          have HTN2 := Lib.hid hTN2
          clear hnfe hn1e HTN hTN2
          go_wp2_with fail
          refine HFD.out.mono ?_
          rintro e w' ⟨rfl, rfl⟩
          go_wp2_with (first
            | (at_builtin; refine wpList_append_run (by rfl) _ _ _ _ (by rfl) _ _ (.slice p4 n1 c4) W4 (by rfl) (by rfl) run4 ?_))
          refine HTN2.out.mono ?_
          rintro e w6 ⟨rfl, X6, ⟨fv6, nv6, lv6, ov6, pv6, cs6, ht6⟩, hX6, hk6⟩
          obtain ⟨g, c, he2, hXg, hgB, c0, c1, f0, f1⟩ := ht6.row (i := nf) (f := ⟨[], 0⟩) HROW.out
          have hset := ht6.setBytes (i := nf) (f := ⟨[], 0⟩) HROW.out he2 ([] ++ d)
          obtain ⟨⟨a60, -, -⟩, -, -, -⟩ := ht6.cells
          have HF : Hid (RfOp w B X { M with made := M.made + 1, files := M.files ++ [⟨d, 0⟩], opn := M.opn ++ [[(s, some M.files.length)]] } (w6.setCell ⟨g, nf * 2, none⟩ (.string ((⟨([] : List UInt8).toArray⟩ : ByteArray) ++ ⟨d.toArray⟩))).drew) := Lib.hid (by
            rw [text_more, ← HNFE.out]
            have hs2 := hset
            simp only [HSET.out] at hs2
            have hy5 : ∀ b, (X b ∨ (w2.heap.size ≤ b ∧ b < W4.heap.size)) → X b ∨ w2.heap.size ≤ b := fun b h => h.imp id And.left
            refine RfOp.then (w := w) (Y := X) (fun _ h => .inl h) HK2.out (RfOp.then hy5 HK5.out ?_)
            exact ⟨X6, RfAt.below ⟨_, _, _, _, _, _, hs2⟩ (Below.refl _ _).drew, hX6, (hk6.set (hX6 g hXg)).trans (Rk.of (Below.refl _ _).drew)⟩)
          simp only at he2
          rw [HNE.out] at he2
          subst he2
          have hcat2 : (⟨([] : List UInt8).toArray⟩ : ByteArray).size + (⟨d.toArray⟩ : ByteArray).size ≤ 9223372036854775807 := by
            show 0 + d.toArray.size ≤ _
            have := HKT.out; have := HDL.out; have := HTS.out
            simp; omega
          have hcat3 : ¬ 9223372036854775807 < (⟨([] : List UInt8).toArray⟩ : ByteArray).size + (⟨d.toArray⟩ : ByteArray).size := by omega
          generalize (⟨([] : List UInt8).toArray⟩ : ByteArray) = bs at *
          generalize (⟨d.toArray⟩ : ByteArray) = tx at *
          clear ht6 hset hXg hgB c1 f1 hX6 hk6 a0 a1 b0 fz4 cu4 run4
          go_wp2_with fail
          go_region
          go_wp2_with fail
          go_ret2
          exact ⟨rfl, HF.out⟩
        · skip
          go_enter Try.func9, Try.ntmps9
          go_wp2_with fail
          refine HS.out.mono ?_
          rintro e w2 ⟨rfl, ⟨fv, nv, lv, ov, pv, cs, ht⟩, k2⟩
          have HFD := Lib.hid (rfind_any (RSt.now { M with made := M.made + 1 }) nv s w2 ht.now HNW.out)
          have hff : fileNo (RSt.now { M with made := M.made + 1 }) s = -1 := HFN.out
          rw [hff] at HFD
          obtain ⟨v4, W4, run4, own4, gr4, hob⟩ := append_files (w := w2.alloc (.cells #[.string ⟨#[]⟩, .int .i64 0] 83)) (base := 0) (A := M.files) (B := [⟨[], 0⟩]) (q := some ⟨w2.heap.size, 0, none⟩) (c := 1) (ht.files.alloc _) (.inr ⟨_, rfl, fun j u hu => by
            have e : fileCells [⟨[], 0⟩] = [.string ⟨#[]⟩, .int .i64 0] := rfl
            rw [e] at hu
            have ea : (⟨w2.heap.size, 0, none⟩ : Addr).add j = ⟨w2.heap.size, j, none⟩ := by unfold Addr.add; split <;> simp_all
            rw [ea]
            have hx := heapLast w2 (.cells #[.string ⟨#[]⟩, .int .i64 0] 83)
            simp only [World.cell?, hx]
            simpa using hu⟩) (by have := HNF.out; simp; omega) (Nat.zero_le _)
          obtain ⟨ht5, k5⟩ := newfile_top ht gr4 ⟨[], 0⟩ own4 hob
          obtain ⟨p4, c4, rfl⟩ : ∃ p c, v4 = .slice p (M.files ++ [(⟨[], 0⟩ : FileC)]).length c := by
            rcases own4.2 with ⟨rfl, h0⟩ | ⟨g, cap, cur, rfl, _⟩
            · exact ⟨none, 0, by rw [h0]⟩
            · exact ⟨_, _, rfl⟩
          obtain ⟨pn, cn, rfl⟩ := ht.now.form
          obtain ⟨pf, cf, hfv⟩ : ∃ p c, fv = .slice p M.files.length c := by
            rcases ht.files.2 with ⟨rfl, h0⟩ | ⟨g, cap, cur, rfl, _⟩
            · exact ⟨none, 0, by rw [show M.files.length = 0 from h0]⟩
            · exact ⟨_, _, rfl⟩
          obtain ⟨⟨a0, a1, -⟩, -, -, -⟩ := ht.cells
          have box4 : W4.frozen? ⟨B, 0, none⟩ = false ∧ ∃ u, W4.cell? ⟨B, 0, none⟩ = some u := by
            have e : W4.heap[B]? = w2.heap[B]? := by
              rw [gr4.block B (by have := ht.lt B ht.here; simp; omega) (fun e => (ht.own B e.symm).2 rfl)]
              exact Below.heap_alloc _ _ _ (ht.lt B ht.here)
            have hb := e.trans ht.box
            exact ⟨(boxSix hb).2 0, _, (boxSix hb).1.1.1⟩
          obtain ⟨fz4, u4, cu4⟩ := box4
          obtain ⟨⟨b0, -, -⟩, -, -, -⟩ := ht5.cells
          have HTN := Lib.hid (rturn_op B _ _ ⟨1, s, ⟨#[]⟩, M.files.length⟩ _ ⟨_, _, _, _, _, _, ht5⟩ (show M.now.length ≤ _ from HKO.out.now) (show M.opn.length ≤ _ from HKO.out.opn))
          have HK5 := Lib.hid k5
          have HK2 := Lib.hid k2
          have hn1 : (M.files ++ [(⟨[], 0⟩ : FileC)]).length = M.files.length + 1 := by simp
          have hwr : wrap64 (((M.files ++ [(⟨[], 0⟩ : FileC)]).length : Int) - 1) = (M.files.length : Int) := by have := HNF.out; rw [hn1]; unfold wrap64; omega
          have hidx : (M.files.length : Int) < ((M.files ++ [(⟨[], 0⟩ : FileC)]).length : Int) := by rw [hn1]; omega
          have HROW : Hid ((M.files ++ [(⟨[], 0⟩ : FileC)])[M.files.length]? = some ⟨[], 0⟩) := Lib.hid (by simp)
          have HSET : Hid ((M.files ++ [(⟨[], 0⟩ : FileC)]).set M.files.length ⟨[] ++ d, 0⟩ = M.files ++ [⟨d, 0⟩]) := Lib.hid (by rw [List.set_append_right _ _ (Nat.le_refl _)]; simp)
          have HN1 := Lib.hid (rfl : (M.files ++ [(⟨[], 0⟩ : FileC)]).length = (M.files ++ [(⟨[], 0⟩ : FileC)]).length)
          subst hfv
          generalize (RSt.now { M with made := M.made + 1 }).length = nn at *
          have hHN : ∀ z, z = (M.files ++ [(⟨[], 0⟩ : FileC)]).length → Hid ((M.files ++ [(⟨[], 0⟩ : FileC)]).length = z) := fun z h => Lib.hid h.symm
          obtain ⟨n1, hn1e⟩ : ∃ n1, n1 = (M.files ++ [(⟨[], 0⟩ : FileC)]).length := ⟨_, rfl⟩
          have HNE := hHN n1 hn1e
          rw [← hn1e] at run4 hwr hidx b0 HTN HK5
          clear hff ht ht5 k5 k2 own4 gr4 hob hn1 hHN HN1
          obtain ⟨nf, hnfe⟩ : ∃ nf, nf = M.files.length := ⟨_, rfl⟩
          rw [← hnfe] at a0 run4 hwr hidx HROW HSET
          have HNFE := Lib.hid hnfe
          have hTN2 := HTN.out
          rw [← hnfe] at hTN2
          have HTN2 := Lib.hid hTN2
          clear hnfe hn1e HTN hTN2
          go_wp2_with fail
          refine HFD.out.mono ?_
          rintro e w' ⟨rfl, rfl⟩
          go_wp2_with (first
            | (at_builtin; refine wpList_append_run (by rfl) _ _ _ _ (by rfl) _ _ (.slice p4 n1 c4) W4 (by rfl) (by rfl) run4 ?_))
          refine HTN2.out.mono ?_
          rintro e w6 ⟨rfl, X6, ⟨fv6, nv6, lv6, ov6, pv6, cs6, ht6⟩, hX6, hk6⟩
          obtain ⟨g, c, he2, hXg, hgB, c0, c1, f0, f1⟩ := ht6.row (i := nf) (f := ⟨[], 0⟩) HROW.out
          have hset := ht6.setBytes (i := nf) (f := ⟨[], 0⟩) HROW.out he2 ([] ++ d)
          obtain ⟨⟨a60, -, -⟩, -, -, -⟩ := ht6.cells
          have HF : Hid (RfOp w B X { M with made := M.made + 1, files := M.files ++ [⟨d, 0⟩], opn := M.opn ++ [[(s, some M.files.length)]] } (w6.setCell ⟨g, nf * 2, none⟩ (.string ((⟨([] : List UInt8).toArray⟩ : ByteArray) ++ ⟨d.toArray⟩))).drew) := Lib.hid (by
            rw [text_more, ← HNFE.out]
            have hs2 := hset
            simp only [HSET.out] at hs2
            have hy5 : ∀ b, (X b ∨ (w2.heap.size ≤ b ∧ b < W4.heap.size)) → X b ∨ w2.heap.size ≤ b := fun b h => h.imp id And.left
            refine RfOp.then (w := w) (Y := X) (fun _ h => .inl h) HK2.out (RfOp.then hy5 HK5.out ?_)
            exact ⟨X6, RfAt.below ⟨_, _, _, _, _, _, hs2⟩ (Below.refl _ _).drew, hX6, (hk6.set (hX6 g hXg)).trans (Rk.of (Below.refl _ _).drew)⟩)
          simp only at he2
          rw [HNE.out] at he2
          subst he2
          have hcat2 : (⟨([] : List UInt8).toArray⟩ : ByteArray).size + (⟨d.toArray⟩ : ByteArray).size ≤ 9223372036854775807 := by
            show 0 + d.toArray.size ≤ _
            have := HKT.out; have := HDL.out; have := HTS.out
            simp; omega
          have hcat3 : ¬ 9223372036854775807 < (⟨([] : List UInt8).toArray⟩ : ByteArray).size + (⟨d.toArray⟩ : ByteArray).size := by omega
          generalize (⟨([] : List UInt8).toArray⟩ : ByteArray) = bs at *
          generalize (⟨d.toArray⟩ : ByteArray) = tx at *
          clear ht6 hset hXg hgB c1 f1 hX6 hk6 a0 a1 b0 fz4 cu4 run4
          go_wp2_with fail
          go_region
          go_wp2_with fail
          go_ret2
          exact ⟨rfl, HF.out⟩
  · rw [if_pos rfl]
    clear hk hf hnf hsz hts HS
    go_enter Try.func9, Try.ntmps9
    go_wp2_with fail
    go_ret2
    exact ⟨rfl, HO.out⟩
end Go.Proofs.Ytblhbkhehddccaa
