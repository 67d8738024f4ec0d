/- The document's own disk: Names. Conditions: those that each theorem names. -/
import Derived.Test.YtblhbkhehddccaaRfPlan
namespace Go.Proofs.Ytblhbkhehddccaa
set_option linter.unusedVariables false
open Go.RowKit Dk
def txCells (L : List Nm) : List Value := L.flatMap fun s => [.string s]
theorem infoTxt : (Try.prog.info? 9).map (fun i => (i.zero, i.size, i.bytes)) = some (some (.string ⟨#[]⟩), 1, 16) := by kernel_rfl
/-- A row of names behind an own one: the source may be nil. -/
theorem append_texts {w : World} {base : Nat} {v : Value} {A B : List Nm} {q : Option Addr} {c : Nat} (hown : w.ownsRow base 9 1 v A.length (txCells A))
    (hs : (q = none ∧ B = []) ∨ ∃ ad, q = some ad ∧ ∀ j u, (txCells B)[j]? = some u → w.cell? (ad.add j) = some u) (hb : A.length + B.length ≤ 2199023255552) (hbase : base ≤ w.heap.size) :
    ∃ v' w', (∀ ty, (Builtin.append_ #[69, 69] ty #[v, .slice q B.length c]).run Try.prog w = .ok v' w') ∧ w'.ownsRow base 9 1 v' (A ++ B).length (txCells (A ++ B)) ∧ w.grownBy w' v.ownBlock := by
  obtain ⟨i0, hi, hz0, hz1, hz2⟩ := info_parts infoTxt
  have hlen : ∀ L : List Nm, (txCells L).length = L.length * 1 := fun L => by
    induction L with
    | nil => rfl
    | cons p r ih => show (txCells r).length + 1 = _; rw [ih, List.length_cons]; omega
  rcases hs with ⟨rfl, rfl⟩ | ⟨ad, rfl, hc⟩
  · refine ⟨v, w, fun ty => ?_, by simpa using hown, ⟨rfl, rfl, rfl, Nat.le_refl _, fun _ _ _ => rfl⟩⟩
    have ht := Try.underlying69
    rcases hown.2 with ⟨rfl, h0⟩ | ⟨g, cap, cur, rfl, _, hg, h1, _⟩
    · simp [Builtin.append_, run_underlying ht, sizeOf, typeInfo, hi, Builtin.lenOf, Builtin.firstCells]
    · simp [Builtin.append_, run_underlying ht, sizeOf, typeInfo, hi, Builtin.lenOf, Builtin.firstCells, storeCells, h1]
  · obtain ⟨v', w', hr, h2, h3, _⟩ := run_append_own_at (P := Try.prog) w base 69 69 9 i0 _ 1 16 Try.underlying69 hi hz0 hz1 hz2 rfl (by decide) v A.length (txCells A) hown ad B.length c (txCells B) (hlen B) hc
      (fun u hu => by
        obtain ⟨p, _, hp⟩ := List.mem_flatMap.1 hu
        simp at hp
        subst hp; rfl) (by unfold maxLen; omega) (by omega) hbase
    have e : txCells (A ++ B) = txCells A ++ txCells B := by simp [txCells]
    exact ⟨v', w', fun _ => hr, by rw [e, List.length_append]; exact h2, h3⟩
theorem take_names {L : List (Nm × Nat)} {k : Nat} (h : k < L.length) : (L.take (k + 1)).map (fun p => p.1) = (L.take k).map (fun p => p.1) ++ [(L[k]).1] := by
  rw [List.take_succ_eq_append_getElem h, List.map_append]; rfl
set_option maxHeartbeats 2000000 in
set_option maxRecDepth 100000 in
theorem rnames2_any (B : Nat) (X : Nat → Prop) (M : RSt) (w : World) (h : RfAt w B X M) (hn : M.now.length ≤ 1099511627776) :
    Calls Try.prog 28 #[.pointer (some ⟨B, 0, none⟩)] w fun e w' => (∃ u, e = .returned u ∧ w'.ownsRow w.heap.size 9 1 u (M.now.map fun p => p.1).length (txCells (M.now.map fun p => p.1))) ∧ Below w.heap.size w w' := by
  obtain ⟨fv, nv, lv, ov, pv, cs, ht⟩ := h
  have HT := Lib.hid ht
  obtain ⟨pn, cn, rfl⟩ := ht.now.form
  obtain ⟨n, hnn⟩ : ∃ n, n = M.now.length := ⟨_, rfl⟩
  have HNN := Lib.hid hnn
  have HNL : Hid (n ≤ 1099511627776) := Lib.hid (by rw [hnn]; exact hn)
  rw [← hnn] at HT
  clear ht hn hnn
  go_enter Try.func28, Try.ntmps28
  go_wp2_with fail
  go_loopw [3, 4] (fun u i wr => ∃ k : Nat, k ≤ n ∧ i = .int .i64 k ∧ wr.ownsRow w.heap.size 9 1 u ((M.now.take k).map fun p => p.1).length (txCells ((M.now.take k).map fun p => p.1)) ∧ Below w.heap.size w wr) (fun _ i _ => n - (intOf i).toNat)
  case atStart => exact ⟨0, Nat.zero_le _, rfl, World.ownsRow_nil w _ _ _, Below.refl _ _⟩
  case round =>
    obtain ⟨k, hk, rfl, ho, hb⟩ := hrel
    have HB := Lib.hid hb
    have HO := Lib.hid ho
    obtain ⟨wq, rfl⟩ : ∃ wq : World, wq = wr := ⟨_, rfl⟩
    obtain ⟨⟨-, a1, -⟩, -, -, -⟩ := (HT.out.below hb).cells
    have hkb : k < 1099511627777 := by have := HNL.out; omega
    clear hb ho
    by_cases hlt : k < n
    · have hlk : k < M.now.length := by rw [← HNN.out]; exact hlt
      obtain ⟨g, off, rfl, hg, hc⟩ := HT.out.now.at hlk
      obtain ⟨c0, -⟩ := hc wq (HB.out.block g hg)
      have VX := Lib.hid (take_names hlk)
      generalize (M.now[k]).1 = s at *
      obtain ⟨v', w', run, own, gr⟩ := append_texts (w := wq.alloc (.cells #[.string s] 9)) (base := w.heap.size) (B := [s]) (q := some ⟨wq.heap.size, 0, none⟩) (c := 1) (HO.out.alloc _) (.inr ⟨_, rfl, fun j u hu => by
        match j, hu with
        | 0, hu =>
          simp [txCells] at hu; subst hu
          have hx := heapLast wq (.cells #[.string s] 9)
          have ea : (⟨wq.heap.size, 0, none⟩ : Addr).add 0 = ⟨wq.heap.size, 0, none⟩ := by simp [Addr.add]
          rw [ea]
          unfold World.cell?
          simp only
          rw [hx]; rfl⟩) (by rw [List.length_map, List.length_take]; have := HNL.out; simp; omega) (by simp; exact Nat.le_succ_of_le HB.out.size)
      have HB2 := Lib.hid ((HB.out.alloc HB.out.size (.cells #[.string s] 9)).grown gr (by simp; exact Nat.le_succ_of_le HB.out.size) (fun g hg => (HO.out.lt g hg).1))
      rw [← VX.out] at own
      have HO2 := Lib.hid own
      clear own gr hlk hc hg
      go_wp2_with (at_builtin; refine wpList_append_run (by rfl) _ _ _ _ (by rfl) _ _ v' w' (by rfl) (by rfl) run ?_)
      go_roundw
      case rel => exact ⟨k + 1, by omega, by first | rfl | go_num, HO2.out, HB2.out⟩
      case measure => simp [intOf]; omega
    · obtain rfl : k = n := by omega
      have HF := HO.out
      rw [HNN.out, List.take_length] at HF
      have HFF := Lib.hid HF
      clear HF
      go_wp2_with fail
      go_ret
      exact ⟨⟨_, rfl, HFF.out⟩, HB.out⟩
end Go.Proofs.Ytblhbkhehddccaa
