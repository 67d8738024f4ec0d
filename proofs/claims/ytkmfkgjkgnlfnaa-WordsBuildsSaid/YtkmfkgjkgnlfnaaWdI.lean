/- The keys of a map of whole numbers, sorted, as the library tells them. Conditions: those that each theorem names. -/
import Derived.Test.YtkmfkgjkgnlfnaaItrLay
import Derived.Test.YtkmfkgjkgnlfnaaMp
import Derived.Test.YtkmfkgjkgnlfnaaIdQ
namespace Go.Proofs.Ytkmfkgjkgnlfnaa
set_option linter.unusedVariables false
namespace Wd
open Go Go.RowKit Go.Maps Go.Sort Go.Shelf Ids
open Go.WideElems (Fit rd rg rd_key rg_of)
theorem int_keyed : Keyed Try.prog 3 := Go.Maps.int_keyed Try.underlying3
theorem key_int {x : Int} (h : (Lit.int .i64 x).wf = true) : keyOf Try.prog 3 (.int .i64 x) = some (.int .i64 x) := keyOf_int_mk Try.underlying3 h
/-- Such a map as the library's contracts read it. -/
theorem mp_owns {w : World} {b n : Nat} {S : Value → Value → Prop} (h : Mp Try.prog 3 w b S n) :
    ∃ D0 : DataW Unit, w.ownsMap Try.prog 3 anyR b n D0 ∧ Maps.size D0 = n ∧ (intKeys D0).Nodup ∧ ∀ x, x ∈ intKeys D0 ↔ ∃ u, S (.int .i64 x) u := by
  have hkp := h
  obtain ⟨es, clock, hb, F, hn, hS⟩ := h
  refine ⟨_, ⟨es, clock, hb, F, Nat.le_of_eq hn, rfl⟩, by simp [Maps.size, length_sorted, hn], ?_, fun x => ?_⟩
  · show (List.map _ _).Nodup
    have hp : ((es.toList.map (rg Try.prog 3 anyR)).foldr DataW.insert []).Pairwise (fun p q => p.1 ≠ q.1) := ((Go.WideShapes.sorted_perm _).pairwise_iff (fun {_ _} hne => Ne.symm hne)).2 (Maps.fit_apart int_keyed F)
    refine List.pairwise_map.2 (hp.imp_of_mem fun {p q} hp' hq' hne e => hne ?_)
    have shape : ∀ p ∈ (es.toList.map (rg Try.prog 3 anyR)).foldr DataW.insert [], ∃ a, p.1 = .int .i64 a := fun p hp => by
      obtain ⟨x, hx, rfl⟩ := List.mem_map.1 (mem_sorted.1 hp)
      obtain ⟨y, hy⟩ := F.reads x hx
      rw [rg_of hy]
      obtain ⟨a, _, ha, _⟩ := Maps.keyOf_i64 Try.underlying3 (rd_key hy)
      exact ⟨a, ha⟩
    obtain ⟨a, ha⟩ := shape p hp'
    obtain ⟨c, hc⟩ := shape q hq'
    rw [ha, hc] at e ⊢
    exact congrArg _ e
  · show x ∈ List.map _ _ ↔ _
    rw [List.mem_map]
    constructor
    · rintro ⟨p, hp, rfl⟩
      obtain ⟨e, he, rfl⟩ := List.mem_map.1 (mem_sorted.1 hp)
      obtain ⟨y, hy⟩ := F.reads e he
      obtain ⟨a, ha, ha2, _⟩ := Maps.keyOf_i64 Try.underlying3 (rd_key hy)
      rw [rg_of hy, ha2]
      exact ⟨e.val, (hS _ _).1 ⟨e, he, ha, rfl⟩⟩
    · rintro ⟨u, hu⟩
      obtain ⟨e, he, hk, _⟩ := (hS _ _).2 hu
      obtain ⟨y, hy⟩ := F.reads e he
      obtain ⟨a, ha, ha2, _⟩ := Maps.keyOf_i64 Try.underlying3 (rd_key hy)
      refine ⟨rg Try.prog 3 anyR e, mem_sorted.2 (List.mem_map.2 ⟨e, he, rfl⟩), ?_⟩
      rw [rg_of hy, ha2]
      exact (encZ_inj (hk.symm.trans ha)).symm
/-- Unlike numbers sorted rise. -/
theorem srtL_ris {L : List Int} (h : L.Nodup) : Ris (srtL L) := by
  have hs := List.pairwise_mergeSort (le := fun x y : Int => decide (x ≤ y)) (fun a b c h1 h2 => by simp only [decide_eq_true_eq] at *; omega) (fun a b => by simp only [Bool.or_eq_true, decide_eq_true_eq]; omega) L
  have hn : (srtL L).Nodup := (List.mergeSort_perm L _).nodup_iff.2 h
  refine (hs.and hn).imp fun {a b} ⟨h1, h2⟩ => ?_
  simp only [decide_eq_true_eq] at h1
  omega
theorem mem_srtL {L : List Int} {x : Int} : x ∈ srtL L ↔ x ∈ L := (List.mergeSort_perm L _).mem_iff
theorem sorts_in (m : Nat) : AnyZI.SortsIn Try.prog Try.sortedI_ren Fence.wide m :=
  ⟨fun blk off cap ss W hH hblk hsz => callsIn_wide.2 (AnyM.slices_Sort_int Try.sortI blk off cap ss W hH hblk hsz),
   fun p cap W => callsIn_wide.2 (AnyM.slices_Sort_int_none Try.sortI p cap W)⟩
theorem keys_any (mb : Option Nat) (W : World) : Calls Try.prog 26 #[.map mb] W fun e w' => e = .returned (.func (.func 40) #[] #[.pointer (some ⟨W.heap.size, 0, none⟩)]) ∧ w' = W.alloc (.cells #[.map mb] 55) :=
  (callsIn_wide (n := 5)).1 (AnyZI.keys_in Try.keysI Fence.wide 5 trivial rfl mb W)
set_option maxHeartbeats 1000000 in
/-- slices.Sorted at what maps.Keys handed back ('w': the world ahead of maps.Keys). -/
theorem sorted_any {w : World} {b n : Nat} {S : Value → Value → Prop} (h : Mp Try.prog 3 w b S n) (hn : n * 8 ≤ 140737488355328) :
    Calls Try.prog 25 #[.func (.func 40) #[] #[.pointer (some ⟨w.heap.size, 0, none⟩)]] (w.alloc (.cells #[.map (some b)] 55)) fun e w' => ∃ v L, e = .returned v ∧ Ris L ∧ (∀ x, x ∈ L ↔ ∃ u, S (.int .i64 x) u) ∧ L.length = n ∧ Own w' w.heap.size v L ∧ Below w.heap.size w w' := by
  obtain ⟨D0, hown, hsz, hnd, hmem⟩ := mp_owns h
  have hbl := hown.lt
  have hmax : Maps.size D0 ≤ maxLen := by rw [hsz]; unfold maxLen; omega
  have hbytes : Maps.size D0 * 8 ≤ 140737488355328 := by rw [hsz]; exact hn
  have hlen : (intKeys D0).length = n := by rw [← hsz]; cases D0 <;> first | rfl | simp [intKeys, Maps.size]
  have hseq : SeqGives Fence.wide 2 Try.prog 40 #[.pointer (some ⟨w.heap.size, 0, none⟩)] encZ (fun ss => ss.Perm (intKeys D0)) (Maps.size D0) (w.alloc (.cells #[.map (some b)] 55)) :=
    AnyZI.keys_gives (ρ := Try.keysI_ren) { Try.keysI with } Fence.wide _ trivial rfl (by omega) w.heap.size b n D0 _ (by simp) (by simp) (by
      obtain ⟨es, clock, hb, Ft, hs, hD⟩ := hown
      exact ⟨es, clock, (Below.heap_alloc _ _ b hbl).trans hb, Ft, hs, hD⟩)
  have cS := AnyZI.sorted_in Try.sortedI Fence.wide 5 trivial trivial trivial trivial rfl (by omega) (sorts_in _) (enters_of Try.func34 (by kernel_rfl) rfl) 40 #[.pointer (some ⟨w.heap.size, 0, none⟩)] trivial (enters_of Try.func40 (by kernel_rfl) rfl) _ _ hmax hbytes _ hseq
  change CallsIn _ _ Try.prog 25 _ _ _ at cS
  refine ((callsIn_wide (n := 5)).1 cS).mono ?_
  rintro e w' ⟨v, ss, rfl, hp, hrow, _, hb⟩
  have hnd2 : ss.Nodup := hp.nodup_iff.2 hnd
  refine ⟨v, srtL ss, rfl, srtL_ris hnd2, fun x => by rw [mem_srtL, hp.mem_iff, hmem], by rw [srtL_length, hp.length_eq, hlen], ?_, ((Below.refl _ w).alloc (Nat.le_refl _) _).trans (hb.mono (by simp))⟩
  have hr2 : w'.ownsRow (w.alloc (.cells #[.map (some b)] 55)).heap.size 3 1 v (srtL ss).length (ints (srtL ss)) := by rw [srtL_length]; exact hrow
  exact own_base hr2 (by simp)
end Wd
end Go.Proofs.Ytkmfkgjkgnlfnaa
