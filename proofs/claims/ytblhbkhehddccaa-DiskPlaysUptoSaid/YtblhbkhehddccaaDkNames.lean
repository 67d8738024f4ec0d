/- What Names of package disk tells of a disk in memory. Conditions: those that each theorem names. -/
import Derived.Test.YtblhbkhehddccaaDkShort
import Derived.Test.YtblhbkhehddccaaIter
namespace Go.Proofs.Ytblhbkhehddccaa
open Go.RowKit Dk
open Go.WideElems (Fit rd rg rd_key rd_mk rg_of)

def nameKeys (L : List (Nm × Nat)) : List (List UInt8) := L.map fun p => p.1.data.toList
theorem sorted_keys {L : List (Nm × Nat)} (h : Sorted L) : (nameKeys L).Pairwise (fun a b => a < b) := by
  unfold nameKeys
  rw [List.pairwise_map]
  exact h.imp (fun hab => by simpa [ltN] using hab)
theorem merged_keys {L : List (Nm × Nat)} (h : Sorted L) {ss : List (List UInt8)} (hp : ss.Perm (nameKeys L)) : ss.mergeSort (fun x y => decide (x ≤ y)) = nameKeys L := by
  have h1 := List.pairwise_mergeSort (le := fun x y : List UInt8 => decide (x ≤ y)) (fun a b c hab hbc => by simp only [decide_eq_true_eq] at *; exact List.le_trans hab hbc) (fun a b => by
    simp only [Bool.or_eq_true, decide_eq_true_eq]; exact List.le_total a b) ss
  have h2 := (List.mergeSort_perm ss (fun x y => decide (x ≤ y))).trans hp
  refine List.Perm.eq_of_pairwise (le := fun a b => a ≤ b) (fun a b _ _ hab hba => List.le_antisymm hab hba) (h1.imp (fun h => by simpa using h)) ((sorted_keys h).imp (fun h => List.le_of_lt h)) h2
theorem names_owns {w : World} {b : Nat} {fb : List Nat} {L : List (Nm × Nat)} (hM : Mp Try.prog 9 w b (namesS fb L) L.length) (hs : Sorted L) (hf : ∀ p ∈ L, p.2 < fb.length) :
    ∃ D0 : DataW Unit, w.ownsMap Try.prog 9 anyR b L.length D0 ∧ Maps.size D0 = L.length ∧ (Go.strKeys D0).Perm (nameKeys L) := by
  obtain ⟨es, clock, hb, F, hn, hS⟩ := hM
  refine ⟨_, ⟨es, clock, hb, F, by omega, rfl⟩, ?_, ?_⟩
  · show ((es.toList.map (rg Try.prog 9 anyR)).foldr DataW.insert []).length = _
    rw [(Go.WideShapes.sorted_perm _).length_eq, List.length_map, Array.length_toList, hn]
  · have hkey : ∀ e ∈ es.toList, ∃ n, e.key = .string n ∧ (rg Try.prog 9 anyR e).1 = .string n.data.toList ∧ ∃ i, (n, i) ∈ L := by
      intro e he
      obtain ⟨n, i, B, h1, h2, h3, h4⟩ := (hS e.key e.val).1 ⟨e, he, rfl, rfl⟩
      obtain ⟨y, hy⟩ := F.reads e he
      refine ⟨n, h3, ?_, i, h1⟩
      rw [rg_of hy]
      have hk := rd_key hy
      rw [h3] at hk
      obtain ⟨l, hl⟩ := F.keys e he
      rw [h3] at hl
      have hsz : n.size ≤ maxLen := by
        by_cases c : n.size ≤ maxLen
        · exact c
        · exfalso
          have : keyOf Try.prog 9 (.string n) = none := by simp [keyOf, Try.underlying9, mapKey, c]
          rw [this] at hl; cases hl
      rw [strKey hsz] at hk
      exact (Option.some.inj hk).symm
    have hsk : ∀ (l : List (Lit × DataW Unit)), Go.strKeys (.map l) = l.map fun p => Go.strOf p.1 := fun _ => rfl
    have hperm : (Go.strKeys (.map ((es.toList.map (rg Try.prog 9 anyR)).foldr DataW.insert []))).Perm (es.toList.map fun e => Go.strOf (rg Try.prog 9 anyR e).1) := by
      generalize hr : rg (H := Unit) Try.prog 9 anyR = r
      rw [hsk]
      have := (Go.WideShapes.sorted_perm (es.toList.map r)).map (fun p => Go.strOf p.1)
      rw [List.map_map] at this
      exact this
    refine hperm.trans ?_
    refine (List.perm_ext_iff_of_nodup ?_ ?_).2 ?_
    · have hnd := F.stamped.2.2
      rw [List.nodup_iff_pairwise_ne, List.pairwise_map] at hnd ⊢
      refine hnd.imp_of_mem (fun {a b} ha hb hab e => hab ?_)
      obtain ⟨n, h1, h2, _⟩ := hkey a ha
      obtain ⟨n', h3, h4, _⟩ := hkey b hb
      rw [h2, h4] at e
      have : n.data.toList = n'.data.toList := e
      rw [h1, h3, nm_ext this]
    · exact (sorted_keys hs).imp (fun h e => by rw [e] at h; exact List.lt_irrefl _ h)
    · intro a
      simp only [List.mem_map, nameKeys]
      constructor
      · rintro ⟨e, he, rfl⟩
        obtain ⟨n, h1, h2, i, h3⟩ := hkey e he
        exact ⟨(n, i), h3, by rw [h2]; rfl⟩
      · rintro ⟨⟨n, i⟩, hm, rfl⟩
        have hi := hf _ hm
        obtain ⟨e, he, h1, h2⟩ := (hS _ _).2 ⟨n, i, fb[i]'hi, hm, List.getElem?_eq_getElem hi, rfl, rfl⟩
        refine ⟨e, he, ?_⟩
        obtain ⟨n', h3, h4, _⟩ := hkey e he
        rw [h1] at h3
        rw [h4, Value.string.inj h3]; rfl

/-- The names, rising, in new memory. -/
def NamesOut (w : World) (L : List (Nm × Nat)) (e : Ending) (w' : World) : Prop := ∃ p c, e = .returned (.slice p L.length c) ∧ w'.ownsRow w.heap.size 9 1 (.slice p L.length c) L.length (L.map fun x => .string x.1) ∧ Below w.heap.size w w'
theorem names_row (L : List (Nm × Nat)) : (nameKeys L).map Go.Proofs.encStr = L.map fun x => Value.string x.1 := by
  unfold nameKeys
  rw [List.map_map]
  refine List.map_congr_left (fun x _ => ?_)
  simp [Go.Proofs.encStr]
theorem ownsRow_slice {w : World} {base n size : Nat} {e : TypeId} {v : Value} {xs : List Value} (h : w.ownsRow base e size v n xs) : ∃ p c, v = .slice p n c := by
  rcases h.2 with ⟨rfl, rfl⟩ | ⟨g, cap, cur, rfl, _⟩ <;> exact ⟨_, _, rfl⟩
set_option maxHeartbeats 1000000 in
theorem names_nil (w : World) :
    Calls Try.prog 27 #[.pointer none] w fun e w' => e = .returned (.slice none 0 0) ∧ w = w' := by
  go_enter Try.func27, Try.ntmps27
  go_wp2
  go_ret
  exact ⟨rfl, rfl⟩
set_option maxHeartbeats 1000000 in
theorem names_any (A : Nat) (D : DSt) (ρ : Nat → Nat × Nat) (fb : List Nat) (w : World) (h : DiskAt w A D ρ fb) (hnm : D.names.length ≤ 1099511627776) :
    Calls Try.prog 27 #[.pointer (some ⟨A, 0, none⟩)] w (NamesOut w D.names) := by
  obtain ⟨ok, out, role, ⟨m, op, pl, hA, hN, hO, hP⟩, hF⟩ := h
  have c0 : w.cell? ⟨A, 0, none⟩ = some (.map m) := by simp [World.cell?, hA, topCells]
  refine (callsIn_wide (n := 6)).1 ?_
  have hfK : Fence.wide.fn 44 := trivial
  have hfS : Fence.wide.fn 43 := trivial
  rcases hN with ⟨rfl, hL⟩ | ⟨b, rfl, hr, hM⟩
  · have HL := Lib.hid hL
    clear ok out role hA hO hP hF hL
    refine callsIn_of_wp Try.func27 rfl trivial ?_ rfl
    simp only [Try.ntmps27, List.size_toArray, List.length_cons, List.length_nil, Nat.reduceAdd, Nat.reduceSub, Array.replicate_succ, Array.replicate_zero, List.push_toArray, List.append_toArray, List.nil_append, List.cons_append]
    gi_wp2_with (first
      | (gi_at_call 44; refine (Try.iter_keys _ _).mono ?_; rintro e w' ⟨rfl, rfl⟩)
      | (gi_at_call 43; refine (Try.iter_nil _).mono ?_; rintro e w' ⟨v, ss, rfl, hS, hrow, hnil, hb⟩))
    go_ret
    have e0 := hnil.2 hS
    subst e0
    refine ⟨none, 0, by rw [HL.out]; rfl, ?_, ((Below.refl _ w).alloc (Nat.le_refl _) _).trans (hb.mono (by simp))⟩
    rw [HL.out]
    exact World.ownsRow_nil _ _ _ _
  · obtain ⟨D0, hown, hsz, hperm⟩ := names_owns hM ok.sorted (fun p hp => by rw [hF.1]; exact (ok.named p hp).2)
    have hmax : Maps.size D0 ≤ maxLen := by rw [hsz]; unfold maxLen; omega
    have hbytes : Maps.size D0 * 16 ≤ 140737488355328 := by rw [hsz]; omega
    have HSZ := Lib.hid hsz
    have HPM := Lib.hid hperm
    have HSO := Lib.hid ok.sorted
    have HC := Lib.hid (Try.iter_sorted b D.names.length D0 anyR w hown hmax hbytes)
    clear ok out role hA hO hP hF hM hr hown hmax hbytes hsz hperm
    refine callsIn_of_wp Try.func27 rfl trivial ?_ rfl
    simp only [Try.ntmps27, List.size_toArray, List.length_cons, List.length_nil, Nat.reduceAdd, Nat.reduceSub, Array.replicate_succ, Array.replicate_zero, List.push_toArray, List.append_toArray, List.nil_append, List.cons_append]
    gi_wp2_with (first
      | (gi_at_call 44; refine (Try.iter_keys _ _).mono ?_; rintro e w' ⟨rfl, rfl⟩)
      | (gi_at_call 43; refine (HC.out).mono ?_; rintro e w' ⟨v, ss, rfl, hS, hrow, hnil, hb⟩))
    go_ret
    have hp := hS.trans HPM.out
    have hlen : ss.length = D.names.length := by rw [hp.length_eq]; simp [nameKeys]
    rw [merged_keys HSO.out hp, names_row, hlen] at hrow
    obtain ⟨p, c, rfl⟩ := ownsRow_slice hrow
    exact ⟨p, c, rfl, Go.Joins.ownsRow_le hrow (by simp), ((Below.refl _ w).alloc (Nat.le_refl _) _).trans (hb.mono (by simp))⟩
end Go.Proofs.Ytblhbkhehddccaa
