/- What Names of package disk tells of a disk in memory. What Plan of package disk does to a disk in memory. What cutting a file does, and how many bytes a crash leaves. How a crash takes back what was done to names. Conditions: those that each theorem names. -/
import Derived.Test.YtioidkbpjkcjeaaGreatDoorGaB
import Derived.Test.YtioidkbpjkcjeaaGreatDoorIter
namespace Go.Proofs.YtioidkbpjkcjeaaGreatDoor
open Go.RowKit Dk
open Go.WideElems (Fit rd rg rd_key rd_mk rg_of)

def nameKeys (L : List (Nm × Nat)) : List (List UInt8) := L.map fun p => p.1.data.toList
theorem sorted_keys {L : List (Nm × Nat)} (h : Sorted L) : (nameKeys L).Pairwise (fun a b => a < b) := by
  unfold nameKeys
  rw [List.pairwise_map]
  exact h.imp (fun hab => by simpa [ltN] using hab)
theorem merged_keys {L : List (Nm × Nat)} (h : Sorted L) {ss : List (List UInt8)} (hp : ss.Perm (nameKeys L)) : ss.mergeSort (fun x y => decide (x ≤ y)) = nameKeys L := by
  have h1 := List.pairwise_mergeSort (le := fun x y : List UInt8 => decide (x ≤ y)) (fun a b c hab hbc => by simp only [decide_eq_true_eq] at *; exact List.le_trans hab hbc) (fun a b => by
    simp only [Bool.or_eq_true, decide_eq_true_eq]; exact List.le_total a b) ss
  have h2 := (List.mergeSort_perm ss (fun x y => decide (x ≤ y))).trans hp
  refine List.Perm.eq_of_pairwise (le := fun a b => a ≤ b) (fun a b _ _ hab hba => List.le_antisymm hab hba) (h1.imp (fun h => by simpa using h)) ((sorted_keys h).imp (fun h => List.le_of_lt h)) h2
theorem names_owns {w : World} {b : Nat} {fb : List Nat} {L : List (Nm × Nat)} (hM : Mp Tryz.prog 9 w b (namesS fb L) L.length) (hs : Sorted L) (hf : ∀ p ∈ L, p.2 < fb.length) :
    ∃ D0 : DataW Unit, w.ownsMap Tryz.prog 9 anyR b L.length D0 ∧ Maps.size D0 = L.length ∧ (Go.strKeys D0).Perm (nameKeys L) := by
  obtain ⟨es, clock, hb, F, hn, hS⟩ := hM
  refine ⟨_, ⟨es, clock, hb, F, by omega, rfl⟩, ?_, ?_⟩
  · show ((es.toList.map (rg Tryz.prog 9 anyR)).foldr DataW.insert []).length = _
    rw [(Go.WideShapes.sorted_perm _).length_eq, List.length_map, Array.length_toList, hn]
  · have hkey : ∀ e ∈ es.toList, ∃ n, e.key = .string n ∧ (rg Tryz.prog 9 anyR e).1 = .string n.data.toList ∧ ∃ i, (n, i) ∈ L := by
      intro e he
      obtain ⟨n, i, B, h1, h2, h3, h4⟩ := (hS e.key e.val).1 ⟨e, he, rfl, rfl⟩
      obtain ⟨y, hy⟩ := F.reads e he
      refine ⟨n, h3, ?_, i, h1⟩
      rw [rg_of hy]
      have hk := rd_key hy
      rw [h3] at hk
      obtain ⟨l, hl⟩ := F.keys e he
      rw [h3] at hl
      have hsz : n.size ≤ maxLen := by
        by_cases c : n.size ≤ maxLen
        · exact c
        · exfalso
          have : keyOf Tryz.prog 9 (.string n) = none := by simp [keyOf, Tryz.underlying9, mapKey, c]
          rw [this] at hl; cases hl
      rw [strKey hsz] at hk
      exact (Option.some.inj hk).symm
    have hsk : ∀ (l : List (Lit × DataW Unit)), Go.strKeys (.map l) = l.map fun p => Go.strOf p.1 := fun _ => rfl
    have hperm : (Go.strKeys (.map ((es.toList.map (rg Tryz.prog 9 anyR)).foldr DataW.insert []))).Perm (es.toList.map fun e => Go.strOf (rg Tryz.prog 9 anyR e).1) := by
      generalize hr : rg (H := Unit) Tryz.prog 9 anyR = r
      rw [hsk]
      have := (Go.WideShapes.sorted_perm (es.toList.map r)).map (fun p => Go.strOf p.1)
      rw [List.map_map] at this
      exact this
    refine hperm.trans ?_
    refine (List.perm_ext_iff_of_nodup ?_ ?_).2 ?_
    · have hnd := F.stamped.2.2
      rw [List.nodup_iff_pairwise_ne, List.pairwise_map] at hnd ⊢
      refine hnd.imp_of_mem (fun {a b} ha hb hab e => hab ?_)
      obtain ⟨n, h1, h2, _⟩ := hkey a ha
      obtain ⟨n', h3, h4, _⟩ := hkey b hb
      rw [h2, h4] at e
      have : n.data.toList = n'.data.toList := e
      rw [h1, h3, nm_ext this]
    · exact (sorted_keys hs).imp (fun h e => by rw [e] at h; exact List.lt_irrefl _ h)
    · intro a
      simp only [List.mem_map, nameKeys]
      constructor
      · rintro ⟨e, he, rfl⟩
        obtain ⟨n, h1, h2, i, h3⟩ := hkey e he
        exact ⟨(n, i), h3, by rw [h2]; rfl⟩
      · rintro ⟨⟨n, i⟩, hm, rfl⟩
        have hi := hf _ hm
        obtain ⟨e, he, h1, h2⟩ := (hS _ _).2 ⟨n, i, fb[i]'hi, hm, List.getElem?_eq_getElem hi, rfl, rfl⟩
        refine ⟨e, he, ?_⟩
        obtain ⟨n', h3, h4, _⟩ := hkey e he
        rw [h1] at h3
        rw [h4, Value.string.inj h3]; rfl

/-- The names, rising, in new memory. -/
def NamesOut (w : World) (L : List (Nm × Nat)) (e : Ending) (w' : World) : Prop := ∃ p c, e = .returned (.slice p L.length c) ∧ w'.ownsRow w.heap.size 9 1 (.slice p L.length c) L.length (L.map fun x => .string x.1) ∧ Below w.heap.size w w'
theorem names_row (L : List (Nm × Nat)) : (nameKeys L).map Go.Proofs.encStr = L.map fun x => Value.string x.1 := by
  unfold nameKeys
  rw [List.map_map]
  refine List.map_congr_left (fun x _ => ?_)
  simp [Go.Proofs.encStr]
theorem ownsRow_slice {w : World} {base n size : Nat} {e : TypeId} {v : Value} {xs : List Value} (h : w.ownsRow base e size v n xs) : ∃ p c, v = .slice p n c := by
  rcases h.2 with ⟨rfl, rfl⟩ | ⟨g, cap, cur, rfl, _⟩ <;> exact ⟨_, _, rfl⟩
set_option maxHeartbeats 1000000 in
theorem names_nil (w : World) :
    Calls Tryz.prog 45 #[.pointer none] w fun e w' => e = .returned (.slice none 0 0) ∧ w = w' := by
  go_enter Tryz.func45, Tryz.ntmps45
  go_wp2
  go_ret
  exact ⟨rfl, rfl⟩
set_option maxHeartbeats 1000000 in
theorem names_any (A : Nat) (D : DSt) (ρ : Nat → Nat × Nat) (fb : List Nat) (w : World) (h : DiskAt w A D ρ fb) (hnm : D.names.length ≤ 1099511627776) :
    Calls Tryz.prog 45 #[.pointer (some ⟨A, 0, none⟩)] w (NamesOut w D.names) := by
  obtain ⟨ok, out, role, ⟨m, op, pl, hA, hN, hO, hP⟩, hF⟩ := h
  have c0 : w.cell? ⟨A, 0, none⟩ = some (.map m) := by simp [World.cell?, hA, topCells]
  refine (callsIn_wide (n := 6)).1 ?_
  have hfK : Fence.wide.fn 67 := trivial
  have hfS : Fence.wide.fn 66 := trivial
  rcases hN with ⟨rfl, hL⟩ | ⟨b, rfl, hr, hM⟩
  · have HL := Lib.hid hL
    clear ok out role hA hO hP hF hL
    refine callsIn_of_wp Tryz.func45 rfl trivial ?_ rfl
    simp only [Tryz.ntmps45, List.size_toArray, List.length_cons, List.length_nil, Nat.reduceAdd, Nat.reduceSub, Array.replicate_succ, Array.replicate_zero, List.push_toArray, List.append_toArray, List.nil_append, List.cons_append]
    gi_wp2_with (first
      | (gi_at_call 67; refine (Tryz.iter_keys _ _).mono ?_; rintro e w' ⟨rfl, rfl⟩)
      | (gi_at_call 66; refine (Tryz.iter_nil _).mono ?_; rintro e w' ⟨v, ss, rfl, hS, hrow, hnil, hb⟩))
    go_ret
    have e0 := hnil.2 hS
    subst e0
    refine ⟨none, 0, by rw [HL.out]; rfl, ?_, ((Below.refl _ w).alloc (Nat.le_refl _) _).trans (hb.mono (by simp))⟩
    rw [HL.out]
    exact World.ownsRow_nil _ _ _ _
  · obtain ⟨D0, hown, hsz, hperm⟩ := names_owns hM ok.sorted (fun p hp => by rw [hF.1]; exact (ok.named p hp).2)
    have hmax : Maps.size D0 ≤ maxLen := by rw [hsz]; unfold maxLen; omega
    have hbytes : Maps.size D0 * 16 ≤ 140737488355328 := by rw [hsz]; omega
    have HSZ := Lib.hid hsz
    have HPM := Lib.hid hperm
    have HSO := Lib.hid ok.sorted
    have HC := Lib.hid (Tryz.iter_sorted b D.names.length D0 anyR w hown hmax hbytes)
    clear ok out role hA hO hP hF hM hr hown hmax hbytes hsz hperm
    refine callsIn_of_wp Tryz.func45 rfl trivial ?_ rfl
    simp only [Tryz.ntmps45, List.size_toArray, List.length_cons, List.length_nil, Nat.reduceAdd, Nat.reduceSub, Array.replicate_succ, Array.replicate_zero, List.push_toArray, List.append_toArray, List.nil_append, List.cons_append]
    gi_wp2_with (first
      | (gi_at_call 67; refine (Tryz.iter_keys _ _).mono ?_; rintro e w' ⟨rfl, rfl⟩)
      | (gi_at_call 66; refine (HC.out).mono ?_; rintro e w' ⟨v, ss, rfl, hS, hrow, hnil, hb⟩))
    go_ret
    have hp := hS.trans HPM.out
    have hlen : ss.length = D.names.length := by rw [hp.length_eq]; simp [nameKeys]
    rw [merged_keys HSO.out hp, names_row, hlen] at hrow
    obtain ⟨p, c, rfl⟩ := ownsRow_slice hrow
    exact ⟨p, c, rfl, Go.Joins.ownsRow_le hrow (by simp), ((Below.refl _ w).alloc (Nat.le_refl _) _).trans (hb.mono (by simp))⟩
end Go.Proofs.YtioidkbpjkcjeaaGreatDoor
namespace Go.Proofs.YtioidkbpjkcjeaaGreatDoor
open Go.RowKit Dk
open Go.ChangeMaps (setBlock)

def mayB (f : Int × Int × Int) : Bool := if f.2.1 = 1 ∨ f.2.1 = 3 then decide (f.2.2 = 0) else if f.2.1 = 2 then decide (0 ≤ f.2.2) else false
def planOk : Int → List (Int × Int × Int) → Bool
  | _, [] => true
  | last, f :: r => decide (last < f.1) && mayB f && planOk f.1 r
def faultCells (f : Int × Int × Int) : List Value := [.int .i64 f.1, .int .i64 f.2.1, .int .i64 f.2.2]
set_option maxHeartbeats 1000000 in
theorem mayBe_any (fa fk fn : Int) (w : World) :
    Calls Tryz.prog 43 #[.agg #[.int .i64 fa, .int .i64 fk, .int .i64 fn]] w fun e w' => e = .returned (.bool (mayB (fa, fk, fn))) ∧ w' = w.alloc (.cells #[.int .i64 fa, .int .i64 fk, .int .i64 fn] 40) := by
  by_cases h1 : fk = 1
  · subst h1
    have e : mayB (fa, 1, fn) = (fn == 0) := by simp [mayB, BEq.beq]
    rw [e]
    go_enter Tryz.func43, Tryz.ntmps43
    go_wp2
    go_ret
    exact ⟨rfl, rfl⟩
  · by_cases h3 : fk = 3
    · subst h3
      have e : mayB (fa, 3, fn) = (fn == 0) := by simp [mayB, BEq.beq]
      rw [e]
      go_enter Tryz.func43, Tryz.ntmps43
      go_wp2
      go_ret
      exact ⟨rfl, rfl⟩
    · by_cases h2 : fk = 2
      · subst h2
        have e : mayB (fa, 2, fn) = decide (0 ≤ fn) := by simp [mayB]
        rw [e]
        go_enter Tryz.func43, Tryz.ntmps43
        go_wp2
        go_ret
        exact ⟨rfl, rfl⟩
      · have e : mayB (fa, fk, fn) = false := by simp [mayB, h1, h2, h3]
        rw [e]
        have h1' : (fk == 1) = false := by simpa using h1
        have h2' : (fk == 2) = false := by simpa using h2
        have h3' : (fk == 3) = false := by simpa using h3
        go_enter Tryz.func43, Tryz.ntmps43
        go_wp2
        go_ret
        exact ⟨rfl, rfl⟩
set_option maxHeartbeats 400000 in
theorem plan_nil (v : Value) (w : World) :
    Calls Tryz.prog 22 #[.pointer none, v] w fun e w' => e = .returned (.int .i64 1) ∧ w = w' := by
  go_enter Tryz.func22, Tryz.ntmps22
  go_wp2
  go_ret
  exact ⟨rfl, rfl⟩
set_option maxHeartbeats 400000 in
theorem plan_long (A : Nat) (p : Option Addr) (n c : Nat) (hn : 4096 < n) (w : World) :
    Calls Tryz.prog 22 #[.pointer (some ⟨A, 0, none⟩), .slice p n c] w fun e w' => e = .returned (.int .i64 1) ∧ w = w' := by
  have hd : decide ((4096 : Int) < (n : Int)) = true := by simp; omega
  go_enter Tryz.func22, Tryz.ntmps22
  go_wp2
  go_ret
  exact ⟨rfl, rfl⟩

/-- A row of faults that one may read, wherever it begins in its block. -/
def FaultsAt (w : World) (p : Option Addr) (c : Nat) (l : List (Int × Int × Int)) : Prop :=
  l = [] ∨ ∃ g off, p = some ⟨g, off, none⟩ ∧ g < w.heap.size ∧ ∀ W : World, W.heap[g]? = w.heap[g]? → ∀ k (h : k < l.length), W.cell? ⟨g, off + k * 3, none⟩ = some (.int .i64 l[k].1) ∧ W.cell? ⟨g, off + k * 3 + 1, none⟩ = some (.int .i64 l[k].2.1) ∧ W.cell? ⟨g, off + k * 3 + 2, none⟩ = some (.int .i64 l[k].2.2)
theorem FaultsAt.at {w : World} {p : Option Addr} {c : Nat} {l : List (Int × Int × Int)} (h : FaultsAt w p c l) {k : Nat} (hk : k < l.length) :
    ∃ g off, p = some ⟨g, off, none⟩ ∧ g < w.heap.size ∧ ∀ W : World, W.heap[g]? = w.heap[g]? → W.cell? ⟨g, off + k * 3, none⟩ = some (.int .i64 l[k].1) ∧ W.cell? ⟨g, off + k * 3 + 1, none⟩ = some (.int .i64 l[k].2.1) ∧ W.cell? ⟨g, off + k * 3 + 2, none⟩ = some (.int .i64 l[k].2.2) := by
  rcases h with rfl | ⟨g, off, e, hg, hc⟩
  · cases hk
  · exact ⟨g, off, e, hg, fun W hW => hc W hW k hk⟩
theorem FaultsAt.kept {w w' : World} {p : Option Addr} {c : Nat} {l : List (Int × Int × Int)} (h : FaultsAt w p c l) (hs : w.heap.size ≤ w'.heap.size) (hb : ∀ g, (Value.slice p l.length c).ownBlock = some g → w'.heap[g]? = w.heap[g]?) : FaultsAt w' p c l := by
  rcases h with h | ⟨g, off, rfl, hg, hc⟩
  · exact .inl h
  · exact .inr ⟨g, off, rfl, Nat.lt_of_lt_of_le hg hs, fun W hW => hc W (hW.trans (hb g rfl))⟩
theorem fault_cells (l : List (Int × Int × Int)) (k : Nat) (h : k < l.length) : (l.flatMap faultCells)[k * 3]? = some (.int .i64 l[k].1) ∧ (l.flatMap faultCells)[k * 3 + 1]? = some (.int .i64 l[k].2.1) ∧ (l.flatMap faultCells)[k * 3 + 2]? = some (.int .i64 l[k].2.2) := by
  induction l generalizing k with
  | nil => simp at h
  | cons x r ih =>
    cases k with
    | zero => simp [faultCells]
    | succ k =>
      have := ih k (by simpa using h)
      rw [List.flatMap_cons, List.getElem?_append_right (by simp [faultCells]; omega), List.getElem?_append_right (by simp [faultCells]; omega), List.getElem?_append_right (by simp [faultCells]; omega)]
      simp only [faultCells, List.length_cons, List.length_nil, List.getElem_cons_succ]
      rw [show (k + 1) * 3 - (0 + 1 + 1 + 1) = k * 3 by omega, show (k + 1) * 3 + 1 - (0 + 1 + 1 + 1) = k * 3 + 1 by omega, show (k + 1) * 3 + 2 - (0 + 1 + 1 + 1) = k * 3 + 2 by omega]
      exact this
/-- A row of one's own. -/
theorem faultsAt_own {w : World} {base : Nat} {p : Option Addr} {c : Nat} {l : List (Int × Int × Int)} (h : w.ownsRow base 40 3 (.slice p l.length c) l.length (l.flatMap faultCells)) : FaultsAt w p c l := by
  rcases h.2 with ⟨_, h0⟩ | ⟨g, cap, cur, he, h0, h1, h2, h3, h4, h5⟩
  · exact .inl (List.length_eq_zero_iff.mp h0)
  · have hp : p = some ⟨g, 0, none⟩ := by injection he
    refine .inr ⟨g, 0, hp, (Array.getElem?_eq_some_iff.1 h1).1, fun W hW k hk => ?_⟩
    have hc : ∀ j u, (l.flatMap faultCells)[j]? = some u → W.cell? ⟨g, j, none⟩ = some u := by
      intro j u hu
      rw [cell_of_row W g j cur _ (0, 0) (hW.trans h1)]
      rw [← h5, List.getElem?_take] at hu
      split at hu
      · simpa using hu
      · cases hu
    obtain ⟨a, b, d⟩ := fault_cells l k hk
    rw [Nat.zero_add]
    exact ⟨hc _ _ a, hc _ _ b, hc _ _ d⟩
theorem planOk_drop {last : Int} {l : List (Int × Int × Int)} {k : Nat} (hk : k < l.length) : planOk last (l.drop k) = (decide (last < l[k].1) && mayB l[k] && planOk l[k].1 (l.drop (k + 1))) := by
  rw [List.drop_eq_getElem_cons hk]; rfl

set_option maxHeartbeats 4000000 in
set_option maxRecDepth 100000 in
theorem plan_bad (A : Nat) (D : DSt) (ρ : Nat → Nat × Nat) (fb : List Nat) (w : World) (h : DiskAt w A D ρ fb) (p : Option Addr) (c : Nat) (l : List (Int × Int × Int)) (hl : FaultsAt w p c l) (hn : l.length ≤ 4096) (hbad : planOk D.steps l = false) :
    Calls Tryz.prog 22 #[.pointer (some ⟨A, 0, none⟩), .slice p l.length c] w fun e w' => e = .returned (.int .i64 1) ∧ Below w.heap.size w w' := by
  have hd : decide ((4096 : Int) < (l.length : Int)) = false := by simp; omega
  obtain ⟨m, op, pl, hA, _⟩ := h.top
  have c2 : w.cell? ⟨A, 2, none⟩ = some (.int .i64 D.steps) := by simp [World.cell?, hA, topCells]
  have HL := Lib.hid hl
  have HB := Lib.hid hbad
  clear hA h hl hbad
  go_enter Tryz.func22, Tryz.ntmps22
  go_wp2
  go_loopw [5, 23] (fun u i wr => ∃ (k : Nat) (last : Int), k ≤ l.length ∧ i = .int .i64 k ∧ u = .int .i64 last ∧ planOk D.steps l = planOk last (l.drop k) ∧ Below w.heap.size w wr) (fun _ i _ => l.length - (intOf i).toNat)
  case atStart => exact ⟨0, D.steps, Nat.zero_le _, rfl, rfl, rfl, Below.refl _ _⟩
  case round =>
    obtain ⟨k, last, hk, rfl, rfl, hok, hbel⟩ := hrel
    by_cases hlt : k < l.length
    · obtain ⟨g, off, hp, hg, hcs⟩ := HL.out.at hlt
      obtain ⟨e0, e1, e2⟩ := hcs wr (hbel.block g hg)
      subst hp
      have HOK := Lib.hid hok
      have HPD := Lib.hid (planOk_drop (last := last) hlt)
      have HBL := Lib.hid hbel
      clear hok hcs hbel
      generalize hx : l[k] = x at e0 e1 e2
      obtain ⟨fa, fk, fn⟩ := x
      simp only at e0 e1 e2
      have HX := Lib.hid hx
      clear hx
      by_cases hs : fa ≤ last
      · go_wp2
        go_ret
        exact ⟨rfl, HBL.out.alloc HBL.out.size _⟩
      · have hb : mayB (fa, fk, fn) = true ∨ mayB (fa, fk, fn) = false := by cases mayB (fa, fk, fn) <;> simp
        rcases hb with hb | hb
        · have hmc := fun w => (mayBe_any fa fk fn w).mono (fun e w' h => by rw [hb] at h; exact h)
          have HMC := Lib.hid hmc
          have HMB := Lib.hid hb
          clear hmc hb
          go_wp2_with (go_at_call 43; refine (HMC.out _).mono ?_; rintro e w1 ⟨rfl, rfl⟩)
          go_roundw
          case rel =>
            refine ⟨k + 1, fa, by omega, by go_num, rfl, ?_, (HBL.out.alloc HBL.out.size _).alloc (by have := HBL.out.size; simp; omega) _⟩
            rw [HOK.out, HPD.out, HX.out, HMB.out]
            have : decide (last < fa) = true := by simp; omega
            simp [this]
          case measure => simp [intOf]; omega
        · have hmc := fun w => (mayBe_any fa fk fn w).mono (fun e w' h => by rw [hb] at h; exact h)
          have HMC := Lib.hid hmc
          clear hmc hb
          go_wp2_with (go_at_call 43; refine (HMC.out _).mono ?_; rintro e w1 ⟨rfl, rfl⟩)
          go_ret
          exact ⟨rfl, (HBL.out.alloc HBL.out.size _).alloc (by have := HBL.out.size; simp; omega) _⟩
    · exfalso
      have : l.drop k = [] := List.drop_eq_nil_of_le (by omega)
      rw [this] at hok
      rw [HB.out] at hok
      simp [planOk] at hok

theorem planOk_rise {last : Int} {l : List (Int × Int × Int)} (h : planOk last l = true) : (∀ f ∈ l, last < f.1) ∧ l.Pairwise (fun a b => a.1 < b.1) := by
  induction l generalizing last with
  | nil => exact ⟨by simp, .nil⟩
  | cons x r ih =>
    simp only [planOk, Bool.and_eq_true, decide_eq_true_eq] at h
    obtain ⟨⟨h1, h2⟩, h3⟩ := h
    obtain ⟨h4, h5⟩ := ih h3
    refine ⟨fun f hf => ?_, List.pairwise_cons.2 ⟨h4, h5⟩⟩
    rcases List.mem_cons.1 hf with rfl | hf
    · exact h1
    · have := h4 f hf; omega
theorem planS_new {l : List (Int × Int × Int)} (hr : l.Pairwise (fun a b => a.1 < b.1)) {k : Nat} (hk : k < l.length) : ∀ v, ¬ planS (l.take k) (.int .i64 l[k].1) v := by
  rintro v ⟨f, hf, e, _⟩
  obtain ⟨j, hj, rfl⟩ := List.getElem_of_mem hf
  simp only [List.length_take] at hj
  have := List.pairwise_iff_getElem.1 hr j k (by omega) hk (by omega)
  simp only [List.getElem_take, Value.int.injEq, true_and] at e
  omega
theorem planS_more {l : List (Int × Int × Int)} (hr : l.Pairwise (fun a b => a.1 < b.1)) {k : Nat} (hk : k < l.length) (y u : Value) : ((y = .int .i64 l[k].1 ∧ u = faultV l[k]) ∨ (y ≠ .int .i64 l[k].1 ∧ planS (l.take k) y u)) ↔ planS (l.take (k + 1)) y u := by
  rw [List.take_succ_eq_append_getElem hk]
  constructor
  · rintro (⟨rfl, rfl⟩ | ⟨_, f, hf, rfl, rfl⟩)
    · exact ⟨l[k], List.mem_append.2 (.inr (List.mem_singleton.2 rfl)), rfl, rfl⟩
    · exact ⟨f, List.mem_append.2 (.inl hf), rfl, rfl⟩
  · rintro ⟨f, hf, rfl, rfl⟩
    rcases List.mem_append.1 hf with hf | hf
    · refine .inr ⟨fun e => planS_new hr hk (faultV f) ⟨f, hf, e.symm, rfl⟩, f, hf, rfl, rfl⟩
    · simp only [List.mem_singleton] at hf
      subst hf; exact .inl ⟨rfl, rfl⟩
/-- The disk while its faults are being laid into map b. -/
def PlanR (w : World) (A : Nat) (D : DSt) (ρ ρ' : Nat → Nat × Nat) (fb : List Nat) (b : Nat) (l : List (Int × Int × Int)) (k : Nat) (wr : World) : Prop :=
  ∃ m op, wr.heap[A]? = some (.cells (topCells m op D.steps (some b)) 59 (0, 0)) ∧ NamesAt wr ρ' fb m D.names ∧ OpenAt wr ρ' fb op D.opn ∧ FilesAt wr ρ' fb D.files ∧ Mp Tryz.prog 3 wr b (planS (l.take k)) k ∧ Fr own ρ ρ' w wr
theorem PlanR.start {w wr : World} {A : Nat} {D : DSt} {ρ : Nat → Nat × Nat} {fb : List Nat} (h : DiskAt w A D ρ fb) (hb : Below w.heap.size w wr) (l : List (Int × Int × Int)) :
    PlanR w A D ρ (setR ρ (some wr.heap.size) (7, 0)) fb wr.heap.size l 0 ((wr.alloc (.map #[] 0)).setCell ⟨A, 3, none⟩ (.map (some wr.heap.size))) := by
  have hlt := h.lt
  obtain ⟨ok, out, role, ⟨m, op, pl, hA, hN, hO, hP⟩, hF⟩ := h
  have hsz := hb.size
  obtain ⟨Y, hY⟩ : ∃ Y, Y = wr.alloc (.map #[] 0) := ⟨_, rfl⟩
  rw [← hY]
  have hsY : Y.heap.size = wr.heap.size + 1 := by rw [hY]; simp
  have hYo : ∀ b, b < wr.heap.size → Y.heap[b]? = wr.heap[b]? := fun b hb => by rw [hY, heap_alloc_lt hb]
  obtain ⟨Z, hZ⟩ : ∃ Z, Z = Y.setCell ⟨A, 3, none⟩ (.map (some wr.heap.size)) := ⟨_, rfl⟩
  rw [← hZ]
  have hsZ : Z.heap.size = wr.heap.size + 1 := by rw [hZ]; simp [World.setCell]; omega
  have hZo : ∀ b, b ≠ A → Z.heap[b]? = Y.heap[b]? := fun b hb => by rw [hZ, heap_setCell_ne hb]
  have hAw : Y.heap[A]? = some (.cells (topCells m op D.steps pl) 59 (0, 0)) := (hYo A (by omega)).trans ((hb.block A hlt).trans hA)
  have hAZ : Z.heap[A]? = some (.cells (topCells m op D.steps (some wr.heap.size)) 59 (0, 0)) := by rw [hZ]; exact heap_setCell_same _ _ _ _ _ _ hAw
  have hr : ∀ b, b ≠ wr.heap.size → setR ρ (some wr.heap.size) (7, 0) b = ρ b := fun b hb => by simp [setR, Ne.symm hb]
  have F : Fr (fun r => r = (1, 0)) ρ (setR ρ (some wr.heap.size) (7, 0)) w Z := by
    refine ⟨?_, ?_, ?_, by omega, fun b hlt' hn => ?_, fun b hn => hr b (fun e => hn (by rw [e]; exact out _ hsz)), fun b hlt' e => by rw [hr b (by omega)]; exact e, fun b hlt' => by rw [hr b (by omega)]; exact out b (by omega)⟩
    · rw [hZ, hY]; exact hb.os
    · rw [hZ, hY]; exact hb.tape
    · rw [hZ, hY]; exact hb.output
    · rw [hZo b (fun e => hn (by rw [e]; exact role)), hYo b (by omega)]
      exact hb.block b hlt'
  refine ⟨m, op, hAZ, hN.fr F (by simp), hO.fr F (by simp) (by simp), hF.fr F (by simp) (by simp), ?_, F.weaken (fun r hr => by rw [hr]; simp [own])⟩
  have hM := Mp.made (P := Tryz.prog) wr 3
  rw [← hY] at hM
  exact (hM.kept (hZo _ (by omega))).congr (fun y u => ⟨fun h => h.elim, fun ⟨f, hf, _⟩ => by simp at hf⟩)
theorem PlanR.done {w wr : World} {A : Nat} {D : DSt} {ρ ρ' : Nat → Nat × Nat} {fb : List Nat} {b : Nat} {l : List (Int × Int × Int)} (ok : D.Ok) (role : ρ A = (1, 0)) (hb : ρ' b = (7, 0)) (h : PlanR w A D ρ ρ' fb b l l.length wr) : Led w A { D with plan := l } ρ fb wr := by
  obtain ⟨m, op, hA, hN, hO, hF, hM, G⟩ := h
  rw [List.take_length] at hM
  exact ⟨ρ', ⟨⟨ok.sorted, ok.named, ok.opened, ok.synced⟩, G.out, G.mark role (by simp), ⟨m, op, some b, hA, hN, hO, .inr ⟨b, _, rfl, hb, hM⟩⟩, hF⟩, G⟩
/-- One fault more is laid. -/
theorem PlanR.put {w wr : World} {A : Nat} {D : DSt} {ρ ρ' : Nat → Nat × Nat} {fb : List Nat} {b : Nat} {l : List (Int × Int × Int)} {k : Nat} (hb : ρ' b = (7, 0)) (hA : ρ' A = (1, 0)) (hr : l.Pairwise (fun a b => a.1 < b.1)) (hk : k < l.length) (hlen : l.length ≤ 4096)
    (hrng : -9223372036854775808 ≤ l[k].1 ∧ l[k].1 ≤ 9223372036854775807) (h : PlanR w A D ρ ρ' fb b l k wr) :
    b < wr.heap.size ∧ ∃ o, (∀ X : World, X.heap[b]? = wr.heap[b]? → (Instr.mapUpdate 57 (.map (some b)) (.int .i64 l[k].1) (faultV l[k])).run Tryz.prog X = .ok () (setBlock X b o)) ∧
      ∀ c, PlanR w A D ρ ρ' fb b l (k + 1) (setBlock (wr.alloc c).drew b o) := by
  obtain ⟨m, op, h1, hN, hO, hF, hM, G⟩ := h
  have hblt := hM.lt
  obtain ⟨o, hu, hu'⟩ := hM.put_new intK Tryz.underlying57 (v := faultV l[k]) (intKey hrng.1 hrng.2) (planS_new hr hk) (by unfold maxLen; omega)
  refine ⟨hblt, o, hu, fun c => ?_⟩
  have hsz : (setBlock (wr.alloc c).drew b o).heap.size = wr.heap.size + 1 := by rw [setBlock_size]; show (wr.heap.push _).size = _; simp
  have hne : ∀ i, i < wr.heap.size → i ≠ b → (setBlock (wr.alloc c).drew b o).heap[i]? = wr.heap[i]? := fun i hi hn => (setBlock_ne _ hn).trans (heap_alloc_lt hi)
  have hAlt : A < wr.heap.size := (Array.getElem?_eq_some_iff.1 h1).1
  have hbA : A ≠ b := by rintro rfl; rw [hA] at hb; cases hb
  have F : Fs (fun r => r = (7, 0)) ρ' ρ' wr (setBlock (wr.alloc c).drew b o) := ⟨fun i hi hn hs => hne i hi (fun e => hs (by rw [e]; exact hb)), fun _ _ _ => rfl⟩
  refine ⟨m, op, (hne A hAlt hbA).trans h1, hN.fs F (by simp), ?_, hF.fs F (by simp) (by simp), (hu' _ (setBlock_at _ (by show b < (wr.heap.push _).size; simp; omega))).congr (planS_more hr hk), ?_⟩
  · obtain ⟨vs, hO1, hO2, hO3⟩ := hO
    exact ⟨vs, ownsRow_same hO1 (fun g hg => F.at (ownsRow_lt hO1 g hg) (hO2 g hg) (by simp) (by simp)), hO2, fun i l hl => let ⟨v, h1, h2⟩ := hO3 i l hl; ⟨v, h1, h2.fs F (by simp)⟩⟩
  · have hs := G.size
    exact ⟨G.os, G.tape, G.output, by omega, fun i hi hn => by
      by_cases e : i = b
      · subst e
        have e0 : ρ i = (0, 0) := Classical.byContradiction hn
        have := G.stay i hi e0
        rw [hb] at this; cases this
      · exact (hne i (by omega) e).trans (G.block i hi hn), G.keep, G.stay, fun i hi => G.out i (by omega)⟩
set_option maxHeartbeats 4000000 in
set_option maxRecDepth 100000 in
theorem plan_good (A : Nat) (D : DSt) (ρ : Nat → Nat × Nat) (fb : List Nat) (w : World) (h : DiskAt w A D ρ fb) (p : Option Addr) (c : Nat) (l : List (Int × Int × Int)) (hl : FaultsAt w p c l) (hlo : l = [] ∨ ∀ g, (Value.slice p l.length c).ownBlock = some g → ρ g = (0, 0)) (hn : l.length ≤ 4096) (hgood : planOk D.steps l = true)
    (hrng : ∀ f ∈ l, -9223372036854775808 ≤ f.1 ∧ f.1 ≤ 9223372036854775807) :
    Calls Tryz.prog 22 #[.pointer (some ⟨A, 0, none⟩), .slice p l.length c] w fun e w' => e = .returned (.int .i64 0) ∧ Led w A { D with plan := l } ρ fb w' := by
  have hd : decide ((4096 : Int) < (l.length : Int)) = false := by simp; omega
  have hlt := h.lt
  have hrise := (planOk_rise hgood).2
  obtain ⟨m, op, pl, hA, _⟩ := h.top
  have c2 : w.cell? ⟨A, 2, none⟩ = some (.int .i64 D.steps) := by simp [World.cell?, hA, topCells]
  have HA := Lib.hid hA
  have HL := Lib.hid hl
  have HLO := Lib.hid hlo
  have HG := Lib.hid hgood
  have HD := Lib.hid h
  have HRI := Lib.hid hrise
  have HRG := Lib.hid hrng
  clear hA h hl hgood hlo hrise hrng
  have hmm := @run_makeMap Tryz.prog
  go_enter Tryz.func22, Tryz.ntmps22
  go_wp2
  go_loopw [5, 23] (fun u i wr => ∃ (k : Nat) (last : Int), k ≤ l.length ∧ i = .int .i64 k ∧ u = .int .i64 last ∧ planOk D.steps l = planOk last (l.drop k) ∧ Below w.heap.size w wr) (fun _ i _ => l.length - (intOf i).toNat)
  case atStart => exact ⟨0, D.steps, Nat.zero_le _, rfl, rfl, rfl, Below.refl _ _⟩
  case round =>
    obtain ⟨k, last, hk, rfl, rfl, hok, hbel⟩ := hrel
    by_cases hlt' : k < l.length
    · obtain ⟨g, off, hp, hg, hcs⟩ := HL.out.at hlt'
      obtain ⟨e0, e1, e2⟩ := hcs wr (hbel.block g hg)
      subst hp
      have hpd := hok.symm.trans HG.out
      rw [planOk_drop hlt'] at hpd
      have HOK := Lib.hid hok
      have HBL := Lib.hid hbel
      clear hok hcs hbel
      generalize hx : l[k] = x at e0 e1 e2 hpd
      obtain ⟨fa, fk, fn⟩ := x
      simp only [Bool.and_eq_true, decide_eq_true_eq] at e0 e1 e2 hpd
      obtain ⟨⟨hs, hb⟩, _⟩ := hpd
      have HX := Lib.hid hx
      clear hx
      have hs' : ¬ fa ≤ last := by omega
      have hmc := fun w => (mayBe_any fa fk fn w).mono (fun e w' h => by rw [hb] at h; exact h)
      have HMC := Lib.hid hmc
      have HMB := Lib.hid hb
      clear hmc hb
      go_wp2_with (go_at_call 43; refine (HMC.out _).mono ?_; rintro e w1 ⟨rfl, rfl⟩)
      go_roundw
      case rel =>
        refine ⟨k + 1, fa, by omega, by go_num, rfl, ?_, (HBL.out.alloc HBL.out.size _).alloc (by have := HBL.out.size; simp; omega) _⟩
        rw [HOK.out, planOk_drop hlt', HX.out, HMB.out]
        have : decide (last < fa) = true := by simp; omega
        simp [this]
      case measure => simp [intOf]; omega
    · obtain rfl : k = l.length := by omega
      have hAr := (hbel.block A hlt).trans HA.out
      have f3 : wr.frozen? ⟨A, 3, none⟩ = false := by simp [World.frozen?, hAr]
      have c3 : wr.cell? ⟨A, 3, none⟩ = some (.map pl) := by simp [World.cell?, hAr, topCells]
      have hz3 := frozen_alloc (Nat.lt_of_lt_of_le hlt hbel.size) f3
      have ha3 := cell_alloc c3
      have HBL := Lib.hid hbel
      have HST := Lib.hid (PlanR.start HD.out hbel l)
      have hsz := hbel.size
      clear hbel hok hAr
      obtain ⟨wo, rfl⟩ : ∃ wo : World, wo = wr := ⟨_, rfl⟩
      go_wp2
      go_loopw [45] (fun i wr => ∃ k : Nat, k ≤ l.length ∧ i = .int .i64 k ∧ PlanR w A D ρ (setR ρ (some wo.heap.size) (7, 0)) fb wo.heap.size l k wr) (fun i _ => l.length - (intOf i).toNat)
      case atStart => exact ⟨0, Nat.zero_le _, rfl, HST.out⟩
      case round =>
        obtain ⟨k, hk, rfl, hR⟩ := hrel
        by_cases hlt2 : k < l.length
        · obtain ⟨g, off, hp, hg, hcs⟩ := HL.out.at hlt2
          have hρ : ρ g = (0, 0) := (HLO.out.resolve_left (fun e => by rw [e] at hlt2; cases hlt2)) g (by rw [hp]; rfl)
          have hR0 := hR
          obtain ⟨m1, op1, q1, q2, q3, q4, q5, G⟩ := hR0
          obtain ⟨e0, e1, e2⟩ := hcs wr (G.block g hg (by rw [hρ]; simp [own]))
          obtain ⟨hblt, o, hu, hput⟩ := hR.put (by simp [setR]) (by rw [G.keep A (by rw [HD.out.role]; simp)]; exact HD.out.role) HRI.out hlt2 hn (HRG.out _ (List.getElem_mem hlt2))
          subst hp
          have hAlt : A < wr.heap.size := (Array.getElem?_eq_some_iff.1 q1).1
          have c3 : wr.cell? ⟨A, 3, none⟩ = some (.map (some wo.heap.size)) := by simp [World.cell?, q1, topCells]
          have a3 := cell_alloc c3
          have hu1 : ∀ c, (Instr.mapUpdate 57 (.map (some wo.heap.size)) (.int .i64 l[k].1) (.agg #[.int .i64 l[k].1, .int .i64 l[k].2.1, .int .i64 l[k].2.2])).run Tryz.prog (wr.alloc c).drew = .ok () (setBlock (wr.alloc c).drew wo.heap.size o) := fun c => hu _ (heap_alloc_lt hblt)
          have HPUT := Lib.hid hput
          clear hR hcs q1 q2 q3 q4 q5 G hu hput hρ
          go_wp2
          go_region
          go_wp2
          go_roundw
          case rel => exact ⟨k + 1, by omega, by go_num, HPUT.out _⟩
          case measure => simp [intOf]; omega
        · obtain rfl : k = l.length := by omega
          have HDN := Lib.hid (PlanR.done HD.out.ok HD.out.role (by simp [setR]) hR)
          clear hR
          go_wp2
          go_ret
          exact ⟨rfl, HDN.out⟩
end Go.Proofs.YtioidkbpjkcjeaaGreatDoor
namespace Go.Proofs.YtioidkbpjkcjeaaGreatDoor
open Go.RowKit Dk

/-! ### left -/
def IntsAt (w : World) (v : Value) (l : List Int) : Prop :=
  (l = [] ∧ ∃ p c, v = .slice p 0 c) ∨ ∃ g off c, v = .slice (some ⟨g, off, none⟩) l.length c ∧ g < w.heap.size ∧ ∀ W : World, W.heap[g]? = w.heap[g]? → ∀ j (h : j < l.length), W.cell? ⟨g, off + j, none⟩ = some (.int .i64 l[j])
set_option maxHeartbeats 1000000 in
theorem left_any (l : List Int) (v : Value) (j : Nat) (w : World) (h : IntsAt w v l) (hl : l.length ≤ maxLen) (hj : j ≤ maxLen) (hr : ∀ x ∈ l, -9223372036854775808 ≤ x ∧ x ≤ 9223372036854775807) :
    Calls Tryz.prog 47 #[v, .int .i64 j] w fun e w' => e = .returned (.int .i64 (left l j)) ∧ w = w' := by
  unfold maxLen at hl hj
  rcases h with ⟨rfl, p, c, rfl⟩ | ⟨g, off, c, rfl, hg, hc⟩
  · have e : left [] j = 0 := rfl
    rw [e]
    clear hr e
    go_enter Tryz.func47, Tryz.ntmps47
    go_wp2
    go_ret
    exact ⟨rfl, rfl⟩
  · by_cases h0 : l.length = 0
    · have e : left l j = 0 := by simp [left, h0]
      rw [e, h0]
      clear hr e hc
      go_enter Tryz.func47, Tryz.ntmps47
      go_wp2
      go_ret
      exact ⟨rfl, rfl⟩
    · have hlt : j % l.length < l.length := Nat.mod_lt _ (by omega)
      have hx := hc w rfl _ hlt
      have e : ((left l j : Nat) : Int) = max l[j % l.length] 0 := by
        simp only [left, if_neg h0, List.getD_eq_getElem?_getD, List.getElem?_eq_getElem hlt, Option.getD_some]
        omega
      obtain ⟨b1, b2⟩ := hr _ (List.getElem_mem hlt)
      rw [e]
      clear hr hc e
      generalize l[j % l.length] = x at hx b1 b2 ⊢
      generalize l.length = n at *
      have hmod : (j : Int).tmod (n : Int) = ((j % n : Nat) : Int) := by rw [Int.tmod_eq_emod_of_nonneg (by omega)]; omega
      have q0 : (0 : Int) ≤ (j : Int) := by omega
      have q1 : (0 : Int) < (n : Int) := by omega
      have hne : ((n : Int) == 0) = false := by simp; omega
      go_enter Tryz.func47, Tryz.ntmps47
      go_wp2
      go_ret
      exact ⟨rfl, rfl⟩

/-! ### cut -/
theorem ownsRow_cut {w : World} {p : Option Addr} {n c k : Nat} {e : TypeId} {l : List UInt8} (h : w.ownsRow 0 e 1 (.slice p n c) n (u8s l)) (hk : k ≤ n) : w.ownsRow 0 e 1 (.slice p k c) k (u8s (l.take k)) := by
  have hl : l.length = n := by have := h.1; simpa [u8s] using this
  refine ⟨by simp [u8s]; omega, ?_⟩
  rcases h.2 with ⟨e1, e0⟩ | ⟨g, cap, cur, e1, h1, h2, h3, h4, h5, h6⟩
  · injection e1 with e2 e3 e4
    subst e2 e4
    have : k = 0 := by omega
    subst this
    exact .inl ⟨rfl, rfl⟩
  · injection e1 with e2 e3 e4
    subst e2 e4
    refine .inr ⟨g, _, cur, rfl, h1, h2, by omega, h4, h5, ?_⟩
    have : u8s (l.take k) = (u8s l).take k := by simp [u8s, List.map_take]
    rw [this, ← h6, Nat.mul_one, Nat.mul_one, List.take_take, Nat.min_eq_left hk]
theorem own_p (p : Option Addr) (n c m d : Nat) : (Value.slice p n c).ownBlock = (Value.slice p m d).ownBlock := by cases p <;> rfl
theorem DiskAt.file_cut {w : World} {A : Nat} {D : DSt} {ρ : Nat → Nat × Nat} {fb : List Nat} (h : DiskAt w A D ρ fb) {i B : Nat} {f : FileC} (hf : D.files[i]? = some f) (hB : fb[i]? = some B) {p : Option Addr} {c k : Nat} (hk : k ≤ f.data.length)
    (h1 : w.heap[B]? = some (.cells #[.slice p f.data.length c, .int .i64 f.synced] 82 (0, 0))) (h2 : w.ownsRow 0 5 1 (.slice p f.data.length c) f.data.length (u8s f.data)) (h3 : ∀ g, (Value.slice p f.data.length c).ownBlock = some g → ρ g = (6, i)) :
    Led w A { D with files := D.files.set i (f.cut k) } ρ fb ((w.setCell ⟨B, 0, none⟩ (.slice p k c)).setCell ⟨B, 1, none⟩ (.int .i64 ((min f.synced k : Nat) : Int))).drew.drew := by
  obtain ⟨B', hB', hfa⟩ := h.files.2 i f hf
  rw [hB] at hB'; cases hB'
  have hm := h.ok.synced f (List.mem_of_getElem? hf)
  obtain ⟨Z, hZ⟩ : ∃ Z, Z = ((w.setCell ⟨B, 0, none⟩ (.slice p k c)).setCell ⟨B, 1, none⟩ (.int .i64 ((min f.synced k : Nat) : Int))).drew.drew := ⟨_, rfl⟩
  rw [← hZ]
  have hne : ∀ b, b ≠ B → Z.heap[b]? = w.heap[b]? := fun b hb => by
    rw [hZ]; show (World.setCell _ _ _).heap[b]? = _; rw [heap_setCell_ne hb, heap_setCell_ne hb]
  have hZB : Z.heap[B]? = some (.cells #[.slice p k c, .int .i64 ((min f.synced k : Nat) : Int)] 82 (0, 0)) := by
    rw [hZ]; exact heap_setCell_same _ _ _ _ _ _ (heap_setCell_same _ _ _ _ _ _ h1)
  have hsz : Z.heap.size = w.heap.size := by rw [hZ]; show (World.setCell _ _ _).heap.size = _; simp [World.setCell]
  have hlen : (f.data.take k).length = k := by simp; omega
  refine ⟨ρ, h.file_turn (w' := Z) (f' := f.cut k) hB ⟨by rw [hZ]; rfl, by rw [hZ]; rfl, by rw [hZ]; rfl, by omega, fun b hb hn => hne b (fun e => hn (by rw [e]; exact .inl hfa.1)), fun _ _ => rfl, fun _ _ h => h, fun b hb => h.out b (by omega)⟩
    ⟨hfa.1, .slice p k c, ?_, ?_, fun g hg => h3 g (by rw [own_p p f.data.length c k c]; exact hg)⟩ ⟨Nat.min_le_right _ _, by show (f.data.take k).length ≤ _; omega⟩⟩
  · show _ = some (Obj.cells #[_, .int .i64 ((min f.synced (f.data.take k).length : Nat) : Int)] _ _)
    rw [hlen]; exact hZB
  · show Z.ownsRow 0 _ 1 _ (f.data.take k).length (u8s (f.data.take k))
    rw [hlen]
    refine ownsRow_same (ownsRow_cut h2 hk) (fun g hg => hne g (fun e => ?_))
    have h5 := h3 g (by rw [own_p p f.data.length c k c]; exact hg)
    rw [e, hfa.1] at h5; cases h5
set_option maxHeartbeats 2000000 in
theorem cut_any (A : Nat) (D : DSt) (ρ : Nat → Nat × Nat) (fb : List Nat) (w : World) (h : DiskAt w A D ρ fb) (i B : Nat) (f : FileC) (hf : D.files[i]? = some f) (hB : fb[i]? = some B) (s : Int) (k : Nat) (hk : min (max s 0) (f.data.length : Int) = k) :
    Calls Tryz.prog 46 #[.pointer (some ⟨B, 0, none⟩), .int .i64 s] w fun e w' => e = .returned (.tuple #[]) ∧ Led w A { D with files := D.files.set i (f.cut k) } ρ fb w' := by
  obtain ⟨B', hB', hfa⟩ := h.files.2 i f hf
  rw [hB] at hB'; cases hB'
  obtain ⟨p, c, h1, h2, h3⟩ := hfa.form
  have hm := h.ok.synced f (List.mem_of_getElem? hf)
  have hkn : k ≤ f.data.length := by omega
  have hnc : f.data.length ≤ c ∧ c ≤ maxLen ∧ (p = none → k = 0 ∧ c = 0) := by
    rcases h2.2 with ⟨e, e0⟩ | ⟨g, cap, cur, e, _, _, h6, h7, _⟩
    · injection e with e1 e2 e3; subst e3; exact ⟨by omega, by decide, fun _ => ⟨by omega, rfl⟩⟩
    · injection e with e1 e2 e3; subst e3; exact ⟨h6, h7, fun h => by rw [h] at e1; cases e1⟩
  have c0 : w.cell? ⟨B, 0, none⟩ = some (.slice p f.data.length c) := by simp [World.cell?, h1]
  have c1 : w.cell? ⟨B, 1, none⟩ = some (.int .i64 f.synced) := by simp [World.cell?, h1]
  have f0 : w.frozen? ⟨B, 0, none⟩ = false := by simp [World.frozen?, h1]
  have f1 : w.frozen? ⟨B, 1, none⟩ = false := by simp [World.frozen?, h1]
  have hms : min (f.synced : Int) (k : Int) = ((min f.synced k : Nat) : Int) := by omega
  have hfin := h.file_cut hf hB hkn h1 h2 h3
  have HFIN := Lib.hid hfin
  clear hfin
  go_enter Tryz.func46, Tryz.ntmps46
  have hkc : k ≤ c := Nat.le_trans hkn hnc.1
  have HM := Lib.hid hm
  have HH := Lib.hid h
  have HN := Lib.hid hnc
  have H1 := Lib.hid h1
  clear h hf hB hfa h1 h2 h3 hm hnc
  go_wp2
  go_region
  go_wp2
  go_region
  go_wp2
  go_end0
  exact ⟨rfl, HFIN.out⟩
end Go.Proofs.YtioidkbpjkcjeaaGreatDoor
namespace Go.Proofs.YtioidkbpjkcjeaaGreatDoor
open Go.RowKit Dk

/-! ### Cut -/
set_option maxHeartbeats 400000 in
theorem fcut_nil (s : ByteArray) (n : Int) (w : World) :
    Calls Tryz.prog 79 #[.pointer none, .string s, .int .i64 n] w fun e w' => e = .returned (.int .i64 1) ∧ w = w' := by
  go_enter Tryz.func79, Tryz.ntmps79
  go_wp2_with (go_at_call 86; refine (stepAt_nil _ _).mono ?_; rintro e w' ⟨rfl, rfl⟩)
  go_ret
  exact ⟨rfl, rfl⟩
set_option maxHeartbeats 400000 in
theorem fcut_empty (A : Nat) (s : ByteArray) (hs : s.toList = []) (n : Int) (w : World) :
    Calls Tryz.prog 79 #[.pointer (some ⟨A, 0, none⟩), .string s, .int .i64 n] w fun e w' => e = .returned (.int .i64 1) ∧ w = w' := by
  have HS := Lib.hid hs
  clear hs
  go_enter Tryz.func79, Tryz.ntmps79
  go_wp2_with (go_at_call 86; refine (stepAt_empty _ _ HS.out _).mono ?_; rintro e w' ⟨rfl, rfl⟩)
  go_ret
  exact ⟨rfl, rfl⟩
set_option maxHeartbeats 400000 in
theorem fcut_none (A : Nat) (D : DSt) (ρ : Nat → Nat × Nat) (fb : List Nat) (w : World) (h : DiskAt w A D ρ fb) (s : ByteArray) (n : Int) (hl : s.size ≤ maxLen) (hs : s.toList.isEmpty = false) (hg : nmGet D.names s = none) :
    Calls Tryz.prog 79 #[.pointer (some ⟨A, 0, none⟩), .string s, .int .i64 n] w fun e w' => e = .returned (.int .i64 20) ∧ w = w' := by
  have HC := Lib.hid (stepAt_none A D ρ fb w h s hl hs hg)
  clear h hl hs hg
  go_enter Tryz.func79, Tryz.ntmps79
  go_wp2_with (go_at_call 86; refine (HC.out).mono ?_; rintro e w' ⟨rfl, rfl⟩)
  go_ret
  exact ⟨rfl, rfl⟩
set_option maxHeartbeats 400000 in
theorem fcut_hit (A : Nat) (D : DSt) (ρ : Nat → Nat × Nat) (fb : List Nat) (w : World) (h : DiskAt w A D ρ fb) (h0 : 0 ≤ D.steps) (h1 : D.steps ≤ 4611686018427387904) (s : ByteArray) (n : Int) (hl : s.size ≤ maxLen) (hs : s.toList.isEmpty = false) (i : Nat) (f : FileC) (hg : nmGet D.names s = some i) (hf : D.files[i]? = some f) (fa fk fn : Int) (hm : D.hit = some (fa, fk, fn)) :
    Calls Tryz.prog 79 #[.pointer (some ⟨A, 0, none⟩), .string s, .int .i64 n] w fun e w' => e = .returned (.int .i64 (hitErr (fa, fk, fn))) ∧ Led w A D.tick ρ fb w' := by
  obtain ⟨B, hB, _⟩ := h.files.2 i f hf
  have HT := Lib.hid (stepAt_hit A D ρ fb w h h0 h1 s hl hs i B hg hB fa fk fn hm)
  have he : (hitErr (fa, fk, fn) != 0) = true := by unfold hitErr; split <;> decide
  clear h h0 h1 hl hs hg hB hm hf
  go_enter Tryz.func79, Tryz.ntmps79
  go_wp2_with (go_at_call 86; refine (HT.out).mono ?_; rintro e w1 ⟨rfl, hD, hf⟩)
  go_ret
  exact ⟨rfl, ρ, hD, hf⟩
set_option maxHeartbeats 400000 in
theorem fcut_miss (A : Nat) (D : DSt) (ρ : Nat → Nat × Nat) (fb : List Nat) (w : World) (h : DiskAt w A D ρ fb) (h0 : 0 ≤ D.steps) (h1 : D.steps ≤ 4611686018427387904) (s : ByteArray) (n : Int) (hl : s.size ≤ maxLen) (hs : s.toList.isEmpty = false) (i : Nat) (f : FileC) (hg : nmGet D.names s = some i) (hf : D.files[i]? = some f) (hm : D.hit = none) (k : Nat) (hk : min (max n 0) (f.data.length : Int) = k) :
    Calls Tryz.prog 79 #[.pointer (some ⟨A, 0, none⟩), .string s, .int .i64 n] w fun e w' => e = .returned (.int .i64 0) ∧ Led w A { D.tick with files := D.files.set i (f.cut k) } ρ fb w' := by
  obtain ⟨B, hB, _⟩ := h.files.2 i f hf
  have HT := Lib.hid (stepAt_miss A D ρ fb w h h0 h1 s hl hs i B hg hB hm)
  have HFI := Lib.hid hf
  have HB := Lib.hid hB
  have HK := Lib.hid hk
  clear h h0 h1 hl hs hg hB hm hf hk
  go_enter Tryz.func79, Tryz.ntmps79
  go_wp2_with fail
  refine (HT.out).mono ?_
  rintro e w1 ⟨rfl, hD, hf⟩
  have HC := Lib.hid (cut_any A D.tick ρ fb w1 hD i B f HFI.out HB.out n k HK.out)
  have HF := Lib.hid hf
  clear hD hf
  go_wp2_with (go_at_call 46; refine (HC.out).mono ?_; rintro e w2 ⟨rfl, hled⟩)
  go_ret
  exact ⟨rfl, let ⟨ρ', h1, h2⟩ := hled; ⟨ρ', h1, HF.out.trans h2⟩⟩

/-! ### undo -/
def undoR (D : DSt) (j : Nat) : DSt := { D with names := (D.opn.drop j).reverse.foldl undoOne D.names }
theorem undoR_succ (D : DSt) (j : Nat) (h : j < D.opn.length) : undoR D j = { undoR D (j + 1) with names := undoOne (undoR D (j + 1)).names D.opn[j] } := by
  simp only [undoR, List.drop_eq_getElem_cons h, List.reverse_cons, List.foldl_append, List.foldl_cons, List.foldl_nil]
theorem undoR_all (D : DSt) (j : Nat) (h : D.opn.length ≤ j) : undoR D j = D := by
  simp [undoR, List.drop_eq_nil_of_le h]
theorem undo_length (D : DSt) : ∀ j, (undoR D j).names.length ≤ D.names.length + (D.opn.drop j).flatten.length := by
  intro j
  have : ∀ (ls : List (List (Nm × Option Nat))) (L : List (Nm × Nat)), (ls.foldl undoOne L).length ≤ L.length + ls.flatten.length := by
    intro ls
    induction ls with
    | nil => intro L; simp
    | cons x r ih =>
      intro L
      have h1 := ih (undoOne L x)
      have h2 := foldl_length x L
      simp only [List.foldl_cons, List.flatten_cons, List.length_append]
      unfold undoOne at *
      omega
  refine Nat.le_trans (this _ _) (Nat.add_le_add_left (Nat.le_of_eq ?_) _)
  simp [List.length_flatten, List.map_reverse, List.sum_reverse]

def InR (wo : World) (A : Nat) (E : DSt) (ρo : Nat → Nat × Nat) (fb : List Nat) (l : List (Nm × Option Nat)) (k : Nat) (wr : World) : Prop := ∃ ρk, DiskAt wr A (part E l k) ρk fb ∧ Fr nmMarks ρo ρk wo wr
theorem link_cells (fb : List Nat) (l : List (Nm × Option Nat)) (k : Nat) (h : k < l.length) : (l.flatMap (linkCells fb))[k * 2]? = some (.string l[k].1) ∧ (l.flatMap (linkCells fb))[k * 2 + 1]? = some (ptrV fb l[k].2) := by
  induction l generalizing k with
  | nil => simp at h
  | cons x r ih =>
    cases k with
    | zero => simp [linkCells]
    | succ k =>
      have := ih k (by simpa using h)
      rw [List.flatMap_cons, List.getElem?_append_right (by simp [linkCells]; omega), List.getElem?_append_right (by simp [linkCells]; omega)]
      simp only [linkCells, List.length_cons, List.length_nil, List.getElem_cons_succ]
      rw [show (k + 1) * 2 - (0 + 1 + 1) = k * 2 by omega, show (k + 1) * 2 + 1 - (0 + 1 + 1) = k * 2 + 1 by omega]
      exact this
theorem ownsRow_cell {w : World} {base n size : Nat} {e : TypeId} {v : Value} {xs : List Value} (h : w.ownsRow base e size v n xs) (hn : 0 < n) : ∃ g c, v = .slice (some ⟨g, 0, none⟩) n c ∧ g < w.heap.size ∧ n ≤ c ∧ c ≤ maxLen ∧ ∀ W : World, W.heap[g]? = w.heap[g]? → ∀ j u, xs[j]? = some u → W.cell? ⟨g, j, none⟩ = some u := by
  rcases h.2 with ⟨_, h0⟩ | ⟨g, cap, cur, he, h0, h1, h2, h3, h4, h5⟩
  · omega
  · refine ⟨g, cap, he, (Array.getElem?_eq_some_iff.1 h1).1, h2, h3, fun W hW j u hu => ?_⟩
    rw [cell_of_row W g j cur _ (0, 0) (hW.trans h1)]
    rw [← h5, List.getElem?_take] at hu
    split at hu
    · simpa using hu
    · cases hu
set_option maxHeartbeats 4000000 in
set_option maxRecDepth 100000 in
theorem undo_any (A : Nat) (D : DSt) (ρ : Nat → Nat × Nat) (fb : List Nat) (w : World) (h : DiskAt w A D ρ fb) (hnm : D.names.length + D.opn.flatten.length ≤ 1099511627776) (hop : D.opn.length ≤ 1099511627776) (keep : Int) (kk : Nat) (hk : max keep 0 = (kk : Int)) :
    Calls Tryz.prog 44 #[.pointer (some ⟨A, 0, none⟩), .int .i64 keep] w fun e w' => e = .returned (.tuple #[]) ∧ Led w A (D.undo kk) ρ fb w' := by
  have hst : LedN w A (undoR D D.opn.length) ρ fb w := ⟨ρ, by rw [undoR_all D _ (Nat.le_refl _)]; exact h, ⟨rfl, rfl, rfl, Nat.le_refl _, fun _ _ _ => rfl, fun _ _ => rfl, fun _ _ h => h, h.out⟩⟩
  have HST := Lib.hid hst
  obtain ⟨m, op, pl, hA, _, ⟨vs, hO1, _⟩, _⟩ := h.top
  obtain ⟨p0, c0', hopf⟩ := ownsRow_slice hO1
  subst hopf
  have c1 : w.cell? ⟨A, 1, none⟩ = some (.slice p0 D.opn.length c0') := by simp [World.cell?, hA, topCells]
  have HOK := Lib.hid h.ok
  have HUL := Lib.hid (undo_length D)
  clear h hst hA hO1
  go_enter Tryz.func44, Tryz.ntmps44
  go_wp2
  go_loopw [4] (fun i wr => ∃ j : Nat, (j ≤ D.opn.length ∧ (kk ≤ j ∨ j = D.opn.length)) ∧ i = .int .i64 ((j : Int) - 1) ∧ LedN w A (undoR D j) ρ fb wr) (fun i _ => (intOf i + 1).toNat)
  case atStart => exact ⟨D.opn.length, ⟨Nat.le_refl _, .inr rfl⟩, by first | rfl | (congr 1; omega), HST.out⟩
  case round =>
    obtain ⟨j, ⟨hj, hkj⟩, rfl, hL⟩ := hrel
    obtain ⟨wo, rfl⟩ : ∃ wo : World, wo = wr := ⟨_, rfl⟩
    by_cases hlt : kk < j
    · obtain ⟨j, rfl⟩ : ∃ j', j = j' + 1 := ⟨j - 1, by omega⟩
      have hji : (((j + 1 : Nat) : Int) - 1) = (j : Int) := by omega
      rw [hji]
      have hjl : j < D.opn.length := by omega
      have t1 : decide ((kk : Int) ≤ (j : Int)) = true := by simp; omega
      have t2 : (kk : Int) ≤ (j : Int) := by omega
      have t0 : (0 : Int) ≤ (j : Int) := by omega
      have t3 : (j : Int) < (D.opn.length : Int) := by omega
      obtain ⟨ρo, hD, hF⟩ := hL
      obtain ⟨m1, op1, pl1, hA1, hN1, ⟨vs1, hO1, hO2, hO3⟩, hP1⟩ := hD.top
      obtain ⟨v, hv, hchg⟩ := hO3 j D.opn[j] (List.getElem?_eq_getElem hjl)
      obtain ⟨go, cc, hop1, hgo, hgc, hgm, hgcell⟩ := ownsRow_cell hO1 (by show 0 < D.opn.length; omega)
      obtain ⟨pv, cv, rfl⟩ := ownsRow_slice hchg.1
      have hop2 : op1 = .slice (some ⟨go, 0, none⟩) D.opn.length cc := hop1
      subst hop2
      have d1 : wo.cell? ⟨A, 1, none⟩ = some (.slice (some ⟨go, 0, none⟩) D.opn.length cc) := by simp [World.cell?, hA1, topCells]
      have d2 : wo.cell? ⟨go, j, none⟩ = some (.slice pv D.opn[j].length cv) := hgcell wo rfl j _ hv
      have HOKJ := Lib.hid hD.ok
      have HIN := Lib.hid (show InR wo A (undoR D (j + 1)) ρo fb D.opn[j] 0 wo from ⟨ρo, hD, ⟨rfl, rfl, rfl, Nat.le_refl _, fun _ _ _ => rfl, fun _ _ => rfl, fun _ _ h => h, hD.out⟩⟩)
      have HFO := Lib.hid hF
      have HCH := Lib.hid hchg
      have hlinks : ∀ x ∈ D.opn[j], linkOk D.files.length x := HOK.out.opened _ (List.getElem_mem hjl)
      have HLK := Lib.hid hlinks
      have hsum : (undoR D (j + 1)).names.length + D.opn[j].length ≤ 1099511627776 := by
        have h1 := HUL.out (j + 1)
        have h2 : (D.opn.drop (j + 1)).flatten.length + D.opn[j].length ≤ D.opn.flatten.length := by
          have h3 : (D.opn.drop j).flatten.length = D.opn[j].length + (D.opn.drop (j + 1)).flatten.length := by rw [List.drop_eq_getElem_cons hjl, List.flatten_cons, List.length_append]
          have h4 : (D.opn.take j).flatten.length + (D.opn.drop j).flatten.length = D.opn.flatten.length := by rw [← List.length_append, ← List.flatten_append, List.take_append_drop]
          omega
        omega
      have HSUC := Lib.hid (undoR_succ D j hjl)
      clear hji hD hF hA1 hN1 hO1 hO2 hO3 hP1 hv hop1 hgcell hlinks hchg hkj hj
      generalize hll : D.opn[j] = ll at *
      have hllen : ll.length ≤ 1099511627776 := by omega
      go_wp2
      go_loopw [27] (fun i wr => ∃ k : Nat, k ≤ ll.length ∧ i = .int .i64 k ∧ InR wo A (undoR D (j + 1)) ρo fb ll k wr) (fun i _ => ll.length - (intOf i).toNat)
      case atStart => exact ⟨0, Nat.zero_le _, rfl, HIN.out⟩
      case round =>
        obtain ⟨k, hk', rfl, hR⟩ := hrel
        by_cases hlt2 : k < ll.length
        · obtain ⟨ρk, hDk, hFk⟩ := hR
          have hch := HCH.out.fr hFk (by simp [nmMarks])
          obtain ⟨gv, cv', hpv, hgv, hgvc, hgvm, hcells⟩ := ownsRow_cell hch.1 (by omega)
          injection hpv with hp1 hp2 hp3
          subst hp1 hp3
          obtain ⟨q0, q1⟩ := link_cells fb ll k hlt2
          have e0 := hcells wr rfl _ _ q0
          have e1 := hcells wr rfl _ _ q1
          have hled := fun o => lead_n A (part (undoR D (j + 1)) ll k) ρk fb (wr.alloc o) (hDk.alloc o) (by have := foldl_length (ll.take k) (undoR D (j + 1)).names; have h2 : (ll.take k).length ≤ k := List.length_take_le _ _; show (List.foldl nmSet (undoR D (j + 1)).names (ll.take k)).length < _; unfold maxLen; omega) ll[k] (HLK.out _ (List.getElem_mem hlt2))
          obtain ⟨q, hq⟩ : ∃ q, ptrV fb ll[k].2 = .pointer q := ⟨_, rfl⟩
          rw [hq] at e1
          simp only [hq] at hled
          have HLED := Lib.hid hled
          have HDK := Lib.hid hDk
          have HFK := Lib.hid hFk
          clear hDk hFk hch q0 q1 hled hq hcells
          go_wp2_with fail
          refine (HLED.out _).mono ?_
          rintro e w2 ⟨rfl, ρ2, hD2, hF2⟩
          have hin : InR wo A (undoR D (j + 1)) ρo fb ll (k + 1) w2 := by
            refine ⟨ρ2, by rw [part_succ _ _ _ hlt2]; exact hD2, ?_⟩
            have hal : Fr nmMarks ρk ρk wr (wr.alloc (.cells #[.string ll[k].1, .pointer q] 144)) := ⟨rfl, rfl, rfl, by simp, fun b hb _ => heap_alloc_lt hb, fun _ _ => rfl, fun _ _ h => h, fun b hb => HDK.out.out b (by simp at hb; omega)⟩
            exact (HFK.out.transS (by simp [nmMarks]) hal).transS (by simp [nmMarks]) hF2
          have HINN := Lib.hid hin
          clear hD2 hF2 hin
          go_wp2
          go_roundw
          case rel => exact ⟨k + 1, by omega, by go_num, HINN.out⟩
          case measure => simp [intOf]; omega
        · obtain rfl : k = ll.length := by omega
          obtain ⟨ρk, hDk, hFk⟩ := hR
          have hnew : LedN w A (undoR D j) ρ fb wr := by
            refine ⟨ρk, ?_, HFO.out.transS (by simp [nmMarks]) hFk⟩
            rw [HSUC.out]
            have e : part (undoR D (j + 1)) ll ll.length = { undoR D (j + 1) with names := undoOne (undoR D (j + 1)).names ll } := by simp [part, undoOne]
            rw [← e]; exact hDk
          have HNEW := Lib.hid hnew
          clear hDk hFk hnew
          go_wp2
          go_roundw
          case rel => exact ⟨j, ⟨by omega, .inl (by omega)⟩, rfl, HNEW.out⟩
          case measure => simp [intOf]
    · have hend : LedN w A (D.undo kk) ρ fb wo := by
        have e : undoR D j = D.undo kk := by
          rcases hkj with h | h
          · have : j = kk := by omega
            subst this; rfl
          · by_cases h2 : kk = j
            · subst h2; rfl
            · rw [undoR_all D j (by omega)]
              have := undoR_all D kk (by omega)
              exact this.symm
        rw [← e]; exact hL
      have t1 : decide ((kk : Int) ≤ (j : Int) - 1) = false := by simp; omega
      have t2 : ¬ (kk : Int) ≤ (j : Int) - 1 := by omega
      have HEND := Lib.hid hend
      clear hL hend
      go_wp2
      go_end0
      exact ⟨rfl, HEND.out.led⟩
end Go.Proofs.YtioidkbpjkcjeaaGreatDoor
