/- How names of a disk are led elsewhere, and what they led to is kept: the walk. Conditions: those that each theorem names. -/
import Derived.Test.YtblhbkhehddccaaDkRelink
import Derived.Test.YtblhbkhehddccaaRun
import Derived.LoopTactic
namespace Go.Proofs.Ytblhbkhehddccaa
open Go.RowKit Dk

set_option maxHeartbeats 4000000 in
set_option maxRecDepth 100000 in
theorem relink_any (A : Nat) (D : DSt) (ρ : Nat → Nat × Nat) (fb : List Nat) (w : World) (h : DiskAt w A D ρ fb) (l : List (Nm × Option Nat)) (hl : ∀ x ∈ l, linkOk D.files.length x) (hll : l.length ≤ 1000)
    (hnm : D.names.length ≤ 1099511627776) (hop : D.opn.length ≤ 1099511627776) (g : Nat) (hg : w.heap[g]? = some (.cells (l.flatMap (linkCells fb)).toArray 79 (0, 0))) (hr : ρ g = (0, 0)) :
    Calls Try.prog 31 #[.pointer (some ⟨A, 0, none⟩), .slice (some ⟨g, 0, none⟩) l.length l.length] w fun e w' => e = .returned (.tuple #[]) ∧ Led w A (D.relink l) ρ fb w' := by
  have hlt := h.lt
  have ok := h.ok
  have hgl : g < w.heap.size := (Array.getElem?_eq_some_iff.1 hg).1
  have HST := Lib.hid (RelR.start h l)
  have HH := Lib.hid h
  have HG := Lib.hid hg
  have HR := Lib.hid hr
  clear h hg hr
  go_enter Try.func31, Try.ntmps31
  go_wp2
  go_loopw [4, 9] (fun bv i wr => ∃ k : Nat, k ≤ l.length ∧ i = .int .i64 k ∧ RelR w A D ρ fb l k bv wr) (fun _ i _ => l.length - (intOf i).toNat)
  case atStart => exact ⟨0, Nat.zero_le _, rfl, HST.out⟩
  case round =>
    obtain ⟨k, hk, rfl, hR⟩ := hrel
    by_cases hlt' : k < l.length
    · obtain ⟨V, hV⟩ : ∃ V, V = wr.alloc (.cells #[.string l[k].1, ptrV fb l[k].2] 79) := ⟨_, rfl⟩
      have hlk : linkOk D.files.length l[k] := hl _ (List.getElem_mem hlt')
      obtain ⟨v', W', happ, q0, q1, hW', ρ1, hD1, hF1, hrow1, hro1⟩ := hR.kept hlt' (by omega) _ rfl V _ hV rfl
      obtain ⟨ρk, hD, hF, hrow, hro⟩ := hR
      have hLead := lead_any A (part D l k) ρ1 fb W' hD1 (by have := foldl_length (l.take k) D.names; have h2 : (l.take k).length ≤ k := List.length_take_le _ _; show (List.foldl nmSet D.names (l.take k)).length < _; unfold maxLen; omega) l[k] hlk
      have okp := hD.ok
      have role := hD.role
      obtain ⟨m, op, pl, hA, hN, hO, hP⟩ := hD.top
      have hltw : A < wr.heap.size := hD.lt
      have hgw : g < wr.heap.size := Nat.lt_of_lt_of_le hgl hF.size
      have hgr : wr.heap[g]? = some (.cells (l.flatMap (linkCells fb)).toArray 79 (0, 0)) := (hF.block g hgl (by rw [HR.out]; simp [own])).trans HG.out
      have hcells : ∀ (l : List (Nm × Option Nat)) (k : Nat) (h : k < l.length), (l.flatMap (linkCells fb))[k * 2]? = some (.string l[k].1) ∧ (l.flatMap (linkCells fb))[k * 2 + 1]? = some (ptrV fb l[k].2) := by
        intro l
        induction l with
        | nil => intro k h; simp at h
        | cons x r ih =>
          intro k h
          cases k with
          | zero => simp [linkCells]
          | succ k =>
            have := ih k (by simpa using h)
            rw [List.flatMap_cons, List.getElem?_append_right (by simp [linkCells]; omega), List.getElem?_append_right (by simp [linkCells]; omega)]
            simp only [linkCells, List.length_cons, List.length_nil, List.getElem_cons_succ]
            rw [show (k + 1) * 2 - (0 + 1 + 1) = k * 2 by omega, show (k + 1) * 2 + 1 - (0 + 1 + 1) = k * 2 + 1 by omega]
            exact this
      have e1 : wr.cell? ⟨g, k * 2, none⟩ = some (.string l[k].1) := by simp only [World.cell?, hgr]; simpa using (hcells l k hlt').1
      have e2 : wr.cell? ⟨g, k * 2 + 1, none⟩ = some (ptrV fb l[k].2) := by simp only [World.cell?, hgr]; simpa using (hcells l k hlt').2
      have hsV : V.heap.size = wr.heap.size + 1 := by rw [hV]; simp
      have hVn : V.heap[wr.heap.size]? = some (.cells #[.string l[k].1, ptrV fb l[k].2] 79 (0, 0)) := by rw [hV]; exact heap_alloc_new wr _
      have v0 : V.cell? ⟨wr.heap.size, 0, none⟩ = some (.string l[k].1) := by simp [World.cell?, hVn]
      have v1 : V.cell? ⟨wr.heap.size, 1, none⟩ = some (ptrV fb l[k].2) := by simp [World.cell?, hVn]
      have c0 : V.cell? ⟨A, 0, none⟩ = some (.map m) := by
        rw [hV]; exact cell_alloc (by simp [World.cell?, hA, topCells]) _
      have v0' := cell_alloc v0
      have c0' := cell_alloc c0
      have hlook := names_look hN okp.sorted hlk.1 (fun p hp => by rw [hD.files.1]; exact (okp.named p hp).2)
      have l1 : (Instr.lookup 41 (.map m) (.string l[k].1) false).run Try.prog V.drew = .ok (ptrV fb (nmGet (part D l k).names l[k].1)) V.drew := hlook _ (fun b hb _ => by rw [hV]; exact heap_alloc_lt hb)
      have l2 : ∀ o, (Instr.lookup 41 (.map m) (.string l[k].1) false).run Try.prog (V.alloc o).drew = .ok (ptrV fb (nmGet (part D l k).names l[k].1)) (V.alloc o).drew := fun o => hlook _ (fun b hb _ => (heap_alloc_lt (by omega)).trans (by rw [hV]; exact heap_alloc_lt hb))
      obtain ⟨q, hq⟩ : ∃ q, ptrV fb l[k].2 = .pointer q := ⟨_, rfl⟩
      obtain ⟨q', hq'⟩ : ∃ q, ptrV fb (nmGet (part D l k).names l[k].1) = .pointer q := ⟨_, rfl⟩
      rw [hq] at e2 v1 q1 hLead hV
      rw [hq'] at l1 happ
      rw [← hsV] at happ
      simp only [hq'] at l2
      have hAb : u4.ownBlock ≠ some A := fun e => by have := hro A e; rw [role] at this; cases this
      have w0 : W'.cell? ⟨A, 0, none⟩ = some (.map m) := by simp [World.cell?, hW' A hltw hAb, hA, topCells]
      have l3 : (Instr.lookup 41 (.map m) (.string l[k].1) false).run Try.prog W' = .ok (.pointer q') W' := by
        have := hlook W' (fun b hb hr2 => hW' b hb (fun e => by have := hro b e; rw [hr2] at this; cases this))
        rw [this, hq']
      have l0 : (Instr.lookup 41 (.map m) (.string l[k].1) false).run Try.prog V = .ok (.pointer q') V := by
        have := hlook V (fun b hb _ => by rw [hV]; exact heap_alloc_lt hb)
        rw [this, hq']
      clear hq hq' hW'
      have HV := Lib.hid hV
      have HVN := Lib.hid hsV
      have HLEAD := Lib.hid hLead
      have HF1 := Lib.hid hF1
      have HROW := Lib.hid hrow1
      have HRO := Lib.hid hro1
      clear hV hsV hLead hD1 hF1 hrow1 hro1 hD hF hrow hro hN hO hP hA okp role hlook hlk hgr hcells hVn
      go_wp2
      rw [← HV.out]
      go_region_held3 (fun x => x.cell? ⟨wr.heap.size, 0, none⟩ = some (.string l[k].1) ∧ x.cell? ⟨A, 0, none⟩ = some (.map m) ∧ (Instr.lookup 41 (.map m) (.string l[k].1) false).run Try.prog x = .ok (.pointer q') x)
        (first
          | exact ⟨v0, c0, l0⟩
          | exact ⟨v0, c0, l1⟩
          | exact ⟨v0' _, c0' _, l2 _⟩
          | exact ⟨q0, w0, l3⟩)
        ((refine step_append_run (by rfl) _ _ _ _ (by rfl) _ _ v' W' (by rfl) (by rfl) happ ?_))
      go_wp2_with fail
      refine (HLEAD.out).mono ?_
      rintro e W2 ⟨rfl, hled⟩
      have HLED := Lib.hid hled
      clear hled
      go_wp2
      go_roundw
      case rel => exact ⟨k + 1, by omega, by go_num, RelR.led hlt' HF1.out HROW.out HRO.out HLED.out⟩
      case measure => simp [intOf]; omega
    · obtain rfl : k = l.length := by omega
      obtain ⟨p, n, c, rfl⟩ : ∃ p n c, u4 = .slice p n c := by
        obtain ⟨_, _, _, hrow, _⟩ := hR
        rcases hrow.2 with ⟨rfl, _⟩ | ⟨g, cap, cur, rfl, _⟩ <;> exact ⟨_, _, _, rfl⟩
      obtain ⟨op, p', n', c', Y', c1, happ, d1, f1, hled⟩ := hR.done ok hl hop
      have HLED := Lib.hid hled
      clear hled hR
      go_wp2_with (at_builtin; refine wpList_append_run (by rfl) _ _ _ _ (by rfl) _ _ (.slice p' n' c') Y' (by rfl) (by rfl) happ ?_)
      go_end0
      exact ⟨rfl, HLED.out⟩
end Go.Proofs.Ytblhbkhehddccaa
