/- The builtin append, met by the equation of its run: at a plain list of operations, and at a step of a region that draws its order. How names of a disk are led elsewhere, and what they led to is kept: the walk. What calls of package disk do to a disk in memory: New, Steps, Read, Sync, SyncNames. What calls of package disk do to a file of a disk in memory: Sync, Cut. What Rename and Remove of package disk do to a disk in memory. What Write of package disk does to a disk in memory. What Write of package disk does to a disk in memory: the walks. What a short Write of package disk does to a disk in memory. Conditions: those that each theorem names. -/
import Derived.Deep.AppendLies
import Derived.Lib.AppendStr
import Derived.Test.YtioidkbpjkcjeaaGreatDoorGaA
import Derived.LoopTactic
namespace Go.Proofs.YtioidkbpjkcjeaaGreatDoor
open Go

section
variable {P : Program} {w : World}
theorem wp_append_run {o : Oper} {a : Act} {K : Act → World → Prop} {Q : Exit → Act → World → Prop} (s x : Operand) (t u : TypeId)
    (ho : o.op = .call { callee := .builtin .append, args := #[s, x], argTypes := #[t, u] }) (v y v' : Value) (w' : World) (hs : a.eval s = v) (hx : a.eval x = y)
    (hr : ∀ ty, (Builtin.append_ #[t, u] ty #[v, y]).run P w = .ok v' w') (h : K (a.put o.dst v') w') : o.wp P a w K Q := by
  unfold Oper.wp execOp
  simp only [ho, resolve, invoke, builtin, Sem.run_bind, Sem.run_pure, Result.andThen_ok, List.map_toArray, List.map_cons, List.map_nil, hs, hx, hr]
  exact h
theorem wpList_append_run {ops : Array Oper} {rest : List Oper} {o : Oper} {a : Act} {Q : Exit → Act → World → Prop} (hgd : o.guard = none) (s x : Operand) (t u : TypeId)
    (ho : o.op = .call { callee := .builtin .append, args := #[s, x], argTypes := #[t, u] }) (v y v' : Value) (w' : World) (hs : a.eval s = v) (hx : a.eval x = y)
    (hr : ∀ ty, (Builtin.append_ #[t, u] ty #[v, y]).run P w = .ok v' w') (h : wpList P ops Q rest (a.put o.dst v') w') : wpList P ops Q (o :: rest) a w :=
  wpList_plain hgd fun _ hK => wp_append_run s x t u ho v y v' w' hs hx hr (hK _ _ h)
theorem step_append_run {ops : Array Oper} {o : Oper} {a : Act} {K : Act → World → Prop} {Q : Exit → Act → World → Prop} {E : Prop} (hgd : o.guard = none) (s x : Operand) (t u : TypeId)
    (ho : o.op = .call { callee := .builtin .append, args := #[s, x], argTypes := #[t, u] }) (v y v' : Value) (w' : World) (hs : a.eval s = v) (hx : a.eval x = y)
    (hr : ∀ ty, (Builtin.append_ #[t, u] ty #[v, y]).run P w = .ok v' w') (h : K (a.put o.dst v') w') : if Region.wanted o (yielded ops a.tmps) = true then Oper.wp P o a w K Q else E := by
  have hw : Region.wanted o (yielded ops a.tmps) = true := by simp [Region.wanted, hgd]
  rw [if_pos hw]
  exact wp_append_run s x t u ho v y v' w' hs hx hr h

theorem growBy_le (newLen : Nat) : ∀ (r c : Nat), Builtin.growBy newLen r c ≤ max c (newLen + (newLen + 768) / 4)
  | 0, c => by simp [Builtin.growBy]; omega
  | r + 1, c => by
    unfold Builtin.growBy
    split
    · omega
    · have := growBy_le newLen r (c + (c + 768) / 4); omega
theorem nextcap_le {need old : Nat} (h : old < need) : Builtin.nextslicecap need old ≤ max 512 (need + (need + 768) / 4) := by
  unfold Builtin.nextslicecap
  split
  · omega
  · split
    · omega
    · have := growBy_le need 4 old; omega
/-- Appending a string's bytes to a slice of bytes of one's own: where the new slice lies is told. -/
theorem run_append_string (w : World) (t u ty e : TypeId) (i : TypeInfo) (ht : P.underlying t = some (.slice e)) (hu : P.underlying u = some .string) (hi : P.info? e = some i) (hz : i.zero = some (.int .u8 0))
    (hsize : i.size = 1) (hby : i.bytes = 1) (v : Value) (n : Nat) (xs : List Value) (hown : w.ownsRow 0 e 1 v n xs) (s : ByteArray) (hfit : n + s.size ≤ 200000000000000) :
    ∃ p c w', (Builtin.append_ #[t, u] ty #[v, .string s]).run P w = .ok (.slice p (n + s.size) c) w' ∧ w'.ownsRow 0 e 1 (.slice p (n + s.size) c) (n + s.size) (xs ++ Lib.strCells s) ∧ w.grownBy w' v.ownBlock ∧
      (∀ g, (Value.slice p (n + s.size) c).ownBlock = some g → v.ownBlock = some g ∨ w.heap.size ≤ g) := by
  have h63 : n + s.size ≤ maxLen := by unfold maxLen; omega
  have hxl : xs.length = n := by simpa using hown.1
  have hlen : (xs ++ Lib.strCells s).length = (n + s.size) * 1 := by rw [List.length_append, hxl, Lib.strCells_length, Nat.mul_one]
  have grown : ∀ (old : Nat), old < n + s.size → ∀ (row : Option Nat),
      (w.drew.alloc (.cells (xs.toArray ++ (Lib.strCells s).toArray ++ Builtin.zeroCells (Value.int .u8 0).cells (grownCap w (n + s.size) old e - (n + s.size))) e)).ownsRow 0 e 1
        (.slice (some ⟨w.heap.size, 0, none⟩) (n + s.size) (grownCap w (n + s.size) old e)) (n + s.size) (xs ++ Lib.strCells s) ∧
      w.grownBy (w.drew.alloc (.cells (xs.toArray ++ (Lib.strCells s).toArray ++ Builtin.zeroCells (Value.int .u8 0).cells (grownCap w (n + s.size) old e - (n + s.size))) e)) row := by
    intro old ho row
    have hge := grownCap_ge w (n + s.size) old e
    have hcm : grownCap w (n + s.size) old e ≤ maxLen := grownCap_le_maxLen w (n + s.size) old e h63
    refine ⟨⟨hlen, .inr ⟨w.heap.size, _, _, rfl, Nat.zero_le _, heap_alloc_new w.drew _, hge, hcm, ?_, ?_⟩⟩, ⟨rfl, rfl, rfl, by simp, fun k hk _ => by first | exact heap_alloc_old w.drew _ k hk | exact heap_alloc_old w.drew _ hk⟩⟩
    · have hz1 : (Value.int IntKind.u8 0).cells.size = 1 := rfl
      simp only [Array.size_append, List.size_toArray, size_zeroCells, hz1, hxl, Lib.strCells_length]
      omega
    · simp only [Array.toList_append, List.append_assoc]
      rw [← List.append_assoc, ← hlen]
      exact List.take_left
  rcases hown.2 with ⟨rfl, rfl⟩ | ⟨g, cap, cur, rfl, hbg, hg, hnc, hcm, hcs, htake⟩
  · have hx : xs = [] := List.eq_nil_of_length_eq_zero hxl
    subst hx
    by_cases hm : s.size = 0
    · have hn : Lib.strCells s = [] := List.eq_nil_of_length_eq_zero (by rw [Lib.strCells_length]; exact hm)
      refine ⟨none, 0, w, ?_, by rw [hm, hn]; exact World.ownsRow_nil w 0 e 1, ⟨rfl, rfl, rfl, Nat.le_refl _, fun _ _ _ => rfl⟩, fun g hg => by simp [Value.ownBlock] at hg⟩
      have hf := Lib.run_firstCells_string (P := P) w 1 s
      rw [hm] at hf
      simp [Builtin.append_, run_underlying ht, run_underlying hu, sizeOf, typeInfo, hi, hsize, Builtin.lenOf, hm, hf]
    · have hr := run_append_nil_string (P := P) w t u ty e i (.int .u8 0) ht hu hi hz s (by omega) (by omega) (by rw [hby]; omega)
      have hgr := grown 0 (by omega) (Value.ownBlock (.slice none 0 0))
      simp only [Nat.zero_add, List.nil_append, Array.empty_append] at hgr ⊢
      have e1 : (s.data.map fun b => Value.int .u8 b.toNat) = (Lib.strCells s).toArray := by
        apply Array.ext'
        simp [Lib.strCells]
      rw [e1] at hr
      exact ⟨_, _, _, hr, hgr.1, hgr.2, fun g hg => .inr (Nat.le_of_eq (by simpa [Value.ownBlock] using hg))⟩
  · by_cases hroom : n + s.size ≤ cap
    · have hcs' : cur.size = cap := by simpa using hcs
      have hr := Lib.run_append_room_string (P := P) w t u ty e i ht hu hi hsize g n cap cur hg s hroom (by omega)
      refine ⟨_, _, _, hr, ⟨hlen, .inr ⟨g, cap, _, rfl, hbg, setRow_heap w g cur _ e _ hg, hroom, hcm, ?_, ?_⟩⟩, ⟨rfl, rfl, rfl, by simp, fun k _ hk => setRow_other w g k _ (fun e => hk (by simp [Value.ownBlock, e]))⟩, fun g' hg' => .inl (by simpa [Value.ownBlock] using hg')⟩
      · simp only [List.size_toArray, List.length_append, List.length_take, List.length_drop, Array.length_toList, Lib.strCells_length]
        omega
      · have ht' : cur.toList.take n = xs := by simpa using htake
        rw [ht', ← hlen]
        exact List.take_left
    · have holds : ∀ j u, xs[j]? = some u → w.cell? ((⟨g, 0, none⟩ : Addr).add j) = some u := hown.cells (g := g) rfl
      have hr := Lib.run_append_grow_string (P := P) w t u ty e i (.int .u8 0) ht hu hi hz ⟨g, 0, none⟩ n cap xs (by rw [hsize]; simpa using hxl) holds s (by omega) (by omega) (by rw [hby]; have := nextcap_le (need := n + s.size) (old := cap) (by omega); omega)
      have hgr := grown cap (by omega) (Value.ownBlock (.slice (some ⟨g, 0, none⟩) n cap))
      exact ⟨_, _, _, hr, hgr.1, hgr.2, fun g' hg' => .inr (Nat.le_of_eq (by simpa [Value.ownBlock] using hg'))⟩
end
end Go.Proofs.YtioidkbpjkcjeaaGreatDoor
namespace Go.Proofs.YtioidkbpjkcjeaaGreatDoor
open Go.RowKit Dk

set_option maxHeartbeats 4000000 in
set_option maxRecDepth 100000 in
theorem relink_any (A : Nat) (D : DSt) (ρ : Nat → Nat × Nat) (fb : List Nat) (w : World) (h : DiskAt w A D ρ fb) (l : List (Nm × Option Nat)) (hl : ∀ x ∈ l, linkOk D.files.length x) (hll : l.length ≤ 1000)
    (hnm : D.names.length ≤ 1099511627776) (hop : D.opn.length ≤ 1099511627776) (g : Nat) (hg : w.heap[g]? = some (.cells (l.flatMap (linkCells fb)).toArray 144 (0, 0))) (hr : ρ g = (0, 0)) :
    Calls Tryz.prog 83 #[.pointer (some ⟨A, 0, none⟩), .slice (some ⟨g, 0, none⟩) l.length l.length] w fun e w' => e = .returned (.tuple #[]) ∧ Led w A (D.relink l) ρ fb w' := by
  have hlt := h.lt
  have ok := h.ok
  have hgl : g < w.heap.size := (Array.getElem?_eq_some_iff.1 hg).1
  have HST := Lib.hid (RelR.start h l)
  have HH := Lib.hid h
  have HG := Lib.hid hg
  have HR := Lib.hid hr
  clear h hg hr
  go_enter Tryz.func83, Tryz.ntmps83
  go_wp2
  go_loopw [4, 9] (fun bv i wr => ∃ k : Nat, k ≤ l.length ∧ i = .int .i64 k ∧ RelR w A D ρ fb l k bv wr) (fun _ i _ => l.length - (intOf i).toNat)
  case atStart => exact ⟨0, Nat.zero_le _, rfl, HST.out⟩
  case round =>
    obtain ⟨k, hk, rfl, hR⟩ := hrel
    by_cases hlt' : k < l.length
    · obtain ⟨V, hV⟩ : ∃ V, V = wr.alloc (.cells #[.string l[k].1, ptrV fb l[k].2] 144) := ⟨_, rfl⟩
      have hlk : linkOk D.files.length l[k] := hl _ (List.getElem_mem hlt')
      obtain ⟨v', W', happ, q0, q1, hW', ρ1, hD1, hF1, hrow1, hro1⟩ := hR.kept hlt' (by omega) _ rfl V _ hV rfl
      obtain ⟨ρk, hD, hF, hrow, hro⟩ := hR
      have hLead := lead_any A (part D l k) ρ1 fb W' hD1 (by have := foldl_length (l.take k) D.names; have h2 : (l.take k).length ≤ k := List.length_take_le _ _; show (List.foldl nmSet D.names (l.take k)).length < _; unfold maxLen; omega) l[k] hlk
      have okp := hD.ok
      have role := hD.role
      obtain ⟨m, op, pl, hA, hN, hO, hP⟩ := hD.top
      have hltw : A < wr.heap.size := hD.lt
      have hgw : g < wr.heap.size := Nat.lt_of_lt_of_le hgl hF.size
      have hgr : wr.heap[g]? = some (.cells (l.flatMap (linkCells fb)).toArray 144 (0, 0)) := (hF.block g hgl (by rw [HR.out]; simp [own])).trans HG.out
      have hcells : ∀ (l : List (Nm × Option Nat)) (k : Nat) (h : k < l.length), (l.flatMap (linkCells fb))[k * 2]? = some (.string l[k].1) ∧ (l.flatMap (linkCells fb))[k * 2 + 1]? = some (ptrV fb l[k].2) := by
        intro l
        induction l with
        | nil => intro k h; simp at h
        | cons x r ih =>
          intro k h
          cases k with
          | zero => simp [linkCells]
          | succ k =>
            have := ih k (by simpa using h)
            rw [List.flatMap_cons, List.getElem?_append_right (by simp [linkCells]; omega), List.getElem?_append_right (by simp [linkCells]; omega)]
            simp only [linkCells, List.length_cons, List.length_nil, List.getElem_cons_succ]
            rw [show (k + 1) * 2 - (0 + 1 + 1) = k * 2 by omega, show (k + 1) * 2 + 1 - (0 + 1 + 1) = k * 2 + 1 by omega]
            exact this
      have e1 : wr.cell? ⟨g, k * 2, none⟩ = some (.string l[k].1) := by simp only [World.cell?, hgr]; simpa using (hcells l k hlt').1
      have e2 : wr.cell? ⟨g, k * 2 + 1, none⟩ = some (ptrV fb l[k].2) := by simp only [World.cell?, hgr]; simpa using (hcells l k hlt').2
      have hsV : V.heap.size = wr.heap.size + 1 := by rw [hV]; simp
      have hVn : V.heap[wr.heap.size]? = some (.cells #[.string l[k].1, ptrV fb l[k].2] 144 (0, 0)) := by rw [hV]; exact heap_alloc_new wr _
      have v0 : V.cell? ⟨wr.heap.size, 0, none⟩ = some (.string l[k].1) := by simp [World.cell?, hVn]
      have v1 : V.cell? ⟨wr.heap.size, 1, none⟩ = some (ptrV fb l[k].2) := by simp [World.cell?, hVn]
      have c0 : V.cell? ⟨A, 0, none⟩ = some (.map m) := by
        rw [hV]; exact cell_alloc (by simp [World.cell?, hA, topCells]) _
      have v0' := cell_alloc v0
      have c0' := cell_alloc c0
      have hlook := names_look hN okp.sorted hlk.1 (fun p hp => by rw [hD.files.1]; exact (okp.named p hp).2)
      have l1 : (Instr.lookup 55 (.map m) (.string l[k].1) false).run Tryz.prog V.drew = .ok (ptrV fb (nmGet (part D l k).names l[k].1)) V.drew := hlook _ (fun b hb _ => by rw [hV]; exact heap_alloc_lt hb)
      have l2 : ∀ o, (Instr.lookup 55 (.map m) (.string l[k].1) false).run Tryz.prog (V.alloc o).drew = .ok (ptrV fb (nmGet (part D l k).names l[k].1)) (V.alloc o).drew := fun o => hlook _ (fun b hb _ => (heap_alloc_lt (by omega)).trans (by rw [hV]; exact heap_alloc_lt hb))
      obtain ⟨q, hq⟩ : ∃ q, ptrV fb l[k].2 = .pointer q := ⟨_, rfl⟩
      obtain ⟨q', hq'⟩ : ∃ q, ptrV fb (nmGet (part D l k).names l[k].1) = .pointer q := ⟨_, rfl⟩
      rw [hq] at e2 v1 q1 hLead hV
      rw [hq'] at l1 happ
      rw [← hsV] at happ
      simp only [hq'] at l2
      have hAb : u4.ownBlock ≠ some A := fun e => by have := hro A e; rw [role] at this; cases this
      have w0 : W'.cell? ⟨A, 0, none⟩ = some (.map m) := by simp [World.cell?, hW' A hltw hAb, hA, topCells]
      have l3 : (Instr.lookup 55 (.map m) (.string l[k].1) false).run Tryz.prog W' = .ok (.pointer q') W' := by
        have := hlook W' (fun b hb hr2 => hW' b hb (fun e => by have := hro b e; rw [hr2] at this; cases this))
        rw [this, hq']
      have l0 : (Instr.lookup 55 (.map m) (.string l[k].1) false).run Tryz.prog V = .ok (.pointer q') V := by
        have := hlook V (fun b hb _ => by rw [hV]; exact heap_alloc_lt hb)
        rw [this, hq']
      clear hq hq' hW'
      have HV := Lib.hid hV
      have HVN := Lib.hid hsV
      have HLEAD := Lib.hid hLead
      have HF1 := Lib.hid hF1
      have HROW := Lib.hid hrow1
      have HRO := Lib.hid hro1
      clear hV hsV hLead hD1 hF1 hrow1 hro1 hD hF hrow hro hN hO hP hA okp role hlook hlk hgr hcells hVn
      go_wp2
      rw [← HV.out]
      go_region_held3 (fun x => x.cell? ⟨wr.heap.size, 0, none⟩ = some (.string l[k].1) ∧ x.cell? ⟨A, 0, none⟩ = some (.map m) ∧ (Instr.lookup 55 (.map m) (.string l[k].1) false).run Tryz.prog x = .ok (.pointer q') x)
        (first
          | exact ⟨v0, c0, l0⟩
          | exact ⟨v0, c0, l1⟩
          | exact ⟨v0' _, c0' _, l2 _⟩
          | exact ⟨q0, w0, l3⟩)
        ((refine step_append_run (by rfl) _ _ _ _ (by rfl) _ _ v' W' (by rfl) (by rfl) happ ?_))
      go_wp2_with fail
      refine (HLEAD.out).mono ?_
      rintro e W2 ⟨rfl, hled⟩
      have HLED := Lib.hid hled
      clear hled
      go_wp2
      go_roundw
      case rel => exact ⟨k + 1, by omega, by go_num, RelR.led hlt' HF1.out HROW.out HRO.out HLED.out⟩
      case measure => simp [intOf]; omega
    · obtain rfl : k = l.length := by omega
      obtain ⟨p, n, c, rfl⟩ : ∃ p n c, u4 = .slice p n c := by
        obtain ⟨_, _, _, hrow, _⟩ := hR
        rcases hrow.2 with ⟨rfl, _⟩ | ⟨g, cap, cur, rfl, _⟩ <;> exact ⟨_, _, _, rfl⟩
      obtain ⟨op, p', n', c', Y', c1, happ, d1, f1, hled⟩ := hR.done ok hl hop
      have HLED := Lib.hid hled
      clear hled hR
      go_wp2_with (at_builtin; refine wpList_append_run (by rfl) _ _ _ _ (by rfl) _ _ (.slice p' n' c') Y' (by rfl) (by rfl) happ ?_)
      go_end0
      exact ⟨rfl, HLED.out⟩
end Go.Proofs.YtioidkbpjkcjeaaGreatDoor
namespace Go.Proofs.YtioidkbpjkcjeaaGreatDoor
open Go.RowKit Dk

/-! ### New -/
set_option maxHeartbeats 400000 in
theorem new_any (w : World) :
    Calls Tryz.prog 4 #[] w fun e w' => e = .returned (.pointer (some ⟨w.heap.size, 0, none⟩)) ∧ w' = w.alloc (.cells #[.map none, .slice none 0 0, .int .i64 0, .map none] 59) := by
  go_enter Tryz.func4, Tryz.ntmps4
  go_wp2
  go_ret
  exact ⟨rfl, rfl⟩
def noMarks : Nat → Nat × Nat := fun _ => (0, 0)
theorem DiskAt.made (w : World) : DiskAt (w.alloc (.cells #[.map none, .slice none 0 0, .int .i64 0, .map none] 59)) w.heap.size Dk.new (setR noMarks (some w.heap.size) (1, 0)) [] :=
  ⟨new_ok, fun b hb => by simp at hb; have : w.heap.size ≠ b := by omega
                          simp [setR, noMarks, this],
    by simp [setR], ⟨none, .slice none 0 0, none, heap_alloc_new _ _, .inl ⟨rfl, rfl⟩, ⟨[], World.ownsRow_nil _ _ _ _, fun g hg => by simp [Value.ownBlock] at hg, fun i l hl => by simp [Dk.new] at hl⟩, .inl ⟨rfl, rfl⟩⟩, rfl, fun i f hf => by simp [Dk.new] at hf⟩

/-! ### Steps -/
set_option maxHeartbeats 400000 in
theorem steps_nil (w : World) :
    Calls Tryz.prog 21 #[.pointer none] w fun e w' => e = .returned (.int .i64 0) ∧ w = w' := by
  go_enter Tryz.func21, Tryz.ntmps21
  go_wp2
  go_ret
  exact ⟨rfl, rfl⟩
set_option maxHeartbeats 400000 in
theorem steps_any (A : Nat) (D : DSt) (ρ : Nat → Nat × Nat) (fb : List Nat) (w : World) (h : DiskAt w A D ρ fb) :
    Calls Tryz.prog 21 #[.pointer (some ⟨A, 0, none⟩)] w fun e w' => e = .returned (.int .i64 D.steps) ∧ w = w' := by
  obtain ⟨m, op, pl, hA, _⟩ := h.top
  have c2 : w.cell? ⟨A, 2, none⟩ = some (.int .i64 D.steps) := by simp [World.cell?, hA, topCells]
  clear hA h
  go_enter Tryz.func21, Tryz.ntmps21
  go_wp2
  go_ret
  exact ⟨rfl, rfl⟩

/-! ### Read -/
set_option maxHeartbeats 400000 in
theorem read_nil (s : ByteArray) (w : World) :
    Calls Tryz.prog 8 #[.pointer none, .string s] w fun e w' => e = .returned (.tuple #[.string ⟨#[]⟩, .int .i64 1]) ∧ w = w' := by
  go_enter Tryz.func8, Tryz.ntmps8
  go_wp2_with (go_at_call 26; refine (find_nil _ _).mono ?_; rintro e w' ⟨rfl, rfl⟩)
  go_ret2
  exact ⟨rfl, rfl⟩
set_option maxHeartbeats 400000 in
theorem read_empty (A : Nat) (s : ByteArray) (hs : s.toList = []) (w : World) :
    Calls Tryz.prog 8 #[.pointer (some ⟨A, 0, none⟩), .string s] w fun e w' => e = .returned (.tuple #[.string ⟨#[]⟩, .int .i64 1]) ∧ w = w' := by
  have HS := Lib.hid hs
  clear hs
  go_enter Tryz.func8, Tryz.ntmps8
  go_wp2_with (go_at_call 26; refine (find_empty _ _ HS.out _).mono ?_; rintro e w' ⟨rfl, rfl⟩)
  go_ret2
  exact ⟨rfl, rfl⟩
set_option maxHeartbeats 400000 in
theorem read_none (A : Nat) (D : DSt) (ρ : Nat → Nat × Nat) (fb : List Nat) (w : World) (h : DiskAt w A D ρ fb) (s : ByteArray) (hl : s.size ≤ maxLen) (hs : s.toList.isEmpty = false) (hg : nmGet D.names s = none) :
    Calls Tryz.prog 8 #[.pointer (some ⟨A, 0, none⟩), .string s] w fun e w' => e = .returned (.tuple #[.string ⟨#[]⟩, .int .i64 20]) ∧ w = w' := by
  have HC := Lib.hid (find_none A D ρ fb w h s hl hs hg)
  clear h hl hs hg
  go_enter Tryz.func8, Tryz.ntmps8
  go_wp2_with (go_at_call 26; refine (HC.out).mono ?_; rintro e w' ⟨rfl, rfl⟩)
  go_ret2
  exact ⟨rfl, rfl⟩
theorem u8s_length (l : List UInt8) : (u8s l).length = l.length := by simp [u8s]
/-- The string that a file's bytes are. -/
theorem bytes_string {w : World} {v : Value} {l : List UInt8} (h : w.ownsRow 0 5 1 v l.length (u8s l)) : (convert 80 9 v).run Tryz.prog w = .ok (.string ⟨l.toArray⟩) w := by
  rcases h.2 with ⟨rfl, h0⟩ | ⟨g, cap, cur, rfl, h0, h1, h2, h3, h4, h5⟩
  · have : l = [] := List.eq_nil_of_length_eq_zero h0
    subst this
    rw [run_convert_bytes_string w _ _ _ none 0 0 Tryz.underlying80 Tryz.underlying5 Tryz.underlying9]
    rfl
  · refine run_convert_bytes_back w _ _ _ _ cap l Tryz.underlying80 Tryz.underlying5 Tryz.underlying9 (fun j hj => ?_)
    have := h.cells (g := g) rfl j (.int .u8 (l[j].toNat : Int)) (by simp [u8s, hj])
    exact this
set_option maxHeartbeats 400000 in
theorem read_some (A : Nat) (D : DSt) (ρ : Nat → Nat × Nat) (fb : List Nat) (w : World) (h : DiskAt w A D ρ fb) (s : ByteArray) (hl : s.size ≤ maxLen) (hs : s.toList.isEmpty = false) (i : Nat) (f : FileC) (hg : nmGet D.names s = some i) (hf : D.files[i]? = some f) :
    Calls Tryz.prog 8 #[.pointer (some ⟨A, 0, none⟩), .string s] w fun e w' => e = .returned (.tuple #[.string ⟨f.data.toArray⟩, .int .i64 0]) ∧ w = w' := by
  obtain ⟨B, hB, hr, v, h1, h2, h3⟩ := h.files.2 i f hf
  have HC := Lib.hid (find_some A D ρ fb w h s hl hs i B hg hB)
  have c0 : w.cell? ⟨B, 0, none⟩ = some v := by simp [World.cell?, h1]
  have hc := bytes_string h2
  clear h hl hs hg hf hB h1 h2 h3 hr
  go_enter Tryz.func8, Tryz.ntmps8
  go_wp2_with (go_at_call 26; refine (HC.out).mono ?_; rintro e w' ⟨rfl, rfl⟩)
  go_ret2
  exact ⟨rfl, rfl⟩

/-! ### SyncNames -/
def DSt.close (D : DSt) : DSt := { D with opn := [] }
theorem DiskAt.close {w : World} {A : Nat} {D : DSt} {ρ : Nat → Nat × Nat} {fb : List Nat} (h : DiskAt w A D ρ fb) : DiskAt (w.setCell ⟨A, 1, none⟩ (.slice none 0 0)) A (DSt.close D) ρ fb ∧ Fr own ρ ρ w (w.setCell ⟨A, 1, none⟩ (.slice none 0 0)) := by
  obtain ⟨ok, out, role, ⟨m, op, pl, hA, hN, hO, hP⟩, hF⟩ := h
  have F : Fr (fun r => r = (1, 0)) ρ ρ w (w.setCell ⟨A, 1, none⟩ (.slice none 0 0)) := ⟨rfl, rfl, rfl, by simp [World.setCell], fun b hb hn => heap_setCell_ne (fun e => hn (by have e' : b = A := e; rw [e']; exact role)), fun _ _ => rfl, fun _ _ h => h, fun b hb => out b (by simpa [World.setCell] using hb)⟩
  exact ⟨⟨⟨ok.sorted, ok.named, by simp [DSt.close], ok.synced⟩, F.out, role, ⟨m, .slice none 0 0, pl, heap_setCell_same _ _ _ _ _ _ hA, hN.fr F (by simp), ⟨[], World.ownsRow_nil _ _ _ _, fun g hg => by simp [Value.ownBlock] at hg, fun i l hl => by simp [DSt.close] at hl⟩, hP.fr F (by simp)⟩, hF.fr F (by simp) (by simp)⟩, F.weaken (fun r hr => by rw [hr]; simp [own])⟩
set_option maxHeartbeats 400000 in
theorem syncNames_nil (w : World) :
    Calls Tryz.prog 74 #[.pointer none] w fun e w' => e = .returned (.int .i64 1) ∧ w = w' := by
  go_enter Tryz.func74, Tryz.ntmps74
  go_wp2
  go_ret
  exact ⟨rfl, rfl⟩
set_option maxHeartbeats 400000 in
theorem syncNames_miss (A : Nat) (D : DSt) (ρ : Nat → Nat × Nat) (fb : List Nat) (w : World) (h : DiskAt w A D ρ fb) (h0 : 0 ≤ D.steps) (h1 : D.steps ≤ 4611686018427387904) (hm : D.hit = none) :
    Calls Tryz.prog 74 #[.pointer (some ⟨A, 0, none⟩)] w fun e w' => e = .returned (.int .i64 0) ∧ Led w A (DSt.close D.tick) ρ fb w' := by
  have HT := Lib.hid (step_miss A D ρ fb w h h0 h1 hm)
  clear h h0 h1 hm
  go_enter Tryz.func74, Tryz.ntmps74
  go_wp2_with fail
  refine (HT.out).mono ?_
  rintro e w1 ⟨rfl, hD, hf⟩
  obtain ⟨m, op, pl, hA, _⟩ := hD.top
  have c1 : w1.cell? ⟨A, 1, none⟩ = some op := by simp [World.cell?, hA, topCells]
  have f1 : w1.frozen? ⟨A, 1, none⟩ = false := by simp [World.frozen?, hA]
  have a1 := cell_alloc c1
  have z1 := frozen_alloc hD.lt f1
  have hc := fun o => (hD.alloc o).close
  have HC := Lib.hid hc
  have HF := Lib.hid (fun o => hf.alloc hD.out o)
  clear hD hf hA hc
  go_wp2
  go_ret
  exact ⟨rfl, ρ, (HC.out _).1, (HF.out _).trans (HC.out _).2⟩
set_option maxHeartbeats 400000 in
theorem syncNames_hit (A : Nat) (D : DSt) (ρ : Nat → Nat × Nat) (fb : List Nat) (w : World) (h : DiskAt w A D ρ fb) (h0 : 0 ≤ D.steps) (h1 : D.steps ≤ 4611686018427387904) (fa fk fn : Int) (hm : D.hit = some (fa, fk, fn)) :
    Calls Tryz.prog 74 #[.pointer (some ⟨A, 0, none⟩)] w fun e w' => e = .returned (.int .i64 (hitErr (fa, fk, fn))) ∧ Led w A D.tick ρ fb w' := by
  have HT := Lib.hid (step_hit A D ρ fb w h h0 h1 fa fk fn hm)
  have he : (hitErr (fa, fk, fn) != 0) = true := by unfold hitErr; split <;> decide
  clear h h0 h1 hm
  go_enter Tryz.func74, Tryz.ntmps74
  go_wp2_with (go_at_call 82; refine (HT.out).mono ?_; rintro e w1 ⟨rfl, hD, hf⟩)
  go_ret
  exact ⟨rfl, ρ, hD.alloc _, hf.alloc hD.out _⟩
end Go.Proofs.YtioidkbpjkcjeaaGreatDoor
namespace Go.Proofs.YtioidkbpjkcjeaaGreatDoor
open Go.RowKit Dk

theorem ok_file {D : DSt} (ok : D.Ok) (i : Nat) {f' : FileC} (hok : f'.synced ≤ f'.data.length ∧ f'.data.length ≤ maxLen) : ({ D with files := D.files.set i f' } : DSt).Ok := by
  refine ⟨ok.sorted, by simpa using ok.named, by simpa using ok.opened, fun g hg => ?_⟩
  rcases List.mem_or_eq_of_mem_set hg with hg | rfl
  · exact ok.synced g hg
  · exact hok
theorem DiskAt.file_turn {w : World} {A : Nat} {D : DSt} {ρ : Nat → Nat × Nat} {fb : List Nat} (h : DiskAt w A D ρ fb) {i B : Nat} (hB : fb[i]? = some B) {w' : World} {ρ' : Nat → Nat × Nat}
    (F : Fr (fun r => r = (5, i) ∨ r = (6, i)) ρ ρ' w w') {f' : FileC} (hf' : FileAt w' ρ' i B f') (hok : f'.synced ≤ f'.data.length ∧ f'.data.length ≤ maxLen) :
    DiskAt w' A { D with files := D.files.set i f' } ρ' fb ∧ Fr own ρ ρ' w w' := by
  obtain ⟨ok, out, role, ⟨m, op, pl, hA, hN, hO, hP⟩, hF⟩ := h
  refine ⟨⟨ok_file ok i hok, F.out, F.mark role (by simp), ⟨m, op, pl, (F.at (Array.getElem?_eq_some_iff.1 hA).1 role (by simp)).trans hA, hN.fr F (by simp), hO.fr F (by simp) (by simp), hP.fr F (by simp)⟩, ?_, ?_⟩, F.weaken (fun r hr => by rcases hr with hr | hr <;> rw [hr] <;> simp [own])⟩
  · simpa using hF.1
  · intro j f hj
    show ∃ B', fb[j]? = some B' ∧ FileAt w' ρ' j B' f
    rw [List.getElem?_set] at hj
    split at hj
    · rename_i e
      subst e
      split at hj
      · cases hj; exact ⟨B, hB, hf'⟩
      · cases hj
    · rename_i e
      obtain ⟨B', h1, h2⟩ := hF.2 j f hj
      exact ⟨B', h1, h2.fr F (by simp; omega) (by simp; omega)⟩
theorem FileAt.form {w : World} {ρ : Nat → Nat × Nat} {i B : Nat} {f : FileC} (h : FileAt w ρ i B f) : ∃ p c, w.heap[B]? = some (.cells #[.slice p f.data.length c, .int .i64 f.synced] 82 (0, 0)) ∧ w.ownsRow 0 5 1 (.slice p f.data.length c) f.data.length (u8s f.data) ∧ ∀ g, (Value.slice p f.data.length c).ownBlock = some g → ρ g = (6, i) := by
  obtain ⟨h1, v, h2, h3, h4⟩ := h
  rcases h3.2 with ⟨rfl, h0⟩ | ⟨g, cap, cur, rfl, _⟩
  · have h2' := h2
    have h3' := h3
    rw [h0] at h3'
    exact ⟨none, 0, by rw [h0]; exact h2, by rw [h0]; exact h3', by rw [h0]; exact h4⟩
  · exact ⟨_, cap, h2, h3, h4⟩

/-! ### Sync -/
def syncF (f : FileC) : FileC := { f with synced := f.data.length }
theorem DiskAt.file_synced {w : World} {A : Nat} {D : DSt} {ρ : Nat → Nat × Nat} {fb : List Nat} (h : DiskAt w A D ρ fb) {i B : Nat} {f : FileC} (hf : D.files[i]? = some f) (hB : fb[i]? = some B) :
    DiskAt (w.setCell ⟨B, 1, none⟩ (.int .i64 f.data.length)) A { D with files := D.files.set i (syncF f) } ρ fb ∧ Fr own ρ ρ w (w.setCell ⟨B, 1, none⟩ (.int .i64 f.data.length)) := by
  obtain ⟨B', hB', hfa⟩ := h.files.2 i f hf
  rw [hB] at hB'; cases hB'
  obtain ⟨p, c, h1, h2, h3⟩ := hfa.form
  have hm := h.ok.synced f (List.mem_of_getElem? hf)
  have hne : ∀ b, b ≠ B → (w.setCell ⟨B, 1, none⟩ (.int .i64 f.data.length)).heap[b]? = w.heap[b]? := fun b hb => heap_setCell_ne hb
  refine h.file_turn (w' := w.setCell ⟨B, 1, none⟩ (.int .i64 f.data.length)) (f' := syncF f) hB ⟨rfl, rfl, rfl, by simp [World.setCell], fun b hb hn => hne b (fun e => hn (by rw [e]; exact .inl hfa.1)), fun _ _ => rfl, fun _ _ h => h, fun b hb => h.out b (by simpa [World.setCell] using hb)⟩ ⟨hfa.1, _, heap_setCell_same _ _ _ _ _ _ h1, ownsRow_same h2 (fun g hg => hne g (fun e => ?_)), h3⟩ ⟨Nat.le_refl _, hm.2⟩
  have h5 := h3 g hg
  have h6 := hfa.1
  rw [e, h6] at h5; cases h5
set_option maxHeartbeats 400000 in
theorem sync_nil (s : ByteArray) (w : World) :
    Calls Tryz.prog 64 #[.pointer none, .string s] w fun e w' => e = .returned (.int .i64 1) ∧ w = w' := by
  go_enter Tryz.func64, Tryz.ntmps64
  go_wp2_with (go_at_call 86; refine (stepAt_nil _ _).mono ?_; rintro e w' ⟨rfl, rfl⟩)
  go_ret
  exact ⟨rfl, rfl⟩
set_option maxHeartbeats 400000 in
theorem sync_empty (A : Nat) (s : ByteArray) (hs : s.toList = []) (w : World) :
    Calls Tryz.prog 64 #[.pointer (some ⟨A, 0, none⟩), .string s] w fun e w' => e = .returned (.int .i64 1) ∧ w = w' := by
  have HS := Lib.hid hs
  clear hs
  go_enter Tryz.func64, Tryz.ntmps64
  go_wp2_with (go_at_call 86; refine (stepAt_empty _ _ HS.out _).mono ?_; rintro e w' ⟨rfl, rfl⟩)
  go_ret
  exact ⟨rfl, rfl⟩
set_option maxHeartbeats 400000 in
theorem sync_none (A : Nat) (D : DSt) (ρ : Nat → Nat × Nat) (fb : List Nat) (w : World) (h : DiskAt w A D ρ fb) (s : ByteArray) (hl : s.size ≤ maxLen) (hs : s.toList.isEmpty = false) (hg : nmGet D.names s = none) :
    Calls Tryz.prog 64 #[.pointer (some ⟨A, 0, none⟩), .string s] w fun e w' => e = .returned (.int .i64 20) ∧ w = w' := by
  have HC := Lib.hid (stepAt_none A D ρ fb w h s hl hs hg)
  clear h hl hs hg
  go_enter Tryz.func64, Tryz.ntmps64
  go_wp2_with (go_at_call 86; refine (HC.out).mono ?_; rintro e w' ⟨rfl, rfl⟩)
  go_ret
  exact ⟨rfl, rfl⟩
set_option maxHeartbeats 400000 in
theorem sync_hit (A : Nat) (D : DSt) (ρ : Nat → Nat × Nat) (fb : List Nat) (w : World) (h : DiskAt w A D ρ fb) (h0 : 0 ≤ D.steps) (h1 : D.steps ≤ 4611686018427387904) (s : ByteArray) (hl : s.size ≤ maxLen) (hs : s.toList.isEmpty = false) (i : Nat) (f : FileC) (hg : nmGet D.names s = some i) (hf : D.files[i]? = some f) (fa fk fn : Int) (hm : D.hit = some (fa, fk, fn)) :
    Calls Tryz.prog 64 #[.pointer (some ⟨A, 0, none⟩), .string s] w fun e w' => e = .returned (.int .i64 (hitErr (fa, fk, fn))) ∧ Led w A D.tick ρ fb w' := by
  obtain ⟨B, hB, _⟩ := h.files.2 i f hf
  have HT := Lib.hid (stepAt_hit A D ρ fb w h h0 h1 s hl hs i B hg hB fa fk fn hm)
  have he : (hitErr (fa, fk, fn) != 0) = true := by unfold hitErr; split <;> decide
  clear h h0 h1 hl hs hg hB hm hf
  go_enter Tryz.func64, Tryz.ntmps64
  go_wp2_with (go_at_call 86; refine (HT.out).mono ?_; rintro e w1 ⟨rfl, hD, hf⟩)
  go_ret
  exact ⟨rfl, ρ, hD, hf⟩
set_option maxHeartbeats 400000 in
theorem sync_miss (A : Nat) (D : DSt) (ρ : Nat → Nat × Nat) (fb : List Nat) (w : World) (h : DiskAt w A D ρ fb) (h0 : 0 ≤ D.steps) (h1 : D.steps ≤ 4611686018427387904) (s : ByteArray) (hl : s.size ≤ maxLen) (hs : s.toList.isEmpty = false) (i : Nat) (f : FileC) (hg : nmGet D.names s = some i) (hf : D.files[i]? = some f) (hm : D.hit = none) :
    Calls Tryz.prog 64 #[.pointer (some ⟨A, 0, none⟩), .string s] w fun e w' => e = .returned (.int .i64 0) ∧ Led w A { D.tick with files := D.files.set i (syncF f) } ρ fb w' := by
  obtain ⟨B, hB, _⟩ := h.files.2 i f hf
  have HT := Lib.hid (stepAt_miss A D ρ fb w h h0 h1 s hl hs i B hg hB hm)
  have HFI := Lib.hid hf
  have HB := Lib.hid hB
  clear h h0 h1 hl hs hg hB hm hf
  go_enter Tryz.func64, Tryz.ntmps64
  go_wp2_with fail
  refine (HT.out).mono ?_
  rintro e w1 ⟨rfl, hD, hf⟩
  obtain ⟨B', hB', hfa⟩ := hD.files.2 i f HFI.out
  have eB : B = B' := by have := HB.out; rw [this] at hB'; exact Option.some.inj hB'
  subst eB
  obtain ⟨p, c, h1, h2, h3⟩ := hfa.form
  have c0 : w1.cell? ⟨B, 0, none⟩ = some (.slice p f.data.length c) := by simp [World.cell?, h1]
  have c1 : w1.cell? ⟨B, 1, none⟩ = some (.int .i64 f.synced) := by simp [World.cell?, h1]
  have f1 : w1.frozen? ⟨B, 1, none⟩ = false := by simp [World.frozen?, h1]
  have HS := Lib.hid (hD.file_synced (f := f) HFI.out HB.out)
  have HF := Lib.hid hf
  clear hD hf hfa h1 h2 h3 hB'
  go_wp2
  go_ret
  exact ⟨rfl, ρ, HS.out.1, HF.out.trans HS.out.2⟩
end Go.Proofs.YtioidkbpjkcjeaaGreatDoor
namespace Go.Proofs.YtioidkbpjkcjeaaGreatDoor
open Go.RowKit Dk

/-! ### Rename -/
/-! ### Remove -/
end Go.Proofs.YtioidkbpjkcjeaaGreatDoor
namespace Go.Proofs.YtioidkbpjkcjeaaGreatDoor
open Go.RowKit Dk

/-- The disk holds D now; of others nothing has turned. -/
def Kept (w : World) (A : Nat) (D : DSt) (ρ : Nat → Nat × Nat) (w' : World) : Prop := ∃ ρ' fb', DiskAt w' A D ρ' fb' ∧ Fr own ρ ρ' w w'
theorem Led.kept {w w' : World} {A : Nat} {D : DSt} {ρ : Nat → Nat × Nat} {fb : List Nat} (h : Led w A D ρ fb w') : Kept w A D ρ w' := let ⟨ρ', h1, h2⟩ := h; ⟨ρ', fb, h1, h2⟩

/-! ### a file more -/
theorem ptrV_more {fb : List Nat} {o : Option Nat} (x : Nat) (h : ∀ i, o = some i → i < fb.length) : ptrV (fb ++ [x]) o = ptrV fb o := by
  cases o with
  | none => rfl
  | some i => simp [ptrV, List.getElem?_append_left (h i rfl)]
theorem linkCells_more {fb : List Nat} (x : Nat) (l : List (Nm × Option Nat)) (h : ∀ y ∈ l, ∀ i, y.2 = some i → i < fb.length) : l.flatMap (linkCells (fb ++ [x])) = l.flatMap (linkCells fb) := by
  induction l with
  | nil => rfl
  | cons y r ih =>
    rw [List.flatMap_cons, List.flatMap_cons, ih (fun z hz => h z (by simp [hz]))]
    simp only [linkCells, ptrV_more x (h y (by simp))]
theorem DiskAt.begin {w : World} {A : Nat} {D : DSt} {ρ : Nat → Nat × Nat} {fb : List Nat} (h : DiskAt w A D ρ fb) (o : Obj) :
    DiskAt ((w.alloc (.cells #[.slice none 0 0, .int .i64 0] 82)).alloc o) A (DSt.mk D.names D.opn (D.files ++ [FileC.mk [] 0]) D.steps D.plan) (setR ρ (some w.heap.size) (5, D.files.length)) (fb ++ [w.heap.size]) ∧
      Fr own ρ (setR ρ (some w.heap.size) (5, D.files.length)) w ((w.alloc (.cells #[.slice none 0 0, .int .i64 0] 82)).alloc o) := by
  have hlt := h.lt
  obtain ⟨ok, out, role, ⟨m, op, pl, hA, hN, ⟨vs, hO1, hO2, hO3⟩, hP⟩, hF⟩ := h
  have hb : ∀ b, b < w.heap.size → ((w.alloc (.cells #[.slice none 0 0, .int .i64 0] 82)).alloc o).heap[b]? = w.heap[b]? := fun b hb => (heap_alloc_lt (by simp; omega)).trans (heap_alloc_lt hb)
  have hr : ∀ b, b ≠ w.heap.size → setR ρ (some w.heap.size) (5, D.files.length) b = ρ b := fun b hb => by simp [setR, Ne.symm hb]
  have F : Fr (fun r => r = (0, 0)) ρ (setR ρ (some w.heap.size) (5, D.files.length)) w ((w.alloc (.cells #[.slice none 0 0, .int .i64 0] 82)).alloc o) := by
    refine ⟨rfl, rfl, rfl, by simp; omega, fun b hlt _ => hb b hlt, fun b hn => hr b (fun e => hn (by rw [e]; exact out _ (Nat.le_refl _))), fun b hlt e => by rw [hr b (by omega)]; exact e, fun b hlt => by simp at hlt; rw [hr b (by omega)]; exact out b (by omega)⟩
  refine ⟨⟨⟨ok.sorted, fun p hp => ⟨(ok.named p hp).1, by have := (ok.named p hp).2; simp; omega⟩, fun l hl x hx => ⟨(ok.opened l hl x hx).1, fun i hi => by have := (ok.opened l hl x hx).2 i hi; simp; omega⟩, fun f hf => ?_⟩, F.out, by rw [hr A (by omega)]; exact role, ⟨m, op, pl, (hb A hlt).trans hA, ?_, ⟨vs, ?_, ?_, ?_⟩, hP.fr F (by simp)⟩, ?_, ?_⟩, ⟨rfl, rfl, rfl, F.size, fun b hlt _ => hb b hlt, F.keep, F.stay, F.out⟩⟩
  · simp only [List.mem_append, List.mem_singleton] at hf
    rcases hf with hf | rfl
    · exact ok.synced f hf
    · simp
  · rcases hN with hN | ⟨b, h1, h2, h3⟩
    · exact .inl hN
    · refine .inr ⟨b, h1, F.mark h2 (by simp), (h3.kept (hb b h3.lt)).congr (fun y u => ?_)⟩
      constructor
      · rintro ⟨n, i, B, h4, h5, rfl, rfl⟩
        exact ⟨n, i, B, h4, by rw [List.getElem?_append_left (List.getElem?_eq_some_iff.1 h5).1]; exact h5, rfl, rfl⟩
      · rintro ⟨n, i, B, h4, h5, rfl, rfl⟩
        have : i < fb.length := by rw [hF.1]; exact (ok.named _ h4).2
        exact ⟨n, i, B, h4, by rw [List.getElem?_append_left this] at h5; exact h5, rfl, rfl⟩
  · exact ownsRow_same hO1 (fun g hg => hb g (ownsRow_lt hO1 g hg))
  · exact fun g hg => F.mark (hO2 g hg) (by simp)
  · intro i l hl
    obtain ⟨v, hv, hc1, hc2⟩ := hO3 i l hl
    refine ⟨v, hv, ?_, fun g hg => F.mark (hc2 g hg) (by simp)⟩
    rw [linkCells_more _ _ (fun y hy i hi => by rw [hF.1]; exact (ok.opened l (List.mem_of_getElem? hl) y hy).2 i hi)]
    exact ownsRow_same hc1 (fun g hg => hb g (ownsRow_lt hc1 g hg))
  · simp [hF.1]
  · intro i f hi
    show ∃ B, (fb ++ [w.heap.size])[i]? = some B ∧ _
    have hi' : (D.files ++ [FileC.mk [] 0])[i]? = some f := hi
    rw [List.getElem?_append] at hi'
    split at hi'
    · rename_i hlt'
      obtain ⟨B, h1, h2⟩ := hF.2 i f hi'
      exact ⟨B, by rw [List.getElem?_append_left (by rw [hF.1]; exact hlt')]; exact h1, h2.fr F (by simp) (by simp)⟩
    · rename_i hge
      have hi2 : i = D.files.length := by
        obtain ⟨h1, _⟩ := List.getElem?_eq_some_iff.1 hi'
        simp at h1; omega
      subst hi2
      simp only [Nat.sub_self, List.getElem?_cons_zero, Option.some.injEq] at hi'
      subst hi'
      refine ⟨w.heap.size, by rw [List.getElem?_append_right (by rw [hF.1]; omega)]; simp [hF.1], by simp [setR], .slice none 0 0, (heap_alloc_lt (by simp)).trans (heap_alloc_new _ _), World.ownsRow_nil _ _ _ _, fun g hg => by simp [Value.ownBlock] at hg⟩

/-! ### bytes more -/
theorem byteInfo : (Tryz.prog.info? 5).map (fun i => (i.zero, i.size, i.bytes)) = some (some (.int .u8 0), 1, 1) := by kernel_rfl
theorem DiskAt.appended {w : World} {A : Nat} {D : DSt} {ρ : Nat → Nat × Nat} {fb : List Nat} (h : DiskAt w A D ρ fb) {i B : Nat} {f : FileC} (hf : D.files[i]? = some f) (hB : fb[i]? = some B) (s : ByteArray) (hs : f.data.length + s.size ≤ 200000000000000) :
    ∃ p0 c0 p c W', w.cell? ⟨B, 0, none⟩ = some (.slice p0 f.data.length c0) ∧ (∀ ty, (Builtin.append_ #[80, 9] ty #[.slice p0 f.data.length c0, .string s]).run Tryz.prog w = .ok (.slice p (f.data.length + s.size) c) W') ∧
      W'.cell? ⟨B, 0, none⟩ = some (.slice p0 f.data.length c0) ∧ W'.frozen? ⟨B, 0, none⟩ = false ∧
      Led w A { D with files := D.files.set i { f with data := f.data ++ s.data.toList } } ρ fb (W'.setCell ⟨B, 0, none⟩ (.slice p (f.data.length + s.size) c)) := by
  obtain ⟨B', hB', hfa⟩ := h.files.2 i f hf
  rw [hB] at hB'; cases hB'
  obtain ⟨p0, c0, h1, h2, h3⟩ := hfa.form
  have hrole := hfa.1
  have hm := h.ok.synced f (List.mem_of_getElem? hf)
  have hBlt : B < w.heap.size := (Array.getElem?_eq_some_iff.1 h1).1
  obtain ⟨i0, hi, hz0, hz1, hz2⟩ := info_parts byteInfo
  obtain ⟨p, c, W', hrun, hrow, hgrow, hat⟩ := run_append_string (P := Tryz.prog) w 80 9 0 5 i0 Tryz.underlying80 Tryz.underlying9 hi hz0 hz1 hz2 _ _ _ h2 s hs
  have hBn : (Value.slice p0 f.data.length c0).ownBlock ≠ some B := fun e => by have := h3 B e; rw [hrole] at this; cases this
  have hW : ∀ b, b < w.heap.size → (Value.slice p0 f.data.length c0).ownBlock ≠ some b → W'.heap[b]? = w.heap[b]? := fun b hb hn => hgrow.block b hb (fun e => hn e.symm)
  have hB1 : W'.heap[B]? = some (.cells #[.slice p0 f.data.length c0, .int .i64 f.synced] 82 (0, 0)) := (hW B hBlt hBn).trans h1
  refine ⟨p0, c0, p, c, W', by simp [World.cell?, h1], fun ty => hrun, by simp [World.cell?, hB1], by simp [World.frozen?, hB1], ?_⟩
  obtain ⟨Z, hZ⟩ : ∃ Z, Z = W'.setCell ⟨B, 0, none⟩ (.slice p (f.data.length + s.size) c) := ⟨_, rfl⟩
  rw [← hZ]
  have hsZ : Z.heap.size = W'.heap.size := by rw [hZ]; simp [World.setCell]
  have hZW : ∀ b, b ≠ B → Z.heap[b]? = W'.heap[b]? := fun b hb => by rw [hZ, heap_setCell_ne hb]
  have hZB : Z.heap[B]? = some (.cells #[.slice p (f.data.length + s.size) c, .int .i64 f.synced] 82 (0, 0)) := by
    rw [hZ]; exact heap_setCell_same _ _ _ _ _ _ hB1
  have hnb : ∀ g, (Value.slice p (f.data.length + s.size) c).ownBlock = some g → g ≠ B ∧ g < W'.heap.size := fun g hg => by
    refine ⟨fun e => ?_, ownsRow_lt hrow g hg⟩
    rcases hat g hg with h | h
    · rw [e] at h; exact hBn h
    · omega
  have hgs := hgrow.size
  have F : Fr (fun r => r = (5, i) ∨ r = (6, i)) ρ (setR ρ (Value.slice p (f.data.length + s.size) c).ownBlock (6, i)) w Z := by
    refine ⟨by rw [hZ]; exact hgrow.os, by rw [hZ]; exact hgrow.tape, by rw [hZ]; exact hgrow.output, by omega, fun b hb hn => ?_, fun b hn => ?_, fun b hb e => ?_, fun b hb => ?_⟩
    · exact (hZW b (fun e => hn (by rw [e]; exact .inl hrole))).trans (hW b hb (fun e => hn (.inr (h3 b e))))
    · unfold setR
      split
      · rename_i e
        rcases hat b e with h4 | h4
        · exact (h3 b h4).symm
        · exact absurd (h.out b h4) hn
      · rfl
    · unfold setR
      split
      · rename_i e'
        rcases hat b e' with h4 | h4
        · have := h3 b h4; rw [e] at this; cases this
        · omega
      · exact e
    · unfold setR
      split
      · rename_i e'
        have := (hnb b e').2; omega
      · exact h.out b (by omega)
  have hl : (f.data ++ s.data.toList).length = f.data.length + s.size := by simp
  refine ⟨_, h.file_turn hB F (f' := { f with data := f.data ++ s.data.toList }) ⟨F.mark hrole (by simp), .slice p (f.data.length + s.size) c, hZB, ?_, fun g hg => ?_⟩ ⟨by show f.synced ≤ (f.data ++ s.data.toList).length; omega, by show (f.data ++ s.data.toList).length ≤ maxLen; unfold maxLen; omega⟩⟩
  · show Z.ownsRow 0 5 1 _ (f.data ++ s.data.toList).length (u8s (f.data ++ s.data.toList))
    rw [hl]
    have : u8s (f.data ++ s.data.toList) = u8s f.data ++ Lib.strCells s := by simp [u8s, Lib.strCells]
    rw [this]
    exact ownsRow_same hrow (fun g hg => hZW g (hnb g hg).1)
  · simp [setR, hg]
end Go.Proofs.YtioidkbpjkcjeaaGreatDoor
namespace Go.Proofs.YtioidkbpjkcjeaaGreatDoor
set_option linter.unusedVariables false
open Go.RowKit Dk

theorem ptr_is_nil (p : Option Addr) (W : World) : (binOp .eql 77 (.pointer p) (.pointer none)).run Tryz.prog W = .ok (.bool p.isNone) W := by
  cases p <;> simp [go_sem]
set_option maxHeartbeats 400000 in
theorem write_nil (s t : ByteArray) (w : World) :
    Calls Tryz.prog 61 #[.pointer none, .string s, .string t] w fun e w' => e = .returned (.tuple #[.int .i64 0, .int .i64 1]) ∧ w = w' := by
  go_enter Tryz.func61, Tryz.ntmps61
  go_wp2
  go_ret2
  exact ⟨rfl, rfl⟩
set_option maxHeartbeats 400000 in
theorem write_empty (A : Nat) (s t : ByteArray) (hs : s.toList = []) (w : World) :
    Calls Tryz.prog 61 #[.pointer (some ⟨A, 0, none⟩), .string s, .string t] w fun e w' => e = .returned (.tuple #[.int .i64 0, .int .i64 1]) ∧ w = w' := by
  go_enter Tryz.func61, Tryz.ntmps61
  go_wp2
  go_ret2
  exact ⟨rfl, rfl⟩
set_option maxHeartbeats 400000 in
theorem write_hit (A : Nat) (D : DSt) (ρ : Nat → Nat × Nat) (fb : List Nat) (w : World) (h : DiskAt w A D ρ fb) (h0 : 0 ≤ D.steps) (h1 : D.steps ≤ 4611686018427387904) (s t : ByteArray) (hs : s.toList.isEmpty = false) (fa fk fn : Int) (hk : (fk != 2) = true) (hm : D.hit = some (fa, fk, fn)) :
    Calls Tryz.prog 61 #[.pointer (some ⟨A, 0, none⟩), .string s, .string t] w fun e w' => e = .returned (.tuple #[.int .i64 0, .int .i64 (hitErr (fa, fk, fn))]) ∧ Kept w A D.tick ρ w' := by
  have HT := Lib.hid (step_hit A D ρ fb w h h0 h1 fa fk fn hm)
  have he : (hitErr (fa, fk, fn) != 0) = true := by unfold hitErr; split <;> decide
  clear h h0 h1 hm
  go_enter Tryz.func61, Tryz.ntmps61
  go_wp2_with (go_at_call 82; refine (HT.out).mono ?_; rintro e w1 ⟨rfl, hD, hf⟩)
  go_ret2
  exact ⟨rfl, ρ, fb, hD.alloc _, hf.alloc hD.out _⟩
set_option maxHeartbeats 2000000 in
set_option maxRecDepth 100000 in
theorem write_old (A : Nat) (D : DSt) (ρ : Nat → Nat × Nat) (fb : List Nat) (w : World) (h : DiskAt w A D ρ fb) (h0 : 0 ≤ D.steps) (h1 : D.steps ≤ 4611686018427387904) (s t : ByteArray) (hl : s.size ≤ maxLen) (ht : t.size ≤ maxLen) (hs : s.toList.isEmpty = false) (hm : D.hit = none)
    (i : Nat) (f : FileC) (hg : nmGet D.names s = some i) (hf : D.files[i]? = some f) (hb : f.data.length + t.size ≤ 200000000000000) :
    Calls Tryz.prog 61 #[.pointer (some ⟨A, 0, none⟩), .string s, .string t] w fun e w' => e = .returned (.tuple #[.int .i64 t.size, .int .i64 0]) ∧ Kept w A { D.tick with files := D.files.set i { f with data := f.data ++ t.data.toList } } ρ w' := by
  have HT := Lib.hid (step_miss A D ρ fb w h h0 h1 hm)
  obtain ⟨B, hB, _⟩ := h.files.2 i f hf
  have HB := Lib.hid hB
  have HFI := Lib.hid hf
  have HG := Lib.hid hg
  clear h h0 h1 hm hB hf hg
  unfold maxLen at ht
  have hpn := ptr_is_nil
  go_enter Tryz.func61, Tryz.ntmps61
  go_wp2_with fail
  refine (HT.out).mono ?_
  rintro e w1 ⟨rfl, hD, hf⟩
  obtain ⟨W, hW⟩ : ∃ W, W = w1.alloc (.cells #[.int .i64 0, .int .i64 0, .int .i64 0] 40) := ⟨_, rfl⟩
  have hDW : DiskAt W A D.tick ρ fb := by rw [hW]; exact hD.alloc _
  have hfW : Fr own ρ ρ w W := by rw [hW]; exact hf.alloc hD.out _
  obtain ⟨m, op, pl, hA, hN, _⟩ := hDW.top
  have c0 : W.cell? ⟨A, 0, none⟩ = some (.map m) := by simp [World.cell?, hA, topCells]
  have hlook := names_look hN hDW.ok.sorted hl (fun p hp => by rw [hDW.files.1]; exact (hDW.ok.named p hp).2) W (fun _ _ _ => rfl)
  have hp : ptrV fb (nmGet D.tick.names s) = .pointer (some ⟨B, 0, none⟩) := by
    rw [show nmGet D.tick.names s = some i from HG.out]; simp [ptrV, HB.out]
  rw [hp] at hlook
  obtain ⟨p0, cc, p, c, W', b0, happ, b1, b2, hled⟩ := hDW.appended HFI.out HB.out t hb
  rw [hW] at c0 hlook b0
  have HLED := Lib.hid hled
  have HFW := Lib.hid hfW
  have HAPP := Lib.hid happ
  have HW := Lib.hid hW
  clear hD hf hDW hA hN hp happ hled hfW hW
  go_wp2_with (at_builtin; refine wpList_append_run (by rfl) _ _ _ _ (by rfl) _ _ (.slice p (f.data.length + t.size) c) W' (by rfl) (by rfl) (HW.out ▸ HAPP.out) ?_)
  go_ret2
  exact ⟨rfl, let ⟨ρ', h1, h2⟩ := HLED.out; ⟨ρ', fb, h1, HFW.out.trans h2⟩⟩

theorem befores_one (L : List (Nm × Nat)) (x : Nm × Option Nat) : befores L [x] = [(x.1, nmGet L x.1)] := rfl
/-- The disk with a file more, under the name. -/
def more (D : DSt) (n : Nm) : DSt := (DSt.mk D.names D.opn (D.files ++ [FileC.mk [] 0]) D.steps D.plan).relink [(n, some D.files.length)]
theorem more_get {D : DSt} (n : Nm) : (n, D.files.length) ∈ (more D n).names := by
  show (n, D.files.length) ∈ nmPut D.names n D.files.length
  exact mem_nmPut.2 (.inl rfl)
set_option maxHeartbeats 4000000 in
set_option maxRecDepth 100000 in
theorem write_new (A : Nat) (D : DSt) (ρ : Nat → Nat × Nat) (fb : List Nat) (w : World) (h : DiskAt w A D ρ fb) (h0 : 0 ≤ D.steps) (h1 : D.steps ≤ 4611686018427387904) (hnm : D.names.length ≤ 1099511627776) (hop : D.opn.length ≤ 1099511627776)
    (s t : ByteArray) (hl : s.size ≤ maxLen) (ht : t.size ≤ maxLen) (hs : s.toList.isEmpty = false) (hm : D.hit = none) (hg : nmGet D.names s = none) (hb : t.size ≤ 200000000000000) :
    Calls Tryz.prog 61 #[.pointer (some ⟨A, 0, none⟩), .string s, .string t] w fun e w' => e = .returned (.tuple #[.int .i64 t.size, .int .i64 0]) ∧ Kept w A { more D.tick s with files := (more D.tick s).files.set D.files.length (FileC.mk t.data.toList 0) } ρ w' := by
  have HT := Lib.hid (step_miss A D ρ fb w h h0 h1 hm)
  have HG := Lib.hid hg
  clear h h0 h1 hm hg
  unfold maxLen at ht
  have hpn := ptr_is_nil
  go_enter Tryz.func61, Tryz.ntmps61
  go_wp2_with fail
  refine (HT.out).mono ?_
  rintro e w1 ⟨rfl, hD, hf⟩
  obtain ⟨W, hW⟩ : ∃ W, W = w1.alloc (.cells #[.int .i64 0, .int .i64 0, .int .i64 0] 40) := ⟨_, rfl⟩
  have hDW : DiskAt W A D.tick ρ fb := by rw [hW]; exact hD.alloc _
  have hfW : Fr own ρ ρ w W := by rw [hW]; exact hf.alloc hD.out _
  have hsW : W.heap.size = w1.heap.size + 1 := by rw [hW]; simp
  obtain ⟨m, op, pl, hA, hN, _⟩ := hDW.top
  have c0 : W.cell? ⟨A, 0, none⟩ = some (.map m) := by simp [World.cell?, hA, topCells]
  have hlook := names_look hN hDW.ok.sorted hl (fun p hp => by rw [hDW.files.1]; exact (hDW.ok.named p hp).2) W (fun _ _ _ => rfl)
  have hp : ptrV fb (nmGet D.tick.names s) = .pointer none := by
    rw [show nmGet D.tick.names s = none from HG.out]; rfl
  rw [hp] at hlook
  have hbeg := hDW.begin (.cells #[.string s, .pointer (some ⟨W.heap.size, 0, none⟩)] 144)
  have hR := relink_any A _ _ _ _ hbeg.1 [(s, some D.files.length)] (by
    intro x hx
    simp only [List.mem_singleton] at hx
    subst hx
    exact ⟨hl, fun i h => by cases h; show D.files.length < (D.files ++ _).length; simp⟩) (by simp) hnm hop (W.heap.size + 1)
  have hc : ([(s, some D.files.length)] : List (Nm × Option Nat)).flatMap (linkCells (fb ++ [W.heap.size])) = [.string s, .pointer (some ⟨W.heap.size, 0, none⟩)] := by
    have hfl : fb.length = D.files.length := hDW.files.1
    simp [linkCells, ptrV, ← hfl]
  rw [hc] at hR
  have hR' := hR (by have := heap_alloc_new (W.alloc (.cells #[.slice none 0 0, .int .i64 0] 82)) (.cells #[.string s, .pointer (some ⟨W.heap.size, 0, none⟩)] 144); simpa using this) (by simp [setR]; exact hDW.out _ (by omega))
  rw [hW] at c0 hlook
  have HR := Lib.hid hR'
  have HF := Lib.hid (hfW.trans hbeg.2)
  have HW := Lib.hid hW
  have HSW := Lib.hid hsW
  have hfl : fb.length = D.files.length := hDW.files.1
  have HFL := Lib.hid hfl
  clear hR hR' hc hD hf hDW hfW hA hN hp hbeg hW hsW hfl
  go_wp2_with fail
  rw [← HW.out, show w1.heap.size + 1 = W.heap.size from HSW.out.symm]
  refine (HR.out).mono ?_
  rintro e w2 ⟨rfl, ρ2, hD2', hf2⟩
  have hD2 : DiskAt w2 A (more D.tick s) ρ2 (fb ++ [W.heap.size]) := hD2'
  clear hD2'
  obtain ⟨m2, op2, pl2, hA2, hN2, _⟩ := hD2.top
  have d0 : w2.cell? ⟨A, 0, none⟩ = some (.map m2) := by simp [World.cell?, hA2, topCells]
  have hE : nmGet (more D.tick s).names s = some D.files.length := (nmGet_some hD2.ok.sorted).2 (more_get s)
  have hEf : (more D.tick s).files[D.files.length]? = some (FileC.mk [] 0) := by
    show (D.files ++ [FileC.mk [] 0])[D.files.length]? = _; simp
  have hEb : (fb ++ [W.heap.size])[D.files.length]? = some W.heap.size := by rw [← HFL.out]; simp
  have hlook2 := names_look hN2 hD2.ok.sorted hl (fun p hp => by rw [hD2.files.1]; exact (hD2.ok.named p hp).2) w2 (fun _ _ _ => rfl)
  have hp2 : ptrV (fb ++ [W.heap.size]) (nmGet (more D.tick s).names s) = .pointer (some ⟨W.heap.size, 0, none⟩) := by rw [hE]; simp [ptrV, hEb]
  rw [hp2] at hlook2
  obtain ⟨p0, cc, p, c, W', b0, happ, b1, b2, hled⟩ := hD2.appended hEf hEb t (by simpa using hb)
  simp only [List.length_nil, Nat.zero_add, List.nil_append] at b0 happ b1 hled
  have HLED := Lib.hid hled
  have HF2 := Lib.hid (HF.out.trans hf2)
  clear hD2 hf2 hA2 hN2 hE hEf hEb hp2 hled
  go_wp2_with (at_builtin; refine wpList_append_run (by rfl) _ _ _ _ (by rfl) _ _ (.slice p t.size c) W' (by rfl) (by rfl) happ ?_)
  go_ret2
  exact ⟨rfl, let ⟨ρ', h1, h2⟩ := HLED.out; ⟨ρ', _, h1, HF2.out.trans h2⟩⟩
end Go.Proofs.YtioidkbpjkcjeaaGreatDoor
namespace Go.Proofs.YtioidkbpjkcjeaaGreatDoor
set_option linter.unusedVariables false
open Go.RowKit Dk

theorem cut_size (t : ByteArray) (k : Nat) (hk : k ≤ t.size) : (t.extract 0 k).size = k := by simp; omega
theorem cut_data (t : ByteArray) (k : Nat) : (t.extract 0 k).data.toList = t.data.toList.take k := by simp

set_option maxHeartbeats 4000000 in
set_option maxRecDepth 100000 in
theorem short_new (A : Nat) (D : DSt) (ρ : Nat → Nat × Nat) (fb : List Nat) (w : World) (h : DiskAt w A D ρ fb) (h0 : 0 ≤ D.steps) (h1 : D.steps ≤ 4611686018427387904) (hnm : D.names.length ≤ 1099511627776) (hop : D.opn.length ≤ 1099511627776)
    (s t : ByteArray) (hl : s.size ≤ maxLen) (ht : t.size ≤ maxLen) (hs : s.toList.isEmpty = false) (fa : Int) (k : Nat) (hk : k ≤ t.size) (hm : D.hit = some (fa, 2, (k : Int))) (hg : nmGet D.names s = none) (hb : t.size ≤ 200000000000000) :
    Calls Tryz.prog 61 #[.pointer (some ⟨A, 0, none⟩), .string s, .string t] w fun e w' => e = .returned (.tuple #[.int .i64 k, .int .i64 22]) ∧ Kept w A { more D.tick s with files := (more D.tick s).files.set D.files.length (FileC.mk (t.data.toList.take k) 0) } ρ w' := by
  have HT := Lib.hid (step_hit A D ρ fb w h h0 h1 fa 2 (k : Int) hm)
  have he : hitErr (fa, 2, (k : Int)) = 22 := by simp [hitErr]
  rw [he] at HT
  have HG := Lib.hid hg
  clear h h0 h1 hm hg he
  unfold maxLen at ht
  have hk0 : (0 : Int) ≤ k := by omega
  have hk1 : (k : Int) ≤ t.size := by omega
  have hpn := ptr_is_nil
  go_enter Tryz.func61, Tryz.ntmps61
  go_wp2_with fail
  refine (HT.out).mono ?_
  rintro e w1 ⟨rfl, hD, hf⟩
  obtain ⟨W, hW⟩ : ∃ W, W = w1.alloc (.cells #[.int .i64 fa, .int .i64 2, .int .i64 k] 40) := ⟨_, rfl⟩
  have hDW : DiskAt W A D.tick ρ fb := by rw [hW]; exact hD.alloc _
  have hfW : Fr own ρ ρ w W := by rw [hW]; exact hf.alloc hD.out _
  have hsW : W.heap.size = w1.heap.size + 1 := by rw [hW]; simp
  obtain ⟨m, op, pl, hA, hN, _⟩ := hDW.top
  have c0 : W.cell? ⟨A, 0, none⟩ = some (.map m) := by simp [World.cell?, hA, topCells]
  have hlook := names_look hN hDW.ok.sorted hl (fun p hp => by rw [hDW.files.1]; exact (hDW.ok.named p hp).2) W (fun _ _ _ => rfl)
  have hp : ptrV fb (nmGet D.tick.names s) = .pointer none := by
    rw [show nmGet D.tick.names s = none from HG.out]; rfl
  rw [hp] at hlook
  have hbeg := hDW.begin (.cells #[.string s, .pointer (some ⟨W.heap.size, 0, none⟩)] 144)
  have hR := relink_any A _ _ _ _ hbeg.1 [(s, some D.files.length)] (by
    intro x hx
    simp only [List.mem_singleton] at hx
    subst hx
    exact ⟨hl, fun i h => by cases h; show D.files.length < (D.files ++ _).length; simp⟩) (by simp) hnm hop (W.heap.size + 1)
  have hc : ([(s, some D.files.length)] : List (Nm × Option Nat)).flatMap (linkCells (fb ++ [W.heap.size])) = [.string s, .pointer (some ⟨W.heap.size, 0, none⟩)] := by
    have hfl : fb.length = D.files.length := hDW.files.1
    simp [linkCells, ptrV, ← hfl]
  rw [hc] at hR
  have hR' := hR (by have := heap_alloc_new (W.alloc (.cells #[.slice none 0 0, .int .i64 0] 82)) (.cells #[.string s, .pointer (some ⟨W.heap.size, 0, none⟩)] 144); simpa using this) (by simp [setR]; exact hDW.out _ (by omega))
  rw [hW] at c0 hlook
  have HR := Lib.hid hR'
  have HF := Lib.hid (hfW.trans hbeg.2)
  have HW := Lib.hid hW
  have HSW := Lib.hid hsW
  have hfl : fb.length = D.files.length := hDW.files.1
  have HFL := Lib.hid hfl
  clear hR hR' hc hD hf hDW hfW hA hN hp hbeg hW hsW hfl
  go_wp2_with fail
  rw [← HW.out, show w1.heap.size + 1 = W.heap.size from HSW.out.symm]
  refine (HR.out).mono ?_
  rintro e w2 ⟨rfl, ρ2, hD2', hf2⟩
  have hD2 : DiskAt w2 A (more D.tick s) ρ2 (fb ++ [W.heap.size]) := hD2'
  clear hD2'
  obtain ⟨m2, op2, pl2, hA2, hN2, _⟩ := hD2.top
  have d0 : w2.cell? ⟨A, 0, none⟩ = some (.map m2) := by simp [World.cell?, hA2, topCells]
  have hE : nmGet (more D.tick s).names s = some D.files.length := (nmGet_some hD2.ok.sorted).2 (more_get s)
  have hEf : (more D.tick s).files[D.files.length]? = some (FileC.mk [] 0) := by
    show (D.files ++ [FileC.mk [] 0])[D.files.length]? = _; simp
  have hEb : (fb ++ [W.heap.size])[D.files.length]? = some W.heap.size := by rw [← HFL.out]; simp
  have hlook2 := names_look hN2 hD2.ok.sorted hl (fun p hp => by rw [hD2.files.1]; exact (hD2.ok.named p hp).2) w2 (fun _ _ _ => rfl)
  have hp2 : ptrV (fb ++ [W.heap.size]) (nmGet (more D.tick s).names s) = .pointer (some ⟨W.heap.size, 0, none⟩) := by rw [hE]; simp [ptrV, hEb]
  rw [hp2] at hlook2
  have HTS := Lib.hid (cut_size t k hk)
  have HTD := Lib.hid (cut_data t k)
  generalize t.extract 0 k = t' at *
  have hts' : t'.size ≤ 200000000000000 := by have := HTS.out; omega
  obtain ⟨p0, cc, p, c, W', b0, happ, b1, b2, hled⟩ := hD2.appended hEf hEb t' (by show 0 + _ ≤ _; omega)
  simp only [List.length_nil, Nat.zero_add, List.nil_append] at b0 happ b1 hled
  rw [HTS.out] at happ hled
  rw [HTD.out] at hled
  have HLED := Lib.hid hled
  have HF2 := Lib.hid (HF.out.trans hf2)
  clear hD2 hf2 hA2 hN2 hE hEf hEb hp2 hled
  go_wp2_with (at_builtin; refine wpList_append_run (by rfl) _ _ _ _ (by rfl) _ _ (.slice p k c) W' (by rfl) (by rfl) happ ?_)
  go_ret2
  exact ⟨by rw [HTS.out]; rfl, let ⟨ρ', h1, h2⟩ := HLED.out; ⟨ρ', _, h1, HF2.out.trans h2⟩⟩

set_option maxHeartbeats 4000000 in
set_option maxRecDepth 100000 in
theorem short_new_all (A : Nat) (D : DSt) (ρ : Nat → Nat × Nat) (fb : List Nat) (w : World) (h : DiskAt w A D ρ fb) (h0 : 0 ≤ D.steps) (h1 : D.steps ≤ 4611686018427387904) (hnm : D.names.length ≤ 1099511627776) (hop : D.opn.length ≤ 1099511627776)
    (s t : ByteArray) (hl : s.size ≤ maxLen) (ht : t.size ≤ maxLen) (hs : s.toList.isEmpty = false) (fa fn : Int) (hk : (t.size : Int) < fn) (hm : D.hit = some (fa, 2, fn)) (hg : nmGet D.names s = none) (hb : t.size ≤ 200000000000000) :
    Calls Tryz.prog 61 #[.pointer (some ⟨A, 0, none⟩), .string s, .string t] w fun e w' => e = .returned (.tuple #[.int .i64 t.size, .int .i64 22]) ∧ Kept w A { more D.tick s with files := (more D.tick s).files.set D.files.length (FileC.mk t.data.toList 0) } ρ w' := by
  have HT := Lib.hid (step_hit A D ρ fb w h h0 h1 fa 2 fn hm)
  have he : hitErr (fa, 2, fn) = 22 := by simp [hitErr]
  rw [he] at HT
  have HG := Lib.hid hg
  clear h h0 h1 hm hg he
  unfold maxLen at ht
  have hpn := ptr_is_nil
  go_enter Tryz.func61, Tryz.ntmps61
  go_wp2_with fail
  refine (HT.out).mono ?_
  rintro e w1 ⟨rfl, hD, hf⟩
  obtain ⟨W, hW⟩ : ∃ W, W = w1.alloc (.cells #[.int .i64 fa, .int .i64 2, .int .i64 fn] 40) := ⟨_, rfl⟩
  have hDW : DiskAt W A D.tick ρ fb := by rw [hW]; exact hD.alloc _
  have hfW : Fr own ρ ρ w W := by rw [hW]; exact hf.alloc hD.out _
  have hsW : W.heap.size = w1.heap.size + 1 := by rw [hW]; simp
  obtain ⟨m, op, pl, hA, hN, _⟩ := hDW.top
  have c0 : W.cell? ⟨A, 0, none⟩ = some (.map m) := by simp [World.cell?, hA, topCells]
  have hlook := names_look hN hDW.ok.sorted hl (fun p hp => by rw [hDW.files.1]; exact (hDW.ok.named p hp).2) W (fun _ _ _ => rfl)
  have hp : ptrV fb (nmGet D.tick.names s) = .pointer none := by
    rw [show nmGet D.tick.names s = none from HG.out]; rfl
  rw [hp] at hlook
  have hbeg := hDW.begin (.cells #[.string s, .pointer (some ⟨W.heap.size, 0, none⟩)] 144)
  have hR := relink_any A _ _ _ _ hbeg.1 [(s, some D.files.length)] (by
    intro x hx
    simp only [List.mem_singleton] at hx
    subst hx
    exact ⟨hl, fun i h => by cases h; show D.files.length < (D.files ++ _).length; simp⟩) (by simp) hnm hop (W.heap.size + 1)
  have hc : ([(s, some D.files.length)] : List (Nm × Option Nat)).flatMap (linkCells (fb ++ [W.heap.size])) = [.string s, .pointer (some ⟨W.heap.size, 0, none⟩)] := by
    have hfl : fb.length = D.files.length := hDW.files.1
    simp [linkCells, ptrV, ← hfl]
  rw [hc] at hR
  have hR' := hR (by have := heap_alloc_new (W.alloc (.cells #[.slice none 0 0, .int .i64 0] 82)) (.cells #[.string s, .pointer (some ⟨W.heap.size, 0, none⟩)] 144); simpa using this) (by simp [setR]; exact hDW.out _ (by omega))
  rw [hW] at c0 hlook
  have HR := Lib.hid hR'
  have HF := Lib.hid (hfW.trans hbeg.2)
  have HW := Lib.hid hW
  have HSW := Lib.hid hsW
  have hfl : fb.length = D.files.length := hDW.files.1
  have HFL := Lib.hid hfl
  clear hR hR' hc hD hf hDW hfW hA hN hp hbeg hW hsW hfl
  go_wp2_with fail
  rw [← HW.out, show w1.heap.size + 1 = W.heap.size from HSW.out.symm]
  refine (HR.out).mono ?_
  rintro e w2 ⟨rfl, ρ2, hD2', hf2⟩
  have hD2 : DiskAt w2 A (more D.tick s) ρ2 (fb ++ [W.heap.size]) := hD2'
  clear hD2'
  obtain ⟨m2, op2, pl2, hA2, hN2, _⟩ := hD2.top
  have d0 : w2.cell? ⟨A, 0, none⟩ = some (.map m2) := by simp [World.cell?, hA2, topCells]
  have hE : nmGet (more D.tick s).names s = some D.files.length := (nmGet_some hD2.ok.sorted).2 (more_get s)
  have hEf : (more D.tick s).files[D.files.length]? = some (FileC.mk [] 0) := by
    show (D.files ++ [FileC.mk [] 0])[D.files.length]? = _; simp
  have hEb : (fb ++ [W.heap.size])[D.files.length]? = some W.heap.size := by rw [← HFL.out]; simp
  have hlook2 := names_look hN2 hD2.ok.sorted hl (fun p hp => by rw [hD2.files.1]; exact (hD2.ok.named p hp).2) w2 (fun _ _ _ => rfl)
  have hp2 : ptrV (fb ++ [W.heap.size]) (nmGet (more D.tick s).names s) = .pointer (some ⟨W.heap.size, 0, none⟩) := by rw [hE]; simp [ptrV, hEb]
  rw [hp2] at hlook2
  obtain ⟨p0, cc, p, c, W', b0, happ, b1, b2, hled⟩ := hD2.appended hEf hEb t (by show 0 + _ ≤ _; omega)
  simp only [List.length_nil, Nat.zero_add, List.nil_append] at b0 happ b1 hled
  have HLED := Lib.hid hled
  have HF2 := Lib.hid (HF.out.trans hf2)
  clear hD2 hf2 hA2 hN2 hE hEf hEb hp2 hled
  go_wp2_with (at_builtin; refine wpList_append_run (by rfl) _ _ _ _ (by rfl) _ _ (.slice p t.size c) W' (by rfl) (by rfl) happ ?_)
  go_ret2
  exact ⟨rfl, let ⟨ρ', h1, h2⟩ := HLED.out; ⟨ρ', _, h1, HF2.out.trans h2⟩⟩

set_option maxHeartbeats 4000000 in
set_option maxRecDepth 100000 in
theorem short_old (A : Nat) (D : DSt) (ρ : Nat → Nat × Nat) (fb : List Nat) (w : World) (h : DiskAt w A D ρ fb) (h0 : 0 ≤ D.steps) (h1 : D.steps ≤ 4611686018427387904) 
    (s t : ByteArray) (hl : s.size ≤ maxLen) (ht : t.size ≤ maxLen) (hs : s.toList.isEmpty = false) (fa : Int) (k : Nat) (hk : k ≤ t.size) (hm : D.hit = some (fa, 2, (k : Int))) (i : Nat) (f : FileC) (hg : nmGet D.names s = some i) (hf : D.files[i]? = some f) (hb : f.data.length + t.size ≤ 200000000000000) :
    Calls Tryz.prog 61 #[.pointer (some ⟨A, 0, none⟩), .string s, .string t] w fun e w' => e = .returned (.tuple #[.int .i64 k, .int .i64 22]) ∧ Kept w A { D.tick with files := D.files.set i { f with data := f.data ++ (t.data.toList.take k) } } ρ w' := by
  have HT := Lib.hid (step_hit A D ρ fb w h h0 h1 fa 2 (k : Int) hm)
  have he : hitErr (fa, 2, (k : Int)) = 22 := by simp [hitErr]
  rw [he] at HT
  obtain ⟨B, hB, _⟩ := h.files.2 i f hf
  have HB := Lib.hid hB
  have HFI := Lib.hid hf
  have HG := Lib.hid hg
  clear h h0 h1 hm hg he hB hf
  unfold maxLen at ht
  have hk0 : (0 : Int) ≤ k := by omega
  have hk1 : (k : Int) ≤ t.size := by omega
  have hpn := ptr_is_nil
  go_enter Tryz.func61, Tryz.ntmps61
  go_wp2_with fail
  refine (HT.out).mono ?_
  rintro e w1 ⟨rfl, hD, hf⟩
  obtain ⟨W, hW⟩ : ∃ W, W = w1.alloc (.cells #[.int .i64 fa, .int .i64 2, .int .i64 k] 40) := ⟨_, rfl⟩
  have hDW : DiskAt W A D.tick ρ fb := by rw [hW]; exact hD.alloc _
  have hfW : Fr own ρ ρ w W := by rw [hW]; exact hf.alloc hD.out _
  have hsW : W.heap.size = w1.heap.size + 1 := by rw [hW]; simp
  obtain ⟨m, op, pl, hA, hN, _⟩ := hDW.top
  have c0 : W.cell? ⟨A, 0, none⟩ = some (.map m) := by simp [World.cell?, hA, topCells]
  have hlook := names_look hN hDW.ok.sorted hl (fun p hp => by rw [hDW.files.1]; exact (hDW.ok.named p hp).2) W (fun _ _ _ => rfl)
  have hp : ptrV fb (nmGet D.tick.names s) = .pointer (some ⟨B, 0, none⟩) := by
    rw [show nmGet D.tick.names s = some i from HG.out]; simp [ptrV, HB.out]
  rw [hp] at hlook
  have HTS := Lib.hid (cut_size t k hk)
  have HTD := Lib.hid (cut_data t k)
  obtain ⟨p0, cc, p, c, W', b0, happ, b1, b2, hled⟩ := hDW.appended HFI.out HB.out (t.extract 0 k) (by have := HTS.out; omega)
  rw [HTS.out] at happ hled
  rw [HTD.out] at hled
  rw [hW] at c0 hlook b0
  have HLED := Lib.hid hled
  have HFW := Lib.hid hfW
  have HAPP := Lib.hid happ
  have HW := Lib.hid hW
  clear hD hf hDW hA hN hp happ hled hfW hW hsW
  go_wp2_with (at_builtin; refine wpList_append_run (by rfl) _ _ _ _ (by rfl) _ _ (.slice p (f.data.length + k) c) W' (by rfl) (by rfl) (HW.out ▸ HAPP.out) ?_)
  go_ret2
  exact ⟨rfl, let ⟨ρ', h1, h2⟩ := HLED.out; ⟨ρ', fb, h1, HFW.out.trans h2⟩⟩

set_option maxHeartbeats 4000000 in
set_option maxRecDepth 100000 in
theorem short_old_all (A : Nat) (D : DSt) (ρ : Nat → Nat × Nat) (fb : List Nat) (w : World) (h : DiskAt w A D ρ fb) (h0 : 0 ≤ D.steps) (h1 : D.steps ≤ 4611686018427387904) 
    (s t : ByteArray) (hl : s.size ≤ maxLen) (ht : t.size ≤ maxLen) (hs : s.toList.isEmpty = false) (fa fn : Int) (hk : (t.size : Int) < fn) (hm : D.hit = some (fa, 2, fn)) (i : Nat) (f : FileC) (hg : nmGet D.names s = some i) (hf : D.files[i]? = some f) (hb : f.data.length + t.size ≤ 200000000000000) :
    Calls Tryz.prog 61 #[.pointer (some ⟨A, 0, none⟩), .string s, .string t] w fun e w' => e = .returned (.tuple #[.int .i64 t.size, .int .i64 22]) ∧ Kept w A { D.tick with files := D.files.set i { f with data := f.data ++ t.data.toList } } ρ w' := by
  have HT := Lib.hid (step_hit A D ρ fb w h h0 h1 fa 2 fn hm)
  have he : hitErr (fa, 2, fn) = 22 := by simp [hitErr]
  rw [he] at HT
  obtain ⟨B, hB, _⟩ := h.files.2 i f hf
  have HB := Lib.hid hB
  have HFI := Lib.hid hf
  have HG := Lib.hid hg
  clear h h0 h1 hm hg he hB hf
  unfold maxLen at ht
  have hpn := ptr_is_nil
  go_enter Tryz.func61, Tryz.ntmps61
  go_wp2_with fail
  refine (HT.out).mono ?_
  rintro e w1 ⟨rfl, hD, hf⟩
  obtain ⟨W, hW⟩ : ∃ W, W = w1.alloc (.cells #[.int .i64 fa, .int .i64 2, .int .i64 fn] 40) := ⟨_, rfl⟩
  have hDW : DiskAt W A D.tick ρ fb := by rw [hW]; exact hD.alloc _
  have hfW : Fr own ρ ρ w W := by rw [hW]; exact hf.alloc hD.out _
  have hsW : W.heap.size = w1.heap.size + 1 := by rw [hW]; simp
  obtain ⟨m, op, pl, hA, hN, _⟩ := hDW.top
  have c0 : W.cell? ⟨A, 0, none⟩ = some (.map m) := by simp [World.cell?, hA, topCells]
  have hlook := names_look hN hDW.ok.sorted hl (fun p hp => by rw [hDW.files.1]; exact (hDW.ok.named p hp).2) W (fun _ _ _ => rfl)
  have hp : ptrV fb (nmGet D.tick.names s) = .pointer (some ⟨B, 0, none⟩) := by
    rw [show nmGet D.tick.names s = some i from HG.out]; simp [ptrV, HB.out]
  rw [hp] at hlook
  obtain ⟨p0, cc, p, c, W', b0, happ, b1, b2, hled⟩ := hDW.appended HFI.out HB.out t hb
  rw [hW] at c0 hlook b0
  have HLED := Lib.hid hled
  have HFW := Lib.hid hfW
  have HAPP := Lib.hid happ
  have HW := Lib.hid hW
  clear hD hf hDW hA hN hp happ hled hfW hW hsW
  go_wp2_with (at_builtin; refine wpList_append_run (by rfl) _ _ _ _ (by rfl) _ _ (.slice p (f.data.length + t.size) c) W' (by rfl) (by rfl) (HW.out ▸ HAPP.out) ?_)
  go_ret2
  exact ⟨rfl, let ⟨ρ', h1, h2⟩ := HLED.out; ⟨ρ', fb, h1, HFW.out.trans h2⟩⟩
end Go.Proofs.YtioidkbpjkcjeaaGreatDoor
