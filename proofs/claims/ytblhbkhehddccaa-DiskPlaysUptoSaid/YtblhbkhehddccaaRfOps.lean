/- The document's own disk: asked, Remove, Rename, SyncNames. Conditions: those that each theorem names. -/
import Derived.Test.YtblhbkhehddccaaRfTurn
namespace Go.Proofs.Ytblhbkhehddccaa
set_option linter.unusedVariables false
open Go.RowKit Dk
/-- A call of the document's disk: what it holds then; blocks of others stay. -/
def RfOp (w : World) (B : Nat) (X : Nat → Prop) (M : RSt) (w' : World) : Prop := ∃ X', RfAt w' B X' M ∧ (∀ b, X' b → X b ∨ w.heap.size ≤ b) ∧ Rk X w w'
theorem RfOp.same {w : World} {B : Nat} {X : Nat → Prop} {M : RSt} (h : RfAt w B X M) : RfOp w B X M w := ⟨X, h, fun _ h => .inl h, Rk.refl _ _⟩
theorem RfOp.then {w w1 w2 : World} {B : Nat} {X Y : Nat → Prop} {M2 : RSt} (hy : ∀ b, Y b → X b ∨ w.heap.size ≤ b) (hk : Rk X w w1) (k : RfOp w1 B Y M2 w2) : RfOp w B X M2 w2 := by
  obtain ⟨Z, h1, h2, h3⟩ := k
  exact ⟨Z, h1, fun b hb => (h2 b hb).elim (hy b) (fun h => .inr (Nat.le_trans hk.size h)), hk.trans' hy h3⟩
def askF (M : RSt) (s : Nm) : Int := if s.toList.isEmpty then -1 else match nmGet M.now s with | none => -1 | some i => i
def askE (M : RSt) (s : Nm) : Int := if s.toList.isEmpty then 1 else match nmGet M.now s with | none => 20 | some _ => 0
theorem ask_ways (M : RSt) (s : Nm) : (s.toList.isEmpty = true ∧ askF M s = -1 ∧ askE M s = 1) ∨ (s.toList.isEmpty = false ∧ nmGet M.now s = none ∧ fileNo M.now s = -1 ∧ askF M s = -1 ∧ askE M s = 20) ∨
    ∃ i : Nat, s.toList.isEmpty = false ∧ nmGet M.now s = some i ∧ fileNo M.now s = i ∧ askF M s = i ∧ askE M s = 0 := by
  cases h : s.toList.isEmpty
  · cases hg : nmGet M.now s with
    | none => right; left; unfold askF askE fileNo; simp [h, hg]
    | some i => right; right; refine ⟨i, rfl, rfl, ?_⟩; unfold askF askE fileNo; simp [h, hg]
  · left; unfold askF askE; simp [h]
set_option maxHeartbeats 1000000 in
set_option maxRecDepth 100000 in
theorem rasked_any (B : Nat) (X : Nat → Prop) (M : RSt) (s : ByteArray) (w : World) (h : RfAt w B X M) (hn : M.now.length ≤ maxLen) :
    Calls Try.prog 37 #[.pointer (some ⟨B, 0, none⟩), .string s] w fun e w' => e = .returned (.tuple #[.int .i64 (askF M s), .int .i64 (askE M s)]) ∧ w' = w := by
  obtain ⟨fv, nv, lv, ov, pv, cs, ht⟩ := h
  have HF := Lib.hid (rfind_any M.now nv s w ht.now hn)
  obtain ⟨p, c, rfl⟩ := ht.now.form
  obtain ⟨⟨a0, a1, a2⟩, a3, a4, a5⟩ := ht.cells
  obtain ⟨F, hF⟩ : ∃ F, F = askF M s := ⟨_, rfl⟩
  obtain ⟨E, hE⟩ : ∃ E, E = askE M s := ⟨_, rfl⟩
  obtain ⟨n, hnn⟩ : ∃ n, n = fileNo M.now s := ⟨_, rfl⟩
  have hw := ask_ways M s
  rw [← hF, ← hE, ← hnn] at hw
  rw [← hF, ← hE]
  rw [← hnn] at HF
  clear ht a0 a2 a3 a4 a5 hn hF hE hnn
  rcases hw with ⟨h1, h2, h3⟩ | ⟨h1, -, h2, h3, h4⟩ | ⟨i, h1, -, h2, h3, h4⟩
  · have H := Lib.hid (And.intro h2 h3)
    clear h2 h3
    go_enter Try.func37, Try.ntmps37
    go_wp2_with fail
    go_ret2
    rw [H.out.1, H.out.2]
    exact ⟨rfl, rfl⟩
  · have H := Lib.hid (And.intro h3 h4)
    subst h2
    clear h3 h4
    go_enter Try.func37, Try.ntmps37
    go_wp2_with fail
    refine HF.out.mono ?_
    rintro e w' ⟨rfl, rfl⟩
    go_wp2_with fail
    go_ret2
    rw [H.out.1, H.out.2]
    exact ⟨rfl, rfl⟩
  · have H := Lib.hid (And.intro h3 h4)
    subst h2
    clear h3 h4
    go_enter Try.func37, Try.ntmps37
    go_wp2_with fail
    refine HF.out.mono ?_
    rintro e w' ⟨rfl, rfl⟩
    go_wp2_with fail
    go_ret2
    rw [H.out.1, H.out.2]
    exact ⟨rfl, rfl⟩
/-! ### Remove -/
def removeR (M : RSt) (s : Nm) : Int × RSt :=
  if askE M s ≠ 0 then (askE M s, M) else if hitE M.hit ≠ 0 then (hitE M.hit, { M with made := M.made + 1 }) else (0, { M with made := M.made + 1, opn := M.opn ++ [[(s, none)]] })
/-- The bounds of a disk that a call asks. -/
structure RfOk (M : RSt) : Prop where
  low : 0 ≤ M.made
  high : M.made ≤ 4611686018427387904
  now : M.now.length ≤ 1099511627776
  opn : M.opn.length ≤ 1099511627776
  flt : M.faults.length ≤ maxLen
theorem RfTop.len {w : World} {B : Nat} {X : Nat → Prop} {M : RSt} {fv nv lv ov pv : Value} {cs : List Chg} (h : RfTop w B X M fv nv lv ov pv cs) (k : RfOk M) : cs.length ≤ 1099511627776 := by
  have := k.opn; rw [h.sets, List.length_map] at this; exact this
theorem rturn_op (B : Nat) (X : Nat → Prop) (M : RSt) (c : Chg) (w : World) (h : RfAt w B X M) (hn : M.now.length ≤ 1099511627776) (ho : M.opn.length ≤ 1099511627776) :
    Calls Try.prog 34 #[.pointer (some ⟨B, 0, none⟩), .agg #[.int .i64 c.kind, .string c.a, .string c.b, .int .i64 c.f]] w fun e w' => e = .returned (.tuple #[]) ∧ RfOp w B X { M with opn := M.opn ++ [c.sets] } w' := by
  obtain ⟨fv, nv, lv, ov, pv, cs, ht⟩ := h
  refine (rturn_any B X M c w fv nv lv ov pv cs ht hn (by have := ho; rw [ht.sets, List.length_map] at this; exact this)).mono ?_
  rintro e w' ⟨rfl, u, v2, X', h1, h2, h3⟩
  exact ⟨rfl, X', ⟨_, _, _, _, _, _, h1⟩, h2, h3⟩
theorem removeR_ways (M : RSt) (s : Nm) : (askE M s ≠ 0 ∧ removeR M s = (askE M s, M)) ∨ (askE M s = 0 ∧ hitE M.hit ≠ 0 ∧ removeR M s = (hitE M.hit, { M with made := M.made + 1 })) ∨
    (askE M s = 0 ∧ hitE M.hit = 0 ∧ removeR M s = (0, { M with made := M.made + 1, opn := M.opn ++ [[(s, none)]] })) := by
  unfold removeR
  by_cases h1 : askE M s = 0
  · by_cases h2 : hitE M.hit = 0
    · right; right; exact ⟨h1, h2, by rw [if_neg (fun c => c h1), if_neg (fun c => c h2)]⟩
    · right; left; exact ⟨h1, h2, by rw [if_neg (fun c => c h1), if_pos h2]⟩
  · left; exact ⟨h1, by rw [if_pos h1]⟩
theorem askF_some {M : RSt} {s : Nm} (h : askE M s = 0) : ∃ i : Nat, askF M s = i := by
  rcases ask_ways M s with ⟨-, -, h3⟩ | ⟨-, -, -, -, h4⟩ | ⟨i, -, -, -, h3, -⟩
  · omega
  · omega
  · exact ⟨i, h3⟩
set_option maxHeartbeats 1000000 in
set_option maxRecDepth 100000 in
theorem rremove_any (B : Nat) (X : Nat → Prop) (M : RSt) (s : ByteArray) (w : World) (h : RfAt w B X M) (hk : RfOk M) :
    Calls Try.prog 17 #[.pointer (some ⟨B, 0, none⟩), .string s] w fun e w' => e = .returned (.int .i64 (removeR M s).1) ∧ RfOp w B X (removeR M s).2 w' := by
  have HA := Lib.hid (rasked_any B X M s w h (by have := hk.now; unfold maxLen; omega))
  have HS := Lib.hid (rstep_any B X M w h hk.low hk.high hk.flt)
  have HT := Lib.hid (fun W (g : RfAt W B X { M with made := M.made + 1 }) (i : Nat) => rturn_op B X { M with made := M.made + 1 } ⟨3, s, ⟨#[]⟩, i⟩ W g hk.now hk.opn)
  have HO := Lib.hid (RfOp.same h)
  rcases removeR_ways M s with ⟨h1, h2⟩ | ⟨h1, h2, h3⟩ | ⟨h1, h2, h3⟩
  · rw [h2]
    have H := Lib.hid h2
    generalize askF M s = F at *
    generalize askE M s = E at *
    have h1' : (E == 0) = false := by simp [h1]
    clear h1 h2 hk HS HT H
    go_enter Try.func17, Try.ntmps17
    go_wp2_with fail
    refine HA.out.mono ?_
    rintro e w' ⟨rfl, rfl⟩
    go_wp2_with fail
    go_ret
    exact ⟨rfl, HO.out⟩
  · rw [h3]
    rw [h1] at HA
    generalize askF M s = F at *
    generalize hitE M.hit = E at *
    generalize hitN M.hit = N at *
    have h2' : (E == 0) = false := by simp [h2]
    clear h1 h2 h3 hk HT
    go_enter Try.func17, Try.ntmps17
    go_wp2_with fail
    refine HA.out.mono ?_
    rintro e w' ⟨rfl, rfl⟩
    go_wp2_with fail
    refine HS.out.mono ?_
    rintro e w2 ⟨rfl, k1, k2⟩
    have HF : Hid (RfOp w' B X { M with made := M.made + 1 } w2) := Lib.hid ⟨X, k1, fun _ h => .inl h, k2⟩
    clear k1 k2
    go_wp2_with fail
    go_ret
    exact ⟨rfl, HF.out⟩
  · obtain ⟨i, hi⟩ := askF_some h1
    rw [h3]
    rw [h1, hi] at HA
    rw [h2] at HS
    generalize hitN M.hit = N at *
    clear h1 h2 h3 hk hi
    go_enter Try.func17, Try.ntmps17
    go_wp2_with fail
    refine HA.out.mono ?_
    rintro e w' ⟨rfl, rfl⟩
    go_wp2_with fail
    refine HS.out.mono ?_
    rintro e w2 ⟨rfl, k1, k2⟩
    have HT2 := Lib.hid (HT.out w2 k1 i)
    have HK := Lib.hid k2
    clear k1 k2
    go_wp2_with fail
    refine HT2.out.mono ?_
    rintro e w3 ⟨rfl, k3⟩
    have HF := Lib.hid (RfOp.then (w := w') (X := X) (fun _ h => .inl h) HK.out k3)
    clear k3
    go_wp2_with fail
    go_ret
    exact ⟨rfl, HF.out⟩
/-! ### Rename -/
def renameR (M : RSt) (s t : Nm) : Int × RSt :=
  if t.toList.isEmpty then (1, M) else if askE M s ≠ 0 then (askE M s, M) else if hitE M.hit ≠ 0 then (hitE M.hit, { M with made := M.made + 1 }) else
    if s = t then (0, { M with made := M.made + 1 }) else (0, { M with made := M.made + 1, opn := M.opn ++ [[(s, none), (t, some (askF M s).toNat)]] })
theorem renameR_ways (M : RSt) (s t : Nm) : (t.toList.isEmpty = true ∧ renameR M s t = (1, M)) ∨ (t.toList.isEmpty = false ∧ askE M s ≠ 0 ∧ renameR M s t = (askE M s, M)) ∨
    (t.toList.isEmpty = false ∧ askE M s = 0 ∧ hitE M.hit ≠ 0 ∧ renameR M s t = (hitE M.hit, { M with made := M.made + 1 })) ∨
    (t.toList.isEmpty = false ∧ askE M s = 0 ∧ hitE M.hit = 0 ∧ (s.toList == t.toList) = true ∧ renameR M s t = (0, { M with made := M.made + 1 })) ∨
    (t.toList.isEmpty = false ∧ askE M s = 0 ∧ hitE M.hit = 0 ∧ (s.toList == t.toList) = false ∧ renameR M s t = (0, { M with made := M.made + 1, opn := M.opn ++ [[(s, none), (t, some (askF M s).toNat)]] })) := by
  unfold renameR
  cases h0 : t.toList.isEmpty
  · right
    by_cases h1 : askE M s = 0
    · right
      by_cases h2 : hitE M.hit = 0
      · right
        rw [toList_ne]
        by_cases h3 : s = t
        · left; exact ⟨rfl, h1, h2, by simp [h3], by rw [if_neg (by simp), if_neg (fun c => c h1), if_neg (fun c => c h2), if_pos h3]⟩
        · right; exact ⟨rfl, h1, h2, by simp [h3], by rw [if_neg (by simp), if_neg (fun c => c h1), if_neg (fun c => c h2), if_neg h3]⟩
      · left; exact ⟨rfl, h1, h2, by rw [if_neg (by simp), if_neg (fun c => c h1), if_pos h2]⟩
    · left; exact ⟨rfl, h1, by rw [if_neg (by simp), if_pos h1]⟩
  · left; exact ⟨rfl, by rw [if_pos rfl]⟩
set_option maxHeartbeats 1000000 in
set_option maxRecDepth 100000 in
theorem rrename_any (B : Nat) (X : Nat → Prop) (M : RSt) (s t : ByteArray) (w : World) (h : RfAt w B X M) (hk : RfOk M) :
    Calls Try.prog 15 #[.pointer (some ⟨B, 0, none⟩), .string s, .string t] w fun e w' => e = .returned (.int .i64 (renameR M s t).1) ∧ RfOp w B X (renameR M s t).2 w' := by
  have HA := Lib.hid (rasked_any B X M s w h (by have := hk.now; unfold maxLen; omega))
  have HS := Lib.hid (rstep_any B X M w h hk.low hk.high hk.flt)
  have HT := Lib.hid (fun W (g : RfAt W B X { M with made := M.made + 1 }) (i : Nat) => rturn_op B X { M with made := M.made + 1 } ⟨2, s, t, i⟩ W g hk.now hk.opn)
  have HO := Lib.hid (RfOp.same h)
  rcases renameR_ways M s t with ⟨h0, h2⟩ | ⟨h0, h1, h2⟩ | ⟨h0, h1, h2, h3⟩ | ⟨h0, h1, h2, h4, h3⟩ | ⟨h0, h1, h2, h4, h3⟩
  · rw [h2]
    clear h2 hk HS HT HA
    go_enter Try.func15, Try.ntmps15
    go_wp2_with fail
    go_ret
    exact ⟨rfl, HO.out⟩
  · rw [h2]
    generalize askF M s = F at *
    generalize askE M s = E at *
    have h1' : (E == 0) = false := by simp [h1]
    clear h1 h2 hk HS HT
    go_enter Try.func15, Try.ntmps15
    go_wp2_with fail
    refine HA.out.mono ?_
    rintro e w' ⟨rfl, rfl⟩
    go_wp2_with fail
    go_ret
    exact ⟨rfl, HO.out⟩
  · rw [h3]
    rw [h1] at HA
    generalize askF M s = F at *
    generalize hitE M.hit = E at *
    generalize hitN M.hit = N at *
    have h2' : (E == 0) = false := by simp [h2]
    clear h1 h2 h3 hk HT
    go_enter Try.func15, Try.ntmps15
    go_wp2_with fail
    refine HA.out.mono ?_
    rintro e w' ⟨rfl, rfl⟩
    go_wp2_with fail
    refine HS.out.mono ?_
    rintro e w2 ⟨rfl, k1, k2⟩
    have HF : Hid (RfOp w' B X { M with made := M.made + 1 } w2) := Lib.hid ⟨X, k1, fun _ h => .inl h, k2⟩
    clear k1 k2
    go_wp2_with fail
    go_ret
    exact ⟨rfl, HF.out⟩
  · rw [h3]
    rw [h1] at HA
    rw [h2] at HS
    generalize askF M s = F at *
    generalize hitN M.hit = N at *
    clear h1 h2 h3 hk HT
    go_enter Try.func15, Try.ntmps15
    go_wp2_with fail
    refine HA.out.mono ?_
    rintro e w' ⟨rfl, rfl⟩
    go_wp2_with fail
    refine HS.out.mono ?_
    rintro e w2 ⟨rfl, k1, k2⟩
    have HF : Hid (RfOp w' B X { M with made := M.made + 1 } w2) := Lib.hid ⟨X, k1, fun _ h => .inl h, k2⟩
    clear k1 k2
    go_wp2_with fail
    go_ret
    exact ⟨rfl, HF.out⟩
  · obtain ⟨i, hi⟩ := askF_some h1
    rw [h3, hi]
    rw [h1, hi] at HA
    rw [h2] at HS
    generalize hitN M.hit = N at *
    clear h1 h2 h3 hk hi
    go_enter Try.func15, Try.ntmps15
    go_wp2_with fail
    refine HA.out.mono ?_
    rintro e w' ⟨rfl, rfl⟩
    go_wp2_with fail
    refine HS.out.mono ?_
    rintro e w2 ⟨rfl, k1, k2⟩
    have HT2 := Lib.hid (HT.out w2 k1 i)
    have HK := Lib.hid k2
    clear k1 k2
    go_wp2_with fail
    refine HT2.out.mono ?_
    rintro e w3 ⟨rfl, k3⟩
    have HF := Lib.hid (RfOp.then (w := w') (X := X) (fun _ h => .inl h) HK.out k3)
    clear k3
    go_wp2_with fail
    go_ret
    exact ⟨rfl, HF.out⟩
/-! ### SyncNames -/
def syncNamesR (M : RSt) : Int × RSt := if hitE M.hit ≠ 0 then (hitE M.hit, { M with made := M.made + 1 }) else (0, { M with made := M.made + 1, last := M.now, opn := [] })
theorem sync_top {w : World} {B : Nat} {X : Nat → Prop} {M : RSt} {fv nv lv ov pv : Value} {cs : List Chg} (h : RfTop w B X M fv nv lv ov pv cs) :
    RfTop ((w.setCell ⟨B, 2, none⟩ nv).setCell ⟨B, 3, none⟩ (.slice none 0 0)) B X { M with last := M.now, opn := [] } fv nv nv (.slice none 0 0) pv [] := by
  have hsz : ∀ (W : World) a v, (W.setCell a v).heap.size = W.heap.size := fun W a v => by simp [World.setCell]
  have ho : ∀ b, b ≠ B → ((w.setCell ⟨B, 2, none⟩ nv).setCell ⟨B, 3, none⟩ (.slice none 0 0)).heap[b]? = w.heap[b]? := fun b hb => by rw [heap_setCell_other _ _ _ _ hb, heap_setCell_other _ _ _ _ hb]
  have hs : w.heap.size ≤ ((w.setCell ⟨B, 2, none⟩ nv).setCell ⟨B, 3, none⟩ (.slice none 0 0)).heap.size := by rw [hsz, hsz]; exact Nat.le_refl _
  have b1 : (w.setCell ⟨B, 2, none⟩ nv).heap[B]? = some (.cells #[fv, nv, nv, ov, pv, .int .i64 M.made] 31 (0, 0)) := by simp [World.setCell, h.box, Array.getElem?_modify]
  have hnow := h.now.kept (fun g hg => ho g (h.apart nv (.inl rfl) g hg).2.1) hs
  refine ⟨?_, ownsRow_same h.files fun g hg => ho g (h.own g hg).2, hnow, hnow, .inl ⟨rfl, none, 0, rfl⟩, rfl, h.flt.kept (fun g hg => ho g (h.apart pv (.inr (.inr (.inr rfl))) g hg).2.1) hs, ?_, h.own, h.here, fun b hb => by rw [hsz, hsz]; exact h.lt b hb⟩
  · exact heap_setCell_same _ B 3 _ _ (.slice none 0 0) b1
  · intro v hv g hg
    rcases hv with rfl | rfl | rfl | rfl
    · exact h.apart _ (.inl rfl) g hg
    · exact h.apart _ (.inl rfl) g hg
    · cases hg
    · exact h.apart _ (.inr (.inr (.inr rfl))) g hg
set_option maxHeartbeats 1000000 in
set_option maxRecDepth 100000 in
theorem rsyncNames_any (B : Nat) (X : Nat → Prop) (M : RSt) (w : World) (h : RfAt w B X M) (hk : RfOk M) :
    Calls Try.prog 19 #[.pointer (some ⟨B, 0, none⟩)] w fun e w' => e = .returned (.int .i64 (syncNamesR M).1) ∧ RfOp w B X (syncNamesR M).2 w' := by
  have HS := Lib.hid (rstep_any B X M w h hk.low hk.high hk.flt)
  by_cases h1 : hitE M.hit = 0
  · have e : syncNamesR M = (0, { M with made := M.made + 1, last := M.now, opn := [] }) := by unfold syncNamesR; rw [if_neg (fun c => c h1)]
    rw [e]
    rw [h1] at HS
    generalize hitN M.hit = N at *
    clear h1 e hk h
    go_enter Try.func19, Try.ntmps19
    go_wp2_with fail
    refine HS.out.mono ?_
    rintro e w2 ⟨rfl, ⟨fv, nv, lv, ov, pv, cs, ht⟩, k2⟩
    obtain ⟨⟨a0, a1, a2⟩, a3, a4, a5⟩ := ht.cells
    have f2 := ht.free 2
    have f3 := ht.free 3
    obtain ⟨p, c, rfl⟩ := ht.now.form
    have HF := Lib.hid (show RfOp w B X { M with made := M.made + 1, last := M.now, opn := [] } ((w2.setCell ⟨B, 2, none⟩ (.slice p (RSt.now { M with made := M.made + 1 }).length c)).setCell ⟨B, 3, none⟩ (.slice none 0 0)) from ⟨X, ⟨_, _, _, _, _, _, sync_top ht⟩, fun _ h => .inl h, (k2.set (.inl ht.here)).set (.inl ht.here)⟩)
    clear ht k2 a0 a4 a5
    go_wp2_with fail
    go_ret
    exact ⟨rfl, HF.out⟩
  · have e : syncNamesR M = (hitE M.hit, { M with made := M.made + 1 }) := by unfold syncNamesR; rw [if_pos h1]
    rw [e]
    generalize hitE M.hit = E at *
    generalize hitN M.hit = N at *
    have h1' : (E == 0) = false := by simp [h1]
    clear h1 e hk h
    go_enter Try.func19, Try.ntmps19
    go_wp2_with fail
    refine HS.out.mono ?_
    rintro e w2 ⟨rfl, k1, k2⟩
    have HF : Hid (RfOp w B X { M with made := M.made + 1 } w2) := Lib.hid ⟨X, k1, fun _ h => .inl h, k2⟩
    clear k1 k2
    go_wp2_with fail
    go_ret
    exact ⟨rfl, HF.out⟩
end Go.Proofs.Ytblhbkhehddccaa
