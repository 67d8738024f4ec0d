/- The two logs of WalPlays side by side: both opened. Conditions: those that each theorem names. -/
import Derived.Test.YtioidkbpjkcjeaaGreatDoorWlRp
namespace Go.Proofs.YtioidkbpjkcjeaaGreatDoor
set_option linter.unusedVariables false
open Go Go.RowKit Dk
namespace Wl
def cW : Nat := 4000000
theorem freadD_size2 {D : DSt} {M : RSt} {φ : Nat → Nat} {c k : Nat} (h : Dk.Twin φ D M) (b : DBd c k D) (m : MBd c k M) : (freadD D).1.size ≤ (k + 2) * c := by
  have key : ∀ (D' : DSt), DBd c (k + 2) D' → (readD D' nL).size ≤ (k + 2) * c := fun D' b' => readD_size b' nL
  unfold freadD
  split
  · exact key D b.more.more
  split
  · exact Nat.zero_le _
  · exact key _ (two_begin h b m).2.2.1
theorem lastP_le {L : List Rc} (h : ∀ x ∈ L, 1 ≤ x.1 ∧ x.1 ≤ 4503599627370496) : lastP L ≤ 4503599627370496 := by
  unfold lastP
  cases hl : L.getLast? with
  | none => exact Nat.zero_le _
  | some x => exact (h x (List.mem_of_getLast? hl)).2
/-- What Open finds is of a size. -/
theorem openD_facts {D : DSt} {M : RSt} {φ : Nat → Nat} {c k : Nat} (h : Dk.Twin φ D M) (b : DBd c k D) (m : MBd c k M) : (openD D).size ≤ (k + 2) * c ∧ (openD D).recs.length * 20 ≤ (k + 2) * c ∧ lastP (openD D).recs ≤ 4503599627370496 := by
  have h1 := freadD_size2 h b m
  have h2 := scan_size (freadD D).1.data.toList.length 0 (freadD D).1.data.toList (Nat.le_refl _)
  have h3 := (scan_facts (freadD D).1.data.toList.length 0 (freadD D).1.data.toList (Nat.le_refl _)).2
  rw [ln] at h2
  unfold openD
  split
  · exact ⟨Nat.zero_le _, by simp, by show lastP [] ≤ _; decide⟩
  split
  · exact ⟨Nat.zero_le _, by simp, by show lastP [] ≤ _; decide⟩
  split
  · exact ⟨Nat.zero_le _, by simp, by show lastP [] ≤ _; decide⟩
  · exact ⟨by show (scan _ _).size ≤ _; omega, by show (scan _ _).recs.length * 20 ≤ _; omega, lastP_le h3⟩
/-- What the program's Open leaves, beside the document's disk. -/
def POpenQ (w0 : World) (A B : Nat) (Y : Nat → Prop) (w : World) (R : OpR) (M : RSt) (e : Ending) (w' : World) : Prop :=
  (R.err ≠ 0 ∧ e = .returned (.tuple #[.pointer none, .slice none 0 0, .int .i64 R.err]) ∧ Two w0 A B Y R.D M w' ∧ Stay Y w w') ∨
  (R.err = 0 ∧ ∃ (L : Nat) (v : Value), e = .returned (.tuple #[.pointer (some ⟨L, 0, none⟩), v, .int .i64 0]) ∧ w'.heap[L]? = some (logO A (R.size : Int) (lastP R.recs : Int) false) ∧ RcsAt w' v R.recs ∧
    Two w0 A B (fun b => Y b ∨ b = L ∨ v.ownBlock = some b) R.D M w' ∧ Stay Y w w' ∧ w.heap.size ≤ L ∧ ∀ b, v.ownBlock = some b → w.heap.size ≤ b)
section
variable {w0 w : World} {A B : Nat} {Y : Nat → Prop} {D : DSt} {M : RSt} {φ : Nat → Nat} {c k : Nat}
theorem popen_any (h : Two w0 A B Y D M w) (tw : Dk.Twin φ D M) (b : DBd c k D) (bm : MBd c k M) (hk : k + 4 ≤ 1048577) (hc : c ≤ 4194304) (G : Hd w0) :
    Calls Tryz.prog 15 #[.pointer (some ⟨A, 0, none⟩), .string nL] w (POpenQ w0 A B Y w (openD D) M) := by
  obtain ⟨X, h1, h2, h3⟩ := h
  refine (open_d h1 tw b bm hk hc G).mono fun e w' hq => ?_
  rcases hq with ⟨q1, q2, q3, q4⟩ | ⟨q1, L, v, q2, q3, q4, q5, q6, q7, q8⟩
  · exact .inl ⟨q1, q2, ⟨X, q3, h2.kept q4.1 (fun b hb => q4.2 b (.inl hb)), h3⟩, q4.1, fun b hb => q4.2 b (.inr hb)⟩
  · refine .inr ⟨q1, L, v, q2, q3, q4, ⟨X, q5.add (Below.refl _ _) (fun b hb => .inl ?_), h2.kept q6.1 (fun b hb => q6.2 b (.inl hb)), fun b hb => ⟨(h3 b hb).1, fun hy => ?_⟩⟩, ⟨q6.1, fun b hb => q6.2 b (.inr hb)⟩, q7, q8⟩
    · rcases hb with k | k | k
      · exact .inl (.inl k)
      · exact .inl (.inr k)
      · exact .inr k
    · have hlt := h1.lt (.inl hb)
      rcases hy with k | k | k
      · exact (h3 b hb).2 k
      · omega
      · have := q8 b k; omega
end
/-- The pair of a law's logs. -/
def pairO (A B : Nat) (l m : Value) (nx : Int) : Obj := .cells #[.pointer (some ⟨A, 0, none⟩), .pointer (some ⟨B, 0, none⟩), l, m, .int .i64 nx] 36 (0, 0)
theorem pairO_cells {w : World} {A B P : Nat} {l m : Value} {nx : Int} (h : w.heap[P]? = some (pairO A B l m nx)) :
    w.cell? ⟨P, 0, none⟩ = some (.pointer (some ⟨A, 0, none⟩)) ∧ w.cell? ⟨P, 1, none⟩ = some (.pointer (some ⟨B, 0, none⟩)) ∧ w.cell? ⟨P, 2, none⟩ = some l ∧ w.cell? ⟨P, 3, none⟩ = some m ∧ w.cell? ⟨P, 4, none⟩ = some (.int .i64 nx) :=
  ⟨by rw [cell_of_row _ _ _ _ _ _ h]; rfl, by rw [cell_of_row _ _ _ _ _ _ h]; rfl, by rw [cell_of_row _ _ _ _ _ _ h]; rfl, by rw [cell_of_row _ _ _ _ _ _ h]; rfl, by rw [cell_of_row _ _ _ _ _ _ h]; rfl⟩
/-- Both logs, alike: none, or one each. -/
def PairW (w0 : World) (A B P k : Nat) (w : World) : Prop :=
  ∃ φ D M, Dk.Twin φ D M ∧ DBd cW k D ∧ MBd cW k M ∧ w0.heap.size ≤ P ∧
    ((w.heap[P]? = some (pairO A B (.pointer none) (.pointer none) 1) ∧ Two w0 A B (fun b => b = P) D M w) ∨
     ∃ (L R sz last : Nat) (br : Bool), w.heap[P]? = some (pairO A B (.pointer (some ⟨L, 0, none⟩)) (.pointer (some ⟨R, 0, none⟩)) ((last : Int) + 1)) ∧ w.heap[L]? = some (logO A (sz : Int) (last : Int) br) ∧ w.heap[R]? = some (rlogO B (sz : Int) (last : Int) br) ∧
       Two w0 A B (fun b => b = P ∨ b = L ∨ b = R) D M w ∧ w0.heap.size ≤ L ∧ w0.heap.size ≤ R ∧ L ≠ P ∧ R ≠ P ∧ L ≠ R ∧ last ≤ 4503599627370496 ∧ sz ≤ k * cW)
/-- The disks alone, and the pair's cells whatever its logs are. -/
def DisksW (w0 : World) (A B P k : Nat) (w : World) : Prop :=
  ∃ φ D M l m nx, Dk.Twin φ D M ∧ DBd cW k D ∧ MBd cW k M ∧ w0.heap.size ≤ P ∧ w.heap[P]? = some (pairO A B l m nx) ∧ Two w0 A B (fun b => b = P) D M w
theorem PairW.disks {w0 w : World} {A B P k : Nat} (h : PairW w0 A B P k w) : DisksW w0 A B P k w := by
  obtain ⟨φ, D, M, tw, b, bm, h0, h | ⟨L, R, sz, last, br, h1, h2, h3, h4, _⟩⟩ := h
  · exact ⟨φ, D, M, _, _, _, tw, b, bm, h0, h.1, h.2⟩
  · exact ⟨φ, D, M, _, _, _, tw, b, bm, h0, h1, h4.add (Below.refl _ _) (fun b hb => .inl (.inl hb))⟩
set_option maxHeartbeats 4000000 in
set_option maxRecDepth 100000 in
theorem pair_open {w0 w : World} {A B P k : Nat} (h : DisksW w0 A B P k w) (hk : k + 4 ≤ 1048577) (G : Hd w0) :
    Calls Tryz.prog 6 #[.pointer (some ⟨P, 0, none⟩)] w fun e w' => e = .returned (.bool true) ∧ PairW w0 A B P (k + 4) w' := by
  obtain ⟨φ, D, M, l, m, nx, tw, b, bm, h0, hP, h⟩ := h
  obtain ⟨c0, c1, c2, c3, c4⟩ := pairO_cells hP
  have C1 := Lib.hid (popen_any h tw b bm hk (by decide) G)
  have C2 := Lib.hid (fun (Y : Nat → Prop) (W : World) (hW : Two w0 A B Y (openD D).D M W) => ropen_any hW tw b bm hk (by decide) (freadD_size tw b bm (by omega) (by decide)))
  obtain ⟨f1, f2, f3⟩ := openD_facts tw b bm
  have HF : Hid ((openD D).size ≤ (k + 4) * cW ∧ lastP (openD D).recs ≤ 4503599627370496) := Lib.hid ⟨Nat.le_trans f1 (Nat.mul_le_mul (by omega) (Nat.le_refl _)), f3⟩
  have hml : (openD D).recs.length ≤ maxLen := by
    have : (k + 2) * cW ≤ 1048577 * 4000000 := Nat.mul_le_mul (by omega) (Nat.le_refl _)
    unfold maxLen; omega
  obtain ⟨tw2, b2, bm2⟩ := two_open tw b bm
  have HT := Lib.hid tw2
  have HB := Lib.hid b2
  have HM := Lib.hid bm2
  have HP := Lib.hid hP
  have H0 := Lib.hid h0
  have HPL : Hid (P < w.heap.size) := Lib.hid (h.lt rfl)
  have HS : Hid (∀ (u v : Value) (W : World), RcsAt W u (openD D).recs → RcsAt W v (openD D).recs → Calls Tryz.prog 14 #[u, v] W fun e w' => e = .returned (.bool true) ∧ Below W.heap.size W w') := Lib.hid (fun u v W hu hv => by
    have := rsame_any (openD D).recs (openD D).recs u v W hu hv hml
    rw [decide_eq_true rfl] at this
    exact this)
  have HS0 : Hid (∀ (W : World), Calls Tryz.prog 14 #[.slice none 0 0, .slice none 0 0] W fun e w' => e = .returned (.bool true) ∧ Below W.heap.size W w') := Lib.hid (fun W => by
    have := rsame_any [] [] (.slice none 0 0) (.slice none 0 0) W (.inl ⟨rfl, none, 0, rfl⟩) (.inl ⟨rfl, none, 0, rfl⟩) (by unfold maxLen; simp)
    rw [decide_eq_true rfl] at this
    exact this)
  have hla : -9223372036854775808 ≤ (lastP (openD D).recs : Int) + 1 ∧ (lastP (openD D).recs : Int) + 1 ≤ 9223372036854775807 := by omega
  have hw1 : wrap64 ((lastP (openD D).recs : Int) + 1) = (lastP (openD D).recs : Int) + 1 := wrI rfl hla
  have hw2 : IntKind.i64.wrap ((lastP (openD D).recs : Int) + 1) = (lastP (openD D).recs : Int) + 1 := IntWalk.i64_in _ hla
  clear h tw b bm hk G f1 f2 f3 hml tw2 b2 bm2 hP h0 hla
  generalize openD D = R at *
  generalize openR D M = M' at *
  by_cases hE : R.err = 0
  · go_enter Tryz.func6, Tryz.ntmps6
    go_wp2_with fail
    refine C1.out.mono ?_
    rintro e w1 (⟨q, _⟩ | ⟨-, LP, va, rfl, hl1, ha1, ht1, hs1, hn1, ho1⟩)
    · exact absurd hE q
    have HP1 := Lib.hid ((hs1.2 P rfl).trans HP.out)
    have d1 := (World.cell?_of_block (a := ⟨P, 1, none⟩) (hs1.2 P rfl)).trans c1
    have C3 := Lib.hid (C2.out _ _ ht1)
    have HL1 := Lib.hid hl1
    have HA1 := Lib.hid ha1
    have HO1 := Lib.hid ho1
    have HNE1 : Hid (P < LP) := Lib.hid (Nat.lt_of_lt_of_le HPL.out hn1)
    have HLT1 : Hid (LP < w1.heap.size) := Lib.hid (ht1.lt (.inr (.inl rfl)))
    have HP1L : Hid (P < w1.heap.size) := Lib.hid (Nat.lt_of_lt_of_le HPL.out hs1.1)
    clear hl1 ha1 ht1 hs1 hn1 ho1 c0 c1 c2 c3 c4 C1 C2
    go_wp2_with fail
    refine C3.out.mono ?_
    rintro e w2 (⟨q, _⟩ | ⟨-, LD, vb, rfl, hl2, ha2, ht2, hs2, hn2, ho2⟩)
    · exact absurd hE q
    have HA1' := Lib.hid (HA1.out.stay hs2.1 (fun b hb => hs2.2 b (.inr (.inr hb))))
    have HSM := Lib.hid (HS.out va vb)
    have HP2 := Lib.hid ((hs2.2 P (.inl rfl)).trans HP1.out)
    have HL2 := Lib.hid ((hs2.2 LP (.inr (.inl rfl))).trans HL1.out)
    have HR2 := Lib.hid hl2
    have HA2 := Lib.hid ha2
    have HT2 : Hid (Two w0 A B (fun b => b = P ∨ b = LP ∨ b = LD) R.D M' w2) := Lib.hid (ht2.add (Below.refl _ _) (fun b hb => by
      rcases hb with k | k | k
      · exact .inl (.inl (.inl k))
      · exact .inl (.inl (.inr (.inl k)))
      · exact .inl (.inr (.inl k))))
    have HNE2 : Hid (P < LD ∧ LP < LD) := Lib.hid ⟨Nat.lt_of_lt_of_le HP1L.out hn2, Nat.lt_of_lt_of_le HLT1.out hn2⟩
    have HPL2 : Hid (P < w2.heap.size ∧ LP < w2.heap.size ∧ LD < w2.heap.size) := Lib.hid ⟨HT2.out.lt (.inl rfl), HT2.out.lt (.inr (.inl rfl)), HT2.out.lt (.inr (.inr rfl))⟩
    obtain ⟨pa, ca, rfl⟩ := HA1.out.form
    obtain ⟨pb, cb, rfl⟩ := ha2.form
    have hE1 : (R.err != R.err) = false := by simp
    clear hl2 ha2 ht2 hs2 hn2 ho2 d1 C3
    rw [hE] at *
    go_wp2_with fail
    refine (HSM.out w2 HA1'.out HA2.out).mono ?_
    rintro e w3 ⟨rfl, hb3⟩
    have hP3 := (hb3.block P HPL2.out.1).trans HP2.out
    have hL3 := (hb3.block LP HPL2.out.2.1).trans HL2.out
    have hR3 := (hb3.block LD HPL2.out.2.2).trans HR2.out
    have e2 := (pairO_cells hP3).2.2.1
    have k2 : w3.frozen? ⟨P, 2, none⟩ = false := Lib.frozen_of_heap hP3 2
    have e3 : ∀ v, (w3.setCell ⟨P, 2, none⟩ v).cell? ⟨P, 3, none⟩ = some m := fun v => by rw [cell_of_row _ _ _ _ _ _ (setCell_at hP3 v)]; rfl
    have k3 : ∀ v, (w3.setCell ⟨P, 2, none⟩ v).frozen? ⟨P, 3, none⟩ = false := fun v => Lib.frozen_of_heap (setCell_at hP3 v) 3
    have e4 : ∀ v u, ((w3.setCell ⟨P, 2, none⟩ v).setCell ⟨P, 3, none⟩ u).cell? ⟨P, 4, none⟩ = some (.int .i64 nx) := fun v u => by rw [cell_of_row _ _ _ _ _ _ (setCell_at (setCell_at hP3 v) u)]; rfl
    have k4 : ∀ v u, ((w3.setCell ⟨P, 2, none⟩ v).setCell ⟨P, 3, none⟩ u).frozen? ⟨P, 4, none⟩ = false := fun v u => Lib.frozen_of_heap (setCell_at (setCell_at hP3 v) u) 4
    have e5 : ∀ v u x, (((w3.setCell ⟨P, 2, none⟩ v).setCell ⟨P, 3, none⟩ u).setCell ⟨P, 4, none⟩ x).cell? ⟨P, 4, none⟩ = some x := fun v u x => by rw [cell_of_row _ _ _ _ _ _ (setCell_at (setCell_at (setCell_at hP3 v) u) x)]; rfl
    have k5 : ∀ v u x, (((w3.setCell ⟨P, 2, none⟩ v).setCell ⟨P, 3, none⟩ u).setCell ⟨P, 4, none⟩ x).frozen? ⟨P, 4, none⟩ = false := fun v u x => Lib.frozen_of_heap (setCell_at (setCell_at (setCell_at hP3 v) u) x) 4
    have hne : LD ≠ P := Nat.ne_of_gt HNE2.out.1
    have hoth : ∀ (W : World) i x, (W.setCell ⟨P, i, none⟩ x).heap[LD]? = W.heap[LD]? := fun W i x => heap_setCell_other _ _ _ _ hne
    have r5 : ∀ v u x, (((w3.setCell ⟨P, 2, none⟩ v).setCell ⟨P, 3, none⟩ u).setCell ⟨P, 4, none⟩ x).cell? ⟨LD, 2, none⟩ = some (.int .i64 (lastP R.recs : Int)) := fun v u x =>
      (World.cell?_of_block (a := ⟨LD, 2, none⟩) ((hoth _ _ _).trans ((hoth _ _ _).trans (hoth _ _ _)))).trans (rlogO_cells hR3).2.2.1
    have HQ : Hid (∀ W, W = ((((w3.setCell ⟨P, 2, none⟩ (.pointer (some ⟨LP, 0, none⟩))).setCell ⟨P, 3, none⟩ (.pointer (some ⟨LD, 0, none⟩))).setCell ⟨P, 4, none⟩ (.int .i64 1)).setCell ⟨P, 4, none⟩ (.int .i64 ((lastP R.recs : Int) + 1))) → PairW w0 A B P (k + 4) W) := Lib.hid (fun W hW => by
      obtain ⟨ψ, t2⟩ := HT.out
      have hT3 := HT2.out.others hb3
      have hneL : LP ≠ P := Nat.ne_of_gt HNE1.out
      have hothL : ∀ (W : World) i x, (W.setCell ⟨P, i, none⟩ x).heap[LP]? = W.heap[LP]? := fun W i x => heap_setCell_other _ _ _ _ hneL
      subst hW
      refine ⟨ψ, R.D, M', t2, HB.out, HM.out, H0.out, .inr ⟨LP, LD, R.size, lastP R.recs, false, setCell_at (setCell_at (setCell_at (setCell_at hP3 _) _) _) _, ?_, ?_, ?_, ?_, ?_, hneL, hne, Nat.ne_of_lt HNE2.out.2, HF.out.2, HF.out.1⟩⟩
      · exact ((hothL _ _ _).trans ((hothL _ _ _).trans ((hothL _ _ _).trans (hothL _ _ _)))).trans hL3
      · exact ((hoth _ _ _).trans ((hoth _ _ _).trans ((hoth _ _ _).trans (hoth _ _ _)))).trans hR3
      · exact (((hT3.set P 2 _ (.inl rfl) H0.out).set P 3 _ (.inl rfl) H0.out).set P 4 _ (.inl rfl) H0.out).set P 4 _ (.inl rfl) H0.out
      · have := H0.out; have := HNE1.out; omega
      · have := H0.out; have := HNE2.out.1; omega)
    clear hb3 hL3 hR3 hoth hne hP3
    go_wp2_with fail
    go_ret
    exact ⟨rfl, HQ.out _ rfl⟩
  · have hE1 : (R.err != 0) = true := by simpa using hE
    have hE2 : (R.err != R.err) = false := by simp
    go_enter Tryz.func6, Tryz.ntmps6
    go_wp2_with fail
    refine C1.out.mono ?_
    rintro e w1 (⟨-, rfl, ht1, hs1⟩ | ⟨q, _⟩)
    case inr => exact absurd q hE
    have HP1 := Lib.hid ((hs1.2 P rfl).trans HP.out)
    have d1 := (World.cell?_of_block (a := ⟨P, 1, none⟩) (hs1.2 P rfl)).trans c1
    have C3 := Lib.hid (C2.out _ _ ht1)
    clear ht1 hs1 c0 c1 c2 c3 c4 C1 C2
    go_wp2_with fail
    refine C3.out.mono ?_
    rintro e w2 (⟨-, rfl, ht2, hs2⟩ | ⟨q, _⟩)
    case inr => exact absurd q hE
    have HP2 := Lib.hid ((hs2.2 P rfl).trans HP1.out)
    have HT2 := Lib.hid ht2
    clear ht2 hs2 d1 C3
    go_wp2_with fail
    refine (HS0.out w2).mono ?_
    rintro e w3 ⟨rfl, hb3⟩
    have hP3 := (hb3.block P (HT2.out.lt rfl)).trans HP2.out
    have e2 := (pairO_cells hP3).2.2.1
    have k2 : w3.frozen? ⟨P, 2, none⟩ = false := Lib.frozen_of_heap hP3 2
    have e3 : ∀ v, (w3.setCell ⟨P, 2, none⟩ v).cell? ⟨P, 3, none⟩ = some m := fun v => by rw [cell_of_row _ _ _ _ _ _ (setCell_at hP3 v)]; rfl
    have k3 : ∀ v, (w3.setCell ⟨P, 2, none⟩ v).frozen? ⟨P, 3, none⟩ = false := fun v => Lib.frozen_of_heap (setCell_at hP3 v) 3
    have e4 : ∀ v u, ((w3.setCell ⟨P, 2, none⟩ v).setCell ⟨P, 3, none⟩ u).cell? ⟨P, 4, none⟩ = some (.int .i64 nx) := fun v u => by rw [cell_of_row _ _ _ _ _ _ (setCell_at (setCell_at hP3 v) u)]; rfl
    have k4 : ∀ v u, ((w3.setCell ⟨P, 2, none⟩ v).setCell ⟨P, 3, none⟩ u).frozen? ⟨P, 4, none⟩ = false := fun v u => Lib.frozen_of_heap (setCell_at (setCell_at hP3 v) u) 4
    have HQ : Hid (∀ W, W = (((w3.setCell ⟨P, 2, none⟩ (.pointer none)).setCell ⟨P, 3, none⟩ (.pointer none)).setCell ⟨P, 4, none⟩ (.int .i64 1)) → PairW w0 A B P (k + 4) W) := Lib.hid (fun W hW => by
      obtain ⟨ψ, t2⟩ := HT.out
      have hT3 := HT2.out.others hb3
      subst hW
      exact ⟨ψ, R.D, M', t2, HB.out, HM.out, H0.out, .inl ⟨setCell_at (setCell_at (setCell_at hP3 _) _) _, ((hT3.set P 2 _ rfl H0.out).set P 3 _ rfl H0.out).set P 4 _ rfl H0.out⟩⟩)
    clear hb3 hP3
    go_wp2_with fail
    go_ret
    exact ⟨rfl, HQ.out _ rfl⟩
end Wl
end Go.Proofs.YtioidkbpjkcjeaaGreatDoor
