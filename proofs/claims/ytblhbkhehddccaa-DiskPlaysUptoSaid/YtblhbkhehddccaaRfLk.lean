/- The law's 'Like': both disks tell the same. Conditions: those that each theorem names. -/
import Derived.Test.YtblhbkhehddccaaRfDo
namespace Go.Proofs.Ytblhbkhehddccaa
set_option linter.unusedVariables false
open Go.RowKit Dk
/-- A row of texts that one may read. -/
def TxR (w : World) (v : Value) (L : List Nm) : Prop :=
  (L = [] ∧ ∃ p c, v = .slice p 0 c) ∨ ∃ g c, v = .slice (some ⟨g, 0, none⟩) L.length c ∧ g < w.heap.size ∧ ∀ W : World, W.heap[g]? = w.heap[g]? → ∀ j (h : j < L.length), W.cell? ⟨g, j, none⟩ = some (.string L[j])
theorem TxR.below {w w' : World} {v : Value} {L : List Nm} (h : TxR w v L) (b : Below w.heap.size w w') : TxR w' v L := by
  rcases h with h | ⟨g, c, rfl, hg, hc⟩
  · exact .inl h
  · exact .inr ⟨g, c, rfl, Nat.lt_of_lt_of_le hg b.size, fun W hW => hc W (hW.trans (b.block g hg))⟩
theorem TxR.form {w : World} {v : Value} {L : List Nm} (h : TxR w v L) : ∃ p c, v = .slice p L.length c := by
  rcases h with ⟨rfl, p, c, rfl⟩ | ⟨g, c, rfl, hg, hc⟩
  · exact ⟨p, c, rfl⟩
  · exact ⟨_, c, rfl⟩
theorem TxR.cell {w : World} {p : Option Addr} {n c : Nat} {L : List Nm} (h : TxR w (.slice p n c) L) {j : Nat} (hj : j < L.length) : ∃ g, p = some ⟨g, 0, none⟩ ∧ w.cell? ⟨g, j, none⟩ = some (.string L[j]) := by
  rcases h with ⟨rfl, _⟩ | ⟨g, c', e, hg, hc⟩
  · cases hj
  · injection e with e1 e2 e3
    exact ⟨g, e1, hc w rfl j hj⟩
theorem txR_of {w : World} {base : Nat} {v : Value} {L : List Nm} (h : w.ownsRow base 9 1 v L.length (L.map fun s => .string s)) : TxR w v L := by
  rcases h.2 with ⟨rfl, h0⟩ | ⟨g, cap, cur, rfl, hb, hg, h1, h2, h3, h4⟩
  · exact .inl ⟨List.length_eq_zero_iff.mp h0, none, 0, rfl⟩
  · refine .inr ⟨g, cap, rfl, (Array.getElem?_eq_some_iff.1 hg).1, fun W hW j hj => ?_⟩
    have hw := hW.trans hg
    have e : cur[j]? = some (.string L[j]) := by
      have : (L.map fun s => Value.string s)[j]? = some (.string L[j]) := by simp [hj]
      rw [← this, ← h4, List.getElem?_take, if_pos (by omega), Array.getElem?_toList]
    simp [World.cell?, hw, e]
theorem tx_cells (L : List Nm) : txCells L = L.map fun s => .string s := by
  unfold txCells
  induction L with
  | nil => rfl
  | cons x r ih => rw [List.flatMap_cons, ih]; rfl
section
variable {w0 : World} {A B : Nat} {D : DSt} {M : RSt} {k : Nat} {φ : Nat → Nat}
variable {w : World}
theorem Two.sizes {Y : Nat → Prop} (h : Two w0 A B Y D M w) : ∀ s ∈ D.names.map (fun p => p.1), s.size ≤ maxLen := by
  obtain ⟨X, h1, _, _⟩ := h
  intro s hs
  obtain ⟨p, hp, rfl⟩ := List.mem_map.1 hs
  exact (h1.ok.named p hp).1
theorem Two.made5 {Y : Nat → Prop} (h : Two w0 A B Y D M w) : w.cell? ⟨B, 5, none⟩ = some (.int .i64 M.made) := by
  obtain ⟨X, _, ⟨fv, nv, lv, ov, pv, cs, h⟩, _⟩ := h
  exact h.cells.2.2.2
theorem text_same (s : ByteArray) : (!(s.toList == s.toList)) = false := by simp
set_option maxHeartbeats 4000000 in
set_option maxRecDepth 100000 in
theorem like_any (h : Two w0 A B Y0 D M w) (b : DBd k D) (m : MBd k M) (tw : Dk.Twin φ D M) (hk : k ≤ 1048577) :
    Calls Try.prog 6 #[.pointer (some ⟨A, 0, none⟩), .pointer (some ⟨B, 0, none⟩)] w fun e w' => e = .returned (.bool true) ∧ Two w0 A B Y0 D M w' := by
  have hn1 := (bd_big b hk).2.1
  have hnm : M.now.length ≤ maxLen := by have := (bd_ok b m tw hk).2.1; unfold maxLen; omega
  have H := Lib.hid h
  have HN1 := Lib.hid (h.pNames b hk)
  have HN2 := Lib.hid (fun (W : World) (t : Two w0 A B Y0 D M W) => t.rNames b m tw hk)
  have HS := Lib.hid (fun (W : World) (t : Two w0 A B Y0 D M W) => t.pSteps)
  have HM := Lib.hid (fun (W : World) (t : Two w0 A B Y0 D M W) => t.made5)
  rw [tw.made] at HM
  have HSZ := Lib.hid h.sizes
  have HR1 := Lib.hid (fun (W : World) (t : Two w0 A B Y0 D M W) (s : ByteArray) (hl : s.size ≤ maxLen) => t.pRead s hl)
  have HR2 := Lib.hid (fun (W : World) (t : Two w0 A B Y0 D M W) (s : ByteArray) => t.rRead tw hnm s)
  obtain ⟨LN, hLN⟩ : ∃ LN, LN = D.names.map (fun p => p.1) := ⟨_, rfl⟩
  have HE1 : Hid (D.names.length = LN.length ∧ (D.names.map fun x => Value.string x.1) = LN.map fun s => .string s) := Lib.hid (by rw [hLN]; simp)
  have HLB : Hid (LN.length ≤ 1099511627776) := Lib.hid (by rw [hLN, List.length_map]; exact hn1)
  rw [← hLN] at HN2 HSZ
  unfold NamesOut at HN1
  rw [HE1.out.1, HE1.out.2] at HN1
  generalize D.steps = z at *
  have mixed : Try.prog.follows .mixedOrders = true := by kernel_rfl
  clear h b m tw hk hn1 hnm hLN HE1
  go_enter Try.func6, Try.ntmps6
  go_wp2_with fail
  refine HN1.out.mono ?_
  rintro e w1 ⟨p1, c1, rfl, o1, b1⟩
  have HO1 := Lib.hid (txR_of o1)
  have H1 := Lib.hid (H.out.others b1)
  clear o1 b1
  go_wp2_with fail
  refine (HN2.out _ H1.out).mono ?_
  rintro e w2 ⟨⟨u, rfl, o2⟩, b2⟩
  rw [tx_cells] at o2
  have HO2 := Lib.hid (txR_of o2)
  obtain ⟨p2, c2, rfl⟩ := HO2.out.form
  have HO3 := Lib.hid (HO1.out.below b2)
  have H2 := Lib.hid (H1.out.others b2)
  clear o2 b2
  obtain ⟨N, hN⟩ : ∃ N, N = LN.length := ⟨_, rfl⟩
  rw [← hN] at HO1 HO2 HO3 HLB ⊢
  have HNN := Lib.hid hN
  have hnm : N ≤ maxLen := by have := HLB.out; unfold maxLen; omega
  have HNM := Lib.hid hnm
  clear hN hnm
  have d1 : ((N : Int) != (N : Int)) = false := by simp
  have d2 : (z != z) = false := by simp
  have cm := HM.out _ H2.out
  go_wp2_with fail
  go_region_held3 (fun W : World => W.cell? ⟨B, 5, none⟩ = some (.int .i64 z)) (first | assumption | go_keep) (first | (go_at_call 29; refine (HS.out _ H2.out.drew).mono ?_; rintro e w3 ⟨rfl, rfl⟩))
  have H3 := Lib.hid H2.out.drew
  have HP1 := Lib.hid (HO3.out.below (Below.refl w2.heap.size w2).drew)
  have HP2 := Lib.hid (HO2.out.below (Below.refl w2.heap.size w2).drew)
  clear d1 d2 cm
  generalize w2.drew = w3 at *
  go_wp2_with fail
  go_loopw [7] (fun i wr => ∃ j : Nat, j ≤ N ∧ i = .int .i64 j ∧ Below w3.heap.size w3 wr) (fun i _ => N - (intOf i).toNat)
  case atStart => exact ⟨0, Nat.zero_le _, rfl, Below.refl _ _⟩
  case round =>
    obtain ⟨j, hj, rfl, hb⟩ := hrel
    have HB := Lib.hid hb
    obtain ⟨wq, rfl⟩ : ∃ wq : World, wq = wr := ⟨_, rfl⟩
    clear hb
    have HQ := Lib.hid (H3.out.others HB.out)
    by_cases hlt : j < N
    · as_aux_lemma =>
      have hjl : j < LN.length := by rw [← HNN.out]; exact hlt
      obtain ⟨g1, rfl, x1⟩ := (HP1.out.below HB.out).cell hjl
      obtain ⟨g2, rfl, x2⟩ := (HP2.out.below HB.out).cell hjl
      have hsz := HSZ.out _ (List.getElem_mem hjl)
      generalize LN[j] = nm at *
      have HA := Lib.hid (HR1.out wq HQ.out nm hsz)
      have HBB := Lib.hid (HR2.out wq HQ.out nm)
      generalize readD D nm = R at *
      generalize askD D nm = E at *
      have e1 := text_same nm
      have e2 := text_same R
      have e3 : (E != E) = false := by simp
      have hwn := wrapNext HNM.out hlt
      clear hsz hjl
      go_wp2_with fail
      refine HA.out.mono ?_
      rintro e w4 ⟨rfl, rfl⟩
      go_wp2_with fail
      refine HBB.out.mono ?_
      rintro e w4 ⟨rfl, rfl⟩
      go_wp2_with fail
      go_quiet (fail)
      go_wp2_with fail
      go_roundw
      case rel => exact ⟨j + 1, by omega, congrArg _ hwn, belowDrewN HB.out _⟩
      case measure => rw [hwn]; exact nextLess hlt
    · as_aux_lemma =>
      obtain rfl : j = N := by omega
      go_wp2_with fail
      go_ret
      exact ⟨rfl, HQ.out⟩
end
end Go.Proofs.Ytblhbkhehddccaa
