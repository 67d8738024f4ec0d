/- The document's names, values and ranges: Name, Names, Range, Value. Conditions: those that each theorem names. -/
import Derived.Test.YtfppemgagifmpaaDoorPlRw
import Derived.Test.YtfppemgagifmpaaDoorPlM
import Derived.Test.YtfppemgagifmpaaDoorPlSo
import Derived.Deep.QuietTactic
namespace Go.Proofs.YtfppemgagifmpaaDoor
set_option linter.unusedVariables false
open Go Go.RowKit Go.Shelf Pl
theorem nm_out (c : UInt8) : nameB c = true ↔ ((97 : Int) ≤ c.toNat ∧ (c.toNat : Int) ≤ 122) ∨ ((65 : Int) ≤ c.toNat ∧ (c.toNat : Int) ≤ 90) ∨ ((48 : Int) ≤ c.toNat ∧ (c.toNat : Int) ≤ 57) ∨ (c.toNat : Int) = 95 := by
  unfold nameB digitB
  simp only [Bool.or_eq_true, Bool.and_eq_true, decide_eq_true_eq]
/-- Where a byte of a name lies, by the walk's own tests. -/
theorem nm_ways (c : UInt8) :
    (nameB c = true ∧ (((97 : Int) ≤ c.toNat ∧ (c.toNat : Int) ≤ 122) ∨ ((c.toNat : Int) < 97 ∧ (65 : Int) ≤ c.toNat ∧ (c.toNat : Int) ≤ 90) ∨ ((c.toNat : Int) < 65 ∧ (48 : Int) ≤ c.toNat ∧ (c.toNat : Int) ≤ 57) ∨ (c.toNat : Int) = 95)) ∨
    (nameB c = false ∧ ((122 : Int) < c.toNat ∨ ((c.toNat : Int) < 97 ∧ (90 : Int) < c.toNat ∧ ((c.toNat : Int) == 95) = false) ∨ ((57 : Int) < c.toNat ∧ (c.toNat : Int) < 65) ∨ ((c.toNat : Int) < 48))) := by
  have h := nm_out c
  cases e : nameB c
  · right
    rw [e] at h
    refine ⟨rfl, ?_⟩
    have h2 : ¬ (((97 : Int) ≤ c.toNat ∧ (c.toNat : Int) ≤ 122) ∨ ((65 : Int) ≤ c.toNat ∧ (c.toNat : Int) ≤ 90) ∨ ((48 : Int) ≤ c.toNat ∧ (c.toNat : Int) ≤ 57) ∨ (c.toNat : Int) = 95) := fun x => by cases h.2 x
    rw [beq_eq_false_iff_ne]
    omega
  · left
    rw [e] at h
    refine ⟨rfl, ?_⟩
    have := h.1 rfl
    omega
theorem alls_no {s : ByteArray} {p : UInt8 → Bool} {k : Nat} {c : UInt8} (h : s.data.toList[k]? = some c) (hp : p c = false) : allS s p = false := all_no' h hp
theorem alls_end {s : ByteArray} {p : UInt8 → Bool} (ha : (s.data.toList.take s.size).all p = true) : allS s p = true := by
  rw [List.take_of_length_le (Nat.le_of_eq (ln s))] at ha; exact ha
set_option maxHeartbeats 2000000 in
set_option maxRecDepth 100000 in
theorem rname_any (s : ByteArray) (hs : s.size ≤ maxLen) (w : World) :
    Calls Tryd.prog 43 #[.string s] w fun e w' => e = .returned (.bool (isName s)) ∧ w' = w := by
  have hsz : (s.size : Int) ≤ 9223372036854775807 := by unfold maxLen at hs; omega
  by_cases h0 : s.size = 0
  · have hz : s = ⟨#[]⟩ := by
      apply ByteArray.ext
      exact Array.size_eq_zero_iff.1 h0
    subst hz
    have HV : Hid (isName ⟨#[]⟩ = false) := Lib.hid rfl
    clear h0 hs hsz
    go_enter Tryd.func43, Tryd.ntmps43
    go_wp2_with fail
    go_ret
    rw [HV.out]
    exact ⟨rfl, rfl⟩
  · have hp : 0 < s.size := by omega
    obtain ⟨c, hc⟩ : ∃ c, s[0] = c := ⟨_, rfl⟩
    obtain ⟨r, hr⟩ : ∃ r, r = isName s := ⟨_, rfl⟩
    rw [← hr]
    rw [isName_eq hp hc] at hr
    have HR := Lib.hid hr
    have h1 : ¬ (s.size : Int) < 1 := by omega
    clear hr h0 hs
    by_cases h32 : (s.size : Int) ≤ 32
    · have h32' : ¬ (32 : Int) < (s.size : Int) := by omega
      have hN : s.size ≤ 32 := by omega
      by_cases hd : (48 : Int) ≤ c.toNat ∧ (c.toNat : Int) ≤ 57
      · obtain ⟨d1, d2⟩ := hd
        have HV : Hid (r = false) := Lib.hid (by rw [HR.out]; unfold digitB; rw [decide_eq_true d1, decide_eq_true d2]; simp)
        clear HR hN h32
        go_enter Tryd.func43, Tryd.ntmps43
        go_wp2_with fail
        go_ret
        rw [HV.out]
        exact ⟨rfl, rfl⟩
      · have hdg : digitB c = false := by unfold digitB; simp; omega
        have HV : Hid (r = allS s nameB) := Lib.hid (by rw [HR.out, hdg, decide_eq_true hN]; simp)
        have hx : (c.toNat : Int) < 48 ∨ ((48 : Int) ≤ c.toNat ∧ (57 : Int) < c.toNat) := by omega
        clear HR hdg hd h32
        have HN := Lib.hid hN
        clear hN
        rcases hx with d1 | ⟨d1, d2⟩
        all_goals
          (try have d3 : ¬ (48 : Int) ≤ (c.toNat : Int) := by omega)
          (try have d4 : ¬ (c.toNat : Int) ≤ 57 := by omega)
          go_enter Tryd.func43, Tryd.ntmps43
          go_wp2_with fail
          clear d1 hc
          (try clear d2)
          (try clear d3)
          (try clear d4)
          go_loop [3] (fun i => ∃ k : Nat, k ≤ s.size ∧ i = .int .i64 k ∧ Hid ((s.data.toList.take k).all nameB = true)) (fun i => s.size - (intOf i).toNat)
          case atStart => exact ⟨0, Nat.zero_le _, rfl, Lib.hid (by simp)⟩
          case round =>
            obtain ⟨k, hk, rfl, HA⟩ := hrel
            by_cases hlt : k < s.size
            · have hx : s.data.toList[k]? = some s[k] := Lib.data_getElem? s k hlt
              generalize hcc : s[k] = c at hx
              have HX := Lib.hid hx
              clear hx
              rcases nm_ways c with ⟨hp, h⟩ | ⟨hp, h⟩
              · have HNX := Lib.hid (all_next' HX.out HA.out hp)
                clear HX HA hp
                rcases h with ⟨h1, h2⟩ | ⟨h1, h2, h3⟩ | ⟨h1, h2, h3⟩ | h1
                all_goals
                  (try have g1 : (c.toNat : Int) < 97 := by omega)
                  (try have g2 : (c.toNat : Int) < 65 := by omega)
                  (try have g3 : (c.toNat : Int) < 48 := by omega)
                  (try have g4 : (97 : Int) ≤ (c.toNat : Int) := by omega)
                  (try have g5 : ¬ (c.toNat : Int) ≤ 90 := by omega)
                  (try have g6 : ¬ (c.toNat : Int) ≤ 57 := by omega)
                  go_wp2_with fail
                  go_round
                  case rel => exact ⟨k + 1, by omega, by go_num, HNX⟩
                  case measure => simp [intOf]; omega
              · have HZ : Hid (r = false) := Lib.hid (by rw [HV.out]; exact alls_no HX.out hp)
                clear HX HA hp HV
                rcases h with h1 | ⟨h1, h2, h3⟩ | ⟨h1, h2⟩ | h1
                all_goals
                  have g0 : ((c.toNat : Int) == 95) = false := by first | assumption | (rw [beq_eq_false_iff_ne]; omega)
                  (try have g1 : (c.toNat : Int) < 97 := by omega)
                  (try have g2 : (c.toNat : Int) < 65 := by omega)
                  (try have g3 : (97 : Int) ≤ c.toNat := by omega)
                  (try have g4 : (65 : Int) ≤ c.toNat := by omega)
                  (try have g5 : (48 : Int) ≤ c.toNat := by omega)
                  (try have g6 : ¬ (c.toNat : Int) ≤ 122 := by omega)
                  (try have g7 : ¬ (c.toNat : Int) ≤ 90 := by omega)
                  (try have g8 : ¬ (c.toNat : Int) ≤ 57 := by omega)
                  go_wp2_with fail
                  go_ret
                  rw [HZ.out]
                  exact ⟨rfl, rfl⟩
            · obtain rfl : k = s.size := by omega
              have HE : Hid (r = true) := Lib.hid (by rw [HV.out]; exact alls_end HA.out)
              clear HA
              go_wp2_with fail
              go_ret
              rw [HE.out]
              exact ⟨rfl, rfl⟩
    · have h32' : (32 : Int) < (s.size : Int) := by omega
      have HV : Hid (r = false) := Lib.hid (by rw [HR.out, decide_eq_false (by omega)]; simp)
      clear HR h32 hc
      go_enter Tryd.func43, Tryd.ntmps43
      go_wp2_with fail
      go_ret
      rw [HV.out]
      exact ⟨rfl, rfl⟩
/-- A row of texts. -/
def TxsAt (w : World) (v : Value) (L : List ByteArray) : Prop :=
  (L = [] ∧ ∃ p c, v = .slice p 0 c) ∨ ∃ g off c, v = .slice (some ⟨g, off, none⟩) L.length c ∧ g < w.heap.size ∧
    ∀ W : World, W.heap[g]? = w.heap[g]? → ∀ j (h : j < L.length), W.cell? ⟨g, off + j, none⟩ = some (.string L[j])
theorem TxsAt.below {w w' : World} {v : Value} {L : List ByteArray} (h : TxsAt w v L) (g : Below w.heap.size w w') : TxsAt w' v L := by
  rcases h with h | ⟨b, off, c, rfl, hb, hc⟩
  · exact .inl h
  · exact .inr ⟨b, off, c, rfl, Nat.lt_of_lt_of_le hb g.size, fun W hW => hc W (hW.trans (g.block b hb))⟩
theorem TxsAt.form {w : World} {v : Value} {L : List ByteArray} (h : TxsAt w v L) : ∃ p c, v = .slice p L.length c := by
  rcases h with ⟨rfl, p, c, rfl⟩ | ⟨g, off, c, rfl, _⟩
  · exact ⟨p, c, rfl⟩
  · exact ⟨_, c, rfl⟩
theorem txs_cell {w : World} {p : Option Addr} {n c : Nat} {L : List ByteArray} (h : TxsAt w (.slice p n c) L) {j : Nat} (hj : j < L.length) :
    ∃ g off, p = some ⟨g, off, none⟩ ∧ ∀ W, Below w.heap.size w W → ∀ i (hi : i < L.length), W.cell? ⟨g, off + i, none⟩ = some (.string L[i]) := by
  rcases h with ⟨rfl, _⟩ | ⟨g, off, c2, hs, hg, hc⟩
  · cases hj
  · injection hs with e1 e2 e3
    exact ⟨g, off, e1, fun W hW i hi => hc W (hW.block g hg) i hi⟩
theorem below_nq {B : Nat} {w w' : World} (h : Below B w w') (n : Nat) : Below B w (w'.drewN n) := ⟨h.os, h.tape, h.output, h.size, h.block⟩
theorem rises_nil {x : Nm} (r : List Nm) : rises ⟨#[]⟩ (x :: r) = (isName x && rises x r) := by
  show (isName x && (!(Op.bytesLess x.toList (⟨#[]⟩ : ByteArray).toList || x.toList == (⟨#[]⟩ : ByteArray).toList) && rises x r)) = _
  cases hn : isName x
  · rfl
  · have e0 : (⟨#[]⟩ : ByteArray).toList = [] := by rw [Go.ByteArray.toList_eq]
    have e1 : Op.bytesLess x.toList [] = false := by cases x.toList <;> rfl
    have e2 : (x.toList == []) = false := by
      rw [Go.ByteArray.toList_eq]
      cases hx : x.data.toList with
      | nil => unfold isName at hn; rw [hx] at hn; cases hn
      | cons a b => rfl
    rw [e0, e1, e2]; rfl
theorem less_turned : ∀ a b : List UInt8, Op.bytesLess b a = !(Op.bytesLess a b || a == b)
  | [], [] => rfl
  | [], _ :: _ => rfl
  | _ :: _, [] => rfl
  | x :: a, y :: b => by
    have ih := less_turned a b
    have e : (x :: a == y :: b) = (x == y && a == b) := rfl
    rw [e]
    unfold Op.bytesLess
    rw [ih]
    by_cases h1 : x = y
    · subst h1; simp [UInt8.lt_irrefl]
    · have h2 : ¬ y = x := fun c => h1 c.symm
      have h4 : ¬ x.toNat = y.toNat := fun c => h1 (UInt8.toNat_inj.mp c)
      by_cases h3 : x < y
      · have h5 : ¬ y < x := by rw [UInt8.lt_iff_toNat_lt] at *; omega
        simp [h1, h2, h3, h5]
      · have h5 : y < x := by rw [UInt8.lt_iff_toNat_lt] at *; omega
        simp [h1, h2, h3, h5]
/-- The names behind the k-th rise from the one ahead of it. -/
def risesAt (ns : List Nm) (k : Nat) : Bool := if k = 0 then rises ⟨#[]⟩ ns else rises (ns.getD (k - 1) ⟨#[]⟩) (ns.drop k)
theorem risesAt_zero (ns : List Nm) : risesAt ns 0 = rises ⟨#[]⟩ ns := rfl
theorem risesAt_first {ns : List Nm} {x : Nm} (h : ns[0]? = some x) : risesAt ns 0 = (isName x && risesAt ns 1) := by
  cases ns with
  | nil => cases h
  | cons y r =>
    simp at h; subst h
    rw [risesAt_zero, rises_nil]; rfl
theorem risesAt_next {ns : List Nm} {x y : Nm} {k : Nat} (h : ns[k]? = some y) (h2 : ns[k + 1]? = some x) : risesAt ns (k + 1) = (isName x && (!(Op.bytesLess x.toList y.toList || x.toList == y.toList) && risesAt ns (k + 2))) := by
  have e1 : ns.getD k ⟨#[]⟩ = y := by rw [List.getD_eq_getElem?_getD, h]; rfl
  have e2 : ns.getD (k + 1) ⟨#[]⟩ = x := by rw [List.getD_eq_getElem?_getD, h2]; rfl
  unfold risesAt
  rw [if_neg (by omega), if_neg (by omega)]
  show rises (ns.getD k ⟨#[]⟩) _ = (isName x && (!(Op.bytesLess x.toList y.toList || x.toList == y.toList) && rises (ns.getD (k + 1) ⟨#[]⟩) _))
  rw [e1, e2, rises_at h2]
theorem risesAt_end (ns : List Nm) (h : ns ≠ []) : risesAt ns ns.length = true := by
  unfold risesAt
  rw [if_neg (by intro h0; exact h (List.length_eq_zero_iff.mp h0)), List.drop_length]; rfl
set_option maxHeartbeats 4000000 in
set_option maxRecDepth 100000 in
theorem rnames_any (ns : List Nm) (v : Value) (w : World) (h : TxsAt w v ns) (hl : ns.length ≤ maxLen) (ho : ∀ x ∈ ns, x.size ≤ maxLen) :
    Calls Tryd.prog 21 #[v] w fun e w' => e = .returned (.bool (rises ⟨#[]⟩ ns)) ∧ Below w.heap.size w w' := by
  obtain ⟨R, hR⟩ : ∃ R, R = rises ⟨#[]⟩ ns := ⟨_, rfl⟩
  rw [← hR]
  rw [← risesAt_zero] at hR
  have HR := Lib.hid hR
  have HH := Lib.hid h
  have HL := Lib.hid hl
  have HO := Lib.hid ho
  obtain ⟨p, c, rfl⟩ := h.form
  obtain ⟨n, hn⟩ : ∃ n, n = ns.length := ⟨_, rfl⟩
  rw [← hn] at HH HL ⊢
  have HN := Lib.hid hn
  clear h hR hl ho hn
  go_enter Tryd.func21, Tryd.ntmps21
  go_wp2_with fail
  go_loopw [3] (fun i wx => ∃ k : Nat, k ≤ n ∧ i = .int .i64 k ∧ Hid (R = risesAt ns k) ∧ Below w.heap.size w wx) (fun i _ => n - (intOf i).toNat)
  case atStart => exact ⟨0, Nat.zero_le _, rfl, HR, Below.refl _ _⟩
  case round =>
    obtain ⟨k, hk, rfl, HK, hq⟩ := hrel
    have HQ := Lib.hid hq
    clear hq
    obtain ⟨wz, rfl⟩ : ∃ wz : World, wz = wr := ⟨_, rfl⟩
    by_cases hlt : k < n
    · have hlt' : (k : Int) < n := by omega
      have hlk : k < ns.length := by rw [← HN.out]; exact hlt
      obtain ⟨g, off, rfl, hc⟩ := txs_cell HH.out hlk
      have ca := hc wz HQ.out k hlk
      have VX := Lib.hid (List.getElem?_eq_getElem hlk)
      have HS := Lib.hid (HO.out _ (List.getElem_mem hlk))
      generalize ns[k] = x at ca VX HS
      have CN := Lib.hid (fun W => rname_any x HS.out W)
      by_cases hk00 : k = 0
      · subst hk00
        have HV : Hid (R = (isName x && risesAt ns 1)) := Lib.hid (HK.out.trans (risesAt_first VX.out))
        clear HK hc
        rw [Nat.add_zero] at ca
        cases hnm : isName x with
        | false =>
          rw [hnm] at CN HV
          go_wp2_with fail
          go_quiet (first | (go_at_call 43; refine Calls.quiet_of_same (CN.out _)))
          go_wp2_with fail
          go_ret
          exact ⟨by rw [HV.out]; rfl, below_nq HQ.out _⟩
        | true =>
          rw [hnm] at CN HV
          go_wp2_with fail
          go_quiet (first | (go_at_call 43; refine Calls.quiet_of_same (CN.out _)))
          go_wp2_with fail
          go_roundw
          case rel => exact ⟨1, by omega, by first | rfl | go_num, Lib.hid (by rw [HV.out]; rfl), below_nq HQ.out _⟩
          case measure => simp [intOf]; omega
      · obtain ⟨j, hj⟩ : ∃ j, k = j + 1 := ⟨k - 1, by omega⟩
        have hlk1 : j < ns.length := by omega
        have cb := hc wz HQ.out j hlk1
        have VY := Lib.hid (List.getElem?_eq_getElem hlk1)
        generalize ns[j] = y at cb VY
        have HV : Hid (R = (isName x && (!(Op.bytesLess x.toList y.toList || x.toList == y.toList) && risesAt ns (k + 1)))) := Lib.hid (by
          rw [HK.out]
          rw [hj] at VX ⊢
          exact risesAt_next VY.out VX.out)
        have hk0 : 0 < k := by omega
        have hk1 : wrap64 ((k : Int) - 1) = (j : Int) := by unfold wrap64; have := HL.out; unfold maxLen at this; omega
        have hk2 : (j : Int) < (n : Int) := by omega
        clear HK hc hj hk00 hlk1 VX VY
        cases hnm : isName x with
        | false =>
          rw [hnm] at CN HV
          go_wp2_with fail
          go_quiet (first | (go_at_call 43; refine Calls.quiet_of_same (CN.out _)))
          go_wp2_with fail
          go_ret
          exact ⟨by rw [HV.out]; rfl, below_nq HQ.out _⟩
        | true =>
          rw [hnm] at CN HV
          have hge := less_turned x.toList y.toList
          cases hle : (Op.bytesLess x.toList y.toList || x.toList == y.toList) with
          | true =>
            rw [hle] at HV hge
            clear hle
            simp only [Bool.not_true, Bool.not_false] at hge
            go_wp2_with fail
            go_quiet (first | (go_at_call 43; refine Calls.quiet_of_same (CN.out _)))
            go_wp2_with fail
            go_ret
            exact ⟨by rw [HV.out]; rfl, below_nq HQ.out _⟩
          | false =>
            rw [hle] at HV hge
            clear hle
            simp only [Bool.not_true, Bool.not_false] at hge
            go_wp2_with fail
            go_quiet (first | (go_at_call 43; refine Calls.quiet_of_same (CN.out _)))
            go_wp2_with fail
            go_roundw
            case rel => exact ⟨k + 1, by omega, congrArg _ (wrap_s HL.out hlt), Lib.hid (by rw [HV.out]; rfl), below_nq HQ.out _⟩
            case measure => rw [wrap_s HL.out hlt]; exact int_less hlt
    · obtain rfl : k = n := by omega
      have HE : Hid (R = true) := Lib.hid (by
        rw [HK.out]
        by_cases he : ns = []
        · subst he; have := HN.out; simp at this; subst this; rfl
        · rw [HN.out]; exact risesAt_end ns he)
      go_wp2_with fail
      go_ret
      rw [HE.out]
      exact ⟨rfl, HQ.out⟩
end Go.Proofs.YtfppemgagifmpaaDoor
