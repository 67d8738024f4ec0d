/- The walk of the law JsonDeep. Conditions: those that each theorem names. -/
import Derived.Test.YtihcihpndckfjaaDoorJsAwake
import Derived.Test.YtihcihpndckfjaaDoorJsDpPl
namespace Go.Proofs.YtihcihpndckfjaaDoor
set_option linter.unusedVariables false
open Go Go.RowKit Js

def txt (l : Bs) : ByteArray := ⟨l.toArray⟩
theorem txt_append (a b : Bs) : txt a ++ txt b = txt (a ++ b) := by
  apply ByteArray.ext
  show (txt a ++ txt b).data = _
  simp [txt, ByteArray.append_eq]
theorem txt_size (l : Bs) : (txt l).size = l.length := by simp [txt, ByteArray.size]
theorem txt_data (l : Bs) : (txt l).data.toList = l := by simp [txt]
/-- Where the walk to the innermost value stands: so many more are within. -/
structure DpR (w : World) (P : Nat) (ob : Bool) (m : Nat) (x : World) : Prop where
  gr : Gr none' w x
  new : w.heap.size ≤ P
  row : ∃ np nc lp lc, x.heap[P]? = some (.cells #[.int .i64 (nest ob m).kind, .int .i64 (nest ob m).num, .string (nest ob m).text, .slice np (nest ob m).names.length nc, .slice lp (nest ob m).list.length lc] 25 (0, 0)) ∧ KidsAt (fun b => b < P) x lp 0 (nest ob m).list
theorem nest_list (ob : Bool) (m : Nat) : (nest ob (m + 1)).list = [nest ob m] := by cases ob <;> rfl
theorem DpR.in {w x : World} {P : Nat} {ob : Bool} {m : Nat} (h : DpR w P ob (m + 1) x) : ∃ (g off lc : Nat) (a0 a1 : Int) (a2 : ByteArray) (np : Option Addr) (y3 nc : Nat) (lp : Option Addr) (y4 lc' : Nat) (v0 v1 v2 v3 : Value),
    (x.cell? ⟨P, 0, none⟩ = some v0 ∧ x.cell? ⟨P, 1, none⟩ = some v1 ∧ x.cell? ⟨P, 2, none⟩ = some v2 ∧ x.cell? ⟨P, 3, none⟩ = some v3) ∧ (x.frozen? ⟨P, 0, none⟩ = false ∧ x.frozen? ⟨P, 1, none⟩ = false ∧ x.frozen? ⟨P, 2, none⟩ = false ∧ x.frozen? ⟨P, 3, none⟩ = false ∧ x.frozen? ⟨P, 4, none⟩ = false) ∧
    x.cell? ⟨P, 4, none⟩ = some (.slice (some ⟨g, off, none⟩) 1 lc) ∧ x.cell? ⟨g, off, none⟩ = some (.int .i64 a0) ∧ x.cell? ⟨g, off + 1, none⟩ = some (.int .i64 a1) ∧ x.cell? ⟨g, off + 2, none⟩ = some (.string a2) ∧ x.cell? ⟨g, off + 3, none⟩ = some (.slice np y3 nc) ∧ x.cell? ⟨g, off + 4, none⟩ = some (.slice lp y4 lc') ∧ g ≠ P ∧
    DpR w P ob m (five x P (.int .i64 a0) (.int .i64 a1) (.string a2) (.slice np y3 nc) (.slice lp y4 lc')) := by
  obtain ⟨np0, nc0, lp0, lc0, hr, hk⟩ := h.row
  rw [nest_list] at hk hr
  obtain ⟨g, off, v, rfl, hg, hgl, hf, hj⟩ := hk.at 0 (by simp)
  obtain ⟨np, nc, lp, lc, hv, hn, hkk⟩ := hj.five
  subst hv
  obtain ⟨a, b, c, d, e, he, hc⟩ := hf
  simp only [Value.agg.injEq] at he
  simp at he
  obtain ⟨rfl, rfl, rfl, rfl, rfl⟩ := he
  obtain ⟨c0, c1, c2, c3, c4⟩ := hc x rfl
  simp only [Nat.add_zero, Nat.zero_mul] at c0 c1 c2 c3 c4
  refine ⟨g, off, lc0, _, _, _, np, _, nc, lp, _, lc, .int .i64 (nest ob (m + 1)).kind, .int .i64 (nest ob (m + 1)).num, .string (nest ob (m + 1)).text, .slice np0 (nest ob (m + 1)).names.length nc0, ⟨by simp [World.cell?, hr], by simp [World.cell?, hr], by simp [World.cell?, hr], by simp [World.cell?, hr]⟩, ⟨by simp [World.frozen?, hr], by simp [World.frozen?, hr], by simp [World.frozen?, hr], by simp [World.frozen?, hr], by simp [World.frozen?, hr]⟩, ?_, c0, c1, c2, c3, c4, Nat.ne_of_lt hg, ⟨h.gr.five h.new _ _ _ _ _, h.new, np, nc, lp, lc, ?_, ?_⟩⟩
  · simp [World.cell?, hr]
  · exact five_at hr
  · exact KidsAt.frame (w := x) (fun _ _ h => h) (fun b hb _ => five_block (Nat.ne_of_lt hb) _ _ _ _ _) (by unfold five; simp) _ _ _ hkk
theorem DpR.new0 {w w1 : World} {ob : Bool} {m : Nat} {np : Option Addr} {nc : Nat} {lp : Option Addr} {lc : Nat} (hg : Gr none' w w1) (o : Obj)
    (h : JAt (fun b => b < w1.heap.size) w1 (nest ob m) (.agg #[.int .i64 (nest ob m).kind, .int .i64 (nest ob m).num, .string (nest ob m).text, .slice np (nest ob m).names.length nc, .slice lp (nest ob m).list.length lc])) :
    DpR w (w1.heap.size + 1) ob m ((w1.alloc o).alloc (.cells #[.int .i64 (nest ob m).kind, .int .i64 (nest ob m).num, .string (nest ob m).text, .slice np (nest ob m).names.length nc, .slice lp (nest ob m).list.length lc] 25)) := by
  obtain ⟨np', nc', lp', lc', hv, hn, hk⟩ := h.five
  simp only [Value.agg.injEq] at hv
  simp at hv
  obtain ⟨⟨rfl, rfl⟩, rfl, rfl⟩ := hv
  have b1 := heap_alloc_new (w1.alloc o) (.cells #[.int .i64 (nest ob m).kind, .int .i64 (nest ob m).num, .string (nest ob m).text, .slice np (nest ob m).names.length nc, .slice lp (nest ob m).list.length lc] 25)
  rw [show (w1.alloc o).heap.size = w1.heap.size + 1 by simp] at b1
  refine ⟨(hg.alloc _).alloc _, by have := hg.size; omega, _, _, _, _, b1, ?_⟩
  exact KidsAt.frame (w := w1) (fun b hb _ => by omega) (fun b _ hb => (Below.heap_alloc _ _ _ (by simp; omega)).trans (Below.heap_alloc _ _ _ hb)) (by simp; omega) _ _ _ hk
theorem DpR.done {w x : World} {P : Nat} {ob : Bool} (h : DpR w P ob 0 x) : x.cell? ⟨P, 0, none⟩ = some (.int .i64 3) ∧ x.cell? ⟨P, 1, none⟩ = some (.int .i64 1) := by
  obtain ⟨np, nc, lp, lc, hr, -⟩ := h.row
  exact ⟨by simp [World.cell?, hr]; rfl, by simp [World.cell?, hr]; rfl⟩
set_option maxHeartbeats 2000000 in
set_option maxRecDepth 100000 in
theorem deep_walk (n0 : Int) (ob : Bool) (w : World) (G : Gl w) :
    Calls Tryd.prog 8 #[.int .i64 n0, .bool ob] w fun e w' => e = .returned (.bool true) ∧ Gr none' w w' := by
  have GG := Lib.hid G
  clear G
  obtain ⟨N, hN⟩ : ∃ N : Nat, (N : Int) = min (max n0 1) 200 := ⟨(min (max n0 1) 200).toNat, by omega⟩
  have hN0 : N ≤ 200 := by omega
  have hN1 : 1 ≤ N := by omega
  have HNN := Lib.hid hN
  clear hN
  go_enter Tryd.func8, Tryd.ntmps8
  go_wp2_with fail
  rw [← HNN.out]
  go_loop [5, 6, 7] (fun a b i => ∃ q k : Nat, q ≤ N ∧ Hid (q = k + 1) ∧ i = .int .i64 q ∧ a = .string (txt (opens ob k)) ∧ b = .string (txt (shuts ob k))) (fun _ _ i => N - (intOf i).toNat)
  case atStart => exact ⟨1, 0, hN1, Lib.hid rfl, rfl, rfl, rfl⟩
  case round =>
    obtain ⟨q, k, hq, HQ, rfl, rfl, rfl⟩ := hrel
    have hk : k ≤ 200 := by have := HQ.out; omega
    by_cases hlt : q < N
    · cases ob with
      | false =>
        have z1 : (txt (opens false k)).size + 1 ≤ 9223372036854775807 := by rw [txt_size, opens_len]; simp [opn]; omega
        have z2 : 1 + (txt (shuts false k)).size ≤ 9223372036854775807 := by rw [txt_size, shuts_len]; simp [cls]; omega
        have HE1 : Hid (txt (opens false k) ++ ⟨#[91]⟩ = txt (opens false (k + 1))) := Lib.hid (by rw [opens_next, ← txt_append]; rfl)
        have HE2 : Hid (⟨#[93]⟩ ++ txt (shuts false k) = txt (shuts false (k + 1))) := Lib.hid (by rw [shuts_next, ← txt_append]; rfl)
        have HQ2 : Hid (q + 1 = k + 1 + 1) := Lib.hid (by rw [HQ.out])
        go_wp2_with fail
        go_round
        case rel => exact ⟨q + 1, k + 1, by omega, HQ2, by go_num, by rw [HE1.out], by rw [HE2.out]⟩
        case measure => simp [intOf]; omega
      | true =>
        have z1 : (txt (opens true k)).size + 5 ≤ 9223372036854775807 := by rw [txt_size, opens_len]; simp [opn]; omega
        have z2 : 1 + (txt (shuts true k)).size ≤ 9223372036854775807 := by rw [txt_size, shuts_len]; simp [cls]; omega
        have HE1 : Hid (txt (opens true k) ++ ⟨#[123, 34, 97, 34, 58]⟩ = txt (opens true (k + 1))) := Lib.hid (by rw [opens_next, ← txt_append]; rfl)
        have HE2 : Hid (⟨#[125]⟩ ++ txt (shuts true k) = txt (shuts true (k + 1))) := Lib.hid (by rw [shuts_next, ← txt_append]; rfl)
        have HQ2 : Hid (q + 1 = k + 1 + 1) := Lib.hid (by rw [HQ.out])
        go_wp2_with fail
        go_round
        case rel => exact ⟨q + 1, k + 1, by omega, HQ2, by go_num, by rw [HE1.out], by rw [HE2.out]⟩
        case measure => simp [intOf]; omega
    · obtain rfl : q = N := by omega
      have hlen : ((txt (opens ob k) ++ ⟨#[49]⟩ ++ txt (shuts ob k)).data.toList) = deepT ob k := by
        rw [show (⟨#[49]⟩ : ByteArray) = txt [49] from rfl, txt_append, txt_append, txt_data, deep_is]
      have hsz : (txt (opens ob k)).size ≤ 2000 ∧ (txt (shuts ob k)).size ≤ 2000 := by
        rw [txt_size, txt_size, opens_len, shuts_len]
        cases ob <;> simp [opn, cls] <;> omega
      have z1 : (txt (opens ob k)).size + 1 ≤ 9223372036854775807 := by omega
      have z2 : (txt (opens ob k)).size + 1 + (txt (shuts ob k)).size ≤ 9223372036854775807 := by omega
      have hP := parse_any (txt (opens ob k) ++ ⟨#[49]⟩ ++ txt (shuts ob k)) w (by
        simp only [ByteArray.size_append', ByteArray.size_mk', List.size_toArray, List.length_cons, List.length_nil]
        omega) GG.out
      by_cases h32 : (q : Int) ≤ 32
      · have HPD := Lib.hid (parse_deep ob k (by have := HQ.out; omega) _ hlen)
        have HP : Hid (Calls Tryd.prog 9 #[.string (txt (opens ob k) ++ ⟨#[49]⟩ ++ txt (shuts ob k))] w fun e w' => ∃ np nc lp lc, e = .returned (.tuple #[.agg #[.int .i64 (nest ob k).kind, .int .i64 (nest ob k).num, .string (nest ob k).text, .slice np (nest ob k).names.length nc, .slice lp (nest ob k).list.length lc], .int .i64 0, .int .i64 0]) ∧ JAt (fun b => b < w'.heap.size) w' (nest ob k) (.agg #[.int .i64 (nest ob k).kind, .int .i64 (nest ob k).num, .string (nest ob k).text, .slice np (nest ob k).names.length nc, .slice lp (nest ob k).list.length lc]) ∧ Gr none' w w') := Lib.hid (hP.mono (by
          rintro e w' ⟨v, rfl, hj, hg⟩
          rw [HPD.out] at hj ⊢
          obtain ⟨np, nc, lp, lc, rfl, -, -⟩ := hj.five
          exact ⟨np, nc, lp, lc, rfl, JAt.frame (S' := fun b => b < w'.heap.size) (w' := w') (fun b hb _ => hb) (fun _ _ _ => rfl) (Nat.le_refl _) _ _ hj, hg⟩))
        clear hlen hsz hP HPD
        go_wp2_with fail
        refine HP.out.mono ?_
        rintro e w1 ⟨np, nc, lp, lc, rfl, hj, hg⟩
        have HD := Lib.hid (DpR.new0 hg (.cells #[.int .i64 (nest ob k).kind, .int .i64 (nest ob k).num, .string (nest ob k).text, .slice np (nest ob k).names.length nc, .slice lp (nest ob k).list.length lc] 25) hj)
        clear hj hg HP
        generalize (nest ob k).kind = y0 at *
        generalize (nest ob k).num = y1 at *
        generalize (nest ob k).text = y2 at *
        generalize (nest ob k).names.length = y3 at *
        generalize (nest ob k).list.length = y4 at *
        go_wp2_with fail
        generalize (w1.alloc (.cells #[.int .i64 y0, .int .i64 y1, .string y2, .slice np y3 nc, .slice lp y4 lc] 25)).alloc (.cells #[.int .i64 y0, .int .i64 y1, .string y2, .slice np y3 nc, .slice lp y4 lc] 25) = W0 at *
        generalize w1.heap.size + 1 = P at *
        go_loopw [12] (fun i wr => ∃ r m : Nat, r ≤ q ∧ Hid (r + m = q) ∧ i = .int .i64 r ∧ DpR w P ob m wr) (fun i _ => q - (intOf i).toNat)
        case atStart => exact ⟨1, k, by omega, Lib.hid (by have := HQ.out; omega), rfl, HD.out⟩
        case round =>
          obtain ⟨r, m, hr, HRM, rfl, hdp⟩ := hrel
          have HDP := Lib.hid hdp
          clear hdp
          by_cases hlt : r < q
          · obtain ⟨m', rfl⟩ : ∃ m', m = m' + 1 := ⟨m - 1, by have := HRM.out; omega⟩
            obtain ⟨g, off, lc1, a0, a1, a2, np1, x3, nc1, lp1, x4, lc2, v0, v1, v2, v3, ⟨d0, d1, d2, d3⟩, ⟨f0, f1, f2, f3, f4⟩, d4, c0, c1, c2, c3, c4, hgp, hn⟩ := HDP.out.in
            have HN := Lib.hid hn
            have HRM2 : Hid (r + 1 + m' = q) := Lib.hid (by have := HRM.out; omega)
            clear hn
            go_wp2_with fail
            go_roundw
            case rel => exact ⟨r + 1, m', by omega, HRM2, by go_num, HN.out⟩
            case measure => simp [intOf]; omega
          · obtain rfl : r = q := by omega
            obtain rfl : m = 0 := by have := HRM.out; omega
            obtain ⟨d0, d1⟩ := HDP.out.done
            have HAW := Lib.hid (awake_yes _ (GG.out.weak HDP.out.gr))
            go_wp2_with fail
            refine HAW.out.mono ?_
            rintro e w2 ⟨rfl, hg2⟩
            have HG2 := Lib.hid (HDP.out.gr.trans hg2)
            clear hg2
            go_wp2_with fail
            go_ret
            exact ⟨rfl, HG2.out⟩
      · have HPD := Lib.hid (parse_over ob k (by have := HQ.out; omega) _ hlen)
        have HP : Hid (Calls Tryd.prog 9 #[.string (txt (opens ob k) ++ ⟨#[49]⟩ ++ txt (shuts ob k))] w fun e w' => ∃ np nc lp lc, e = .returned (.tuple #[.agg #[.int .i64 0, .int .i64 0, .string ByteArray.empty, .slice np 0 nc, .slice lp 0 lc], .int .i64 ((32 * (opn ob).length : Nat) : Int), .int .i64 31]) ∧ Gr none' w w') := Lib.hid (hP.mono (by
          rintro e w' ⟨v, rfl, hj, hg⟩
          rw [HPD.out] at hj ⊢
          obtain ⟨np, nc, lp, lc, rfl, -, -⟩ := hj.five
          exact ⟨np, nc, lp, lc, rfl, hg⟩))
        clear hlen hsz hP HPD
        cases ob
        all_goals
          go_wp2_with fail
          refine HP.out.mono ?_
          rintro e w1 ⟨np, nc, lp, lc, rfl, hg⟩
          have HG := Lib.hid (hg.alloc (.cells #[.int .i64 0, .int .i64 0, .string ByteArray.empty, .slice np 0 nc, .slice lp 0 lc] 25))
          have HAW := Lib.hid (awake_yes _ (GG.out.weak HG.out))
          clear hg HP
          go_wp2_with fail
          refine HAW.out.mono ?_
          rintro e w2 ⟨rfl, hg2⟩
          have HG2 := Lib.hid (HG.out.trans hg2)
          clear hg2
          go_wp2_with fail
          go_ret
          exact ⟨rfl, HG2.out⟩
end Go.Proofs.YtihcihpndckfjaaDoor
