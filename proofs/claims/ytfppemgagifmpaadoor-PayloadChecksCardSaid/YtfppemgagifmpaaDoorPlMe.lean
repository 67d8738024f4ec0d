/- The document's shape and May of a point: they tell the program's own. Conditions: those that each theorem names. -/
import Derived.Test.YtfppemgagifmpaaDoorPlMd
namespace Go.Proofs.YtfppemgagifmpaaDoor
set_option linter.unusedVariables false
open Go Go.RowKit Go.Shelf Pl
theorem infoTx : (Tryd.prog.info? 9).map (fun i => (i.zero, i.size, i.bytes)) = some (some (.string ⟨#[]⟩), 1, 16) := by kernel_rfl
def txs (L : List Nm) : List Value := L.map fun s => .string s
/-- A row of texts of one's own. -/
abbrev OwnT (w : World) (base : Nat) (v : Value) (L : List Nm) : Prop := w.ownsRow base 9 1 v L.length (txs L)
theorem OwnT.at {w : World} {base : Nat} {v : Value} {L : List Nm} (h : OwnT w base v L) : TxsAt w v L := by
  rcases h.2 with ⟨rfl, h0⟩ | ⟨g, cap, cur, rfl, hb, hg, h1, h2, h3, h4⟩
  · exact .inl ⟨List.length_eq_zero_iff.mp h0, none, 0, rfl⟩
  · refine .inr ⟨g, 0, cap, rfl, ?_, fun W hW j hj => ?_⟩
    · rcases Nat.lt_or_ge g w.heap.size with c | c
      · exact c
      · rw [Array.getElem?_eq_none c] at hg; cases hg
    · rw [cell_of_row _ _ _ _ _ _ (hW.trans hg), Nat.zero_add]
      have hj1 : j < L.length * 1 := by omega
      have e : (cur.toList.take (L.length * 1))[j]? = (txs L)[j]? := by rw [h4]
      rw [List.getElem?_take, if_pos hj1] at e
      rw [Array.getElem?_toList] at e
      rw [e]
      simp [txs, hj]
theorem ownT_nil (w : World) (base : Nat) : OwnT w base (.slice none 0 0) [] := World.ownsRow_nil _ _ _ _
theorem append_text {w : World} {base : Nat} {v : Value} {A : List Nm} (x : Nm) (h : OwnT w base v A) (hb : A.length ≤ 1048576) (hbase : base ≤ w.heap.size) :
    ∃ v' w', (∀ ty, (Builtin.append_ #[60, 60] ty #[v, .slice (some ⟨w.heap.size, 0, none⟩) 1 1]).run Tryd.prog (w.alloc (.cells #[.string x] 9)) = .ok v' w') ∧ OwnT w' base v' (A ++ [x]) ∧ Below base w w' := by
  obtain ⟨v', w', hr, ho, hg, _⟩ := append_el (cs := [.string x]) Tryd.underlying60 infoTx rfl (by decide) h rfl (fun u hu => by simp at hu; subst hu; rfl) (by omega) (by unfold maxLen; omega) hbase
  refine ⟨v', w', hr, ?_, hg⟩
  show World.ownsRow _ _ _ _ _ _ _
  rw [List.length_append]
  simpa [txs] using ho
theorem ownT_kept {w w' : World} {base : Nat} {v : Value} {L : List Nm} (h : OwnT w base v L) (hb : Below w.heap.size w w') : OwnT w' base v L := by
  refine ⟨h.1, ?_⟩
  rcases h.2 with h0 | ⟨g, cap, cur, rfl, h1, hg, h2⟩
  · exact .inl h0
  · have hlt : g < w.heap.size := by
      rcases Nat.lt_or_ge g w.heap.size with c | c
      · exact c
      · rw [Array.getElem?_eq_none c] at hg; cases hg
    exact .inr ⟨g, cap, cur, rfl, h1, (hb.block g hlt).trans hg, h2⟩
theorem take_map_snoc {α} {f : α → Nm} {L : List α} {k : Nat} {x : α} (h : L[k]? = some x) : ((L.take (k + 1)).map f) = (L.take k).map f ++ [f x] := by
  rw [List.take_add_one, h]; simp
theorem vecs_cell {w : World} {p : Option Addr} {n c : Nat} {L : List Vec} (h : VecsAt w (.slice p n c) L) {j : Nat} (hj : j < L.length) :
    ∃ g off x, p = some ⟨g, off, none⟩ ∧ IntsAt w x (L[j]).v ∧ ∀ W, Below w.heap.size w W → W.cell? ⟨g, off + j * 2, none⟩ = some (.string (L[j]).name) ∧ W.cell? ⟨g, off + j * 2 + 1, none⟩ = some x := by
  rcases h with ⟨rfl, _⟩ | ⟨g, off, c2, S, hs, hg, hc, hi⟩
  · cases hj
  · injection hs with e1 e2 e3
    exact ⟨g, off, S j, e1, hi j hj, fun W hW => hc W (hW.block g hg) j hj⟩
theorem outl_low {L : List Nm} {a b : Nat} (h : ¬ (a : Int) ≤ (L.length : Int) ∨ ¬ (L.length : Int) ≤ b) : outl L a b = false := by
  unfold outl
  rcases h with h | h <;> rw [decide_eq_false h] <;> simp
set_option maxHeartbeats 4000000 in
set_option maxRecDepth 100000 in
theorem rshape_any (i : Int) (vv fv : Value) (V : List Vec) (F : List Fld) (w : World) (hv : VecsAt w vv V) (hf : FldsAt w fv F) (kv : VecsOk V) (kf : FldsOk F) :
    Calls Tryd.prog 29 #[.agg #[.int .i64 i, vv, fv]] w fun e w' => e = .returned (.bool (ptOutl ⟨i, V, F⟩)) ∧ Below w.heap.size w w' := by
  obtain ⟨R, hR⟩ : ∃ R, R = ptOutl ⟨i, V, F⟩ := ⟨_, rfl⟩
  rw [← hR]
  have HV := Lib.hid hv
  have HF := Lib.hid hf
  have KV := Lib.hid kv
  have KF := Lib.hid kf
  obtain ⟨pv, cv, rfl⟩ := hv.form
  obtain ⟨pf, cf, rfl⟩ := hf.form
  unfold ptOutl idB maxId at hR
  have HR := Lib.hid hR
  clear hv hf kv kf hR
  obtain ⟨nv, hnv⟩ : ∃ n, n = V.length := ⟨_, rfl⟩
  obtain ⟨nf, hnf⟩ : ∃ n, n = F.length := ⟨_, rfl⟩
  rw [← hnv] at HV ⊢
  rw [← hnf] at HF ⊢
  have NV := Lib.hid hnv
  have NF := Lib.hid hnf
  clear hnv hnf
  obtain ⟨d0, d1, d2⟩ := cells3 w (.int .i64 i) (.slice pv nv cv) (.slice pf nf cf) 29
  have HB := Lib.hid (fresh_alloc w (.cells #[.int .i64 i, .slice pv nv cv, .slice pf nf cf] 29))
  have HZ : Hid ((w.alloc (.cells #[.int .i64 i, .slice pv nv cv, .slice pf nf cf] 29)).heap[w.heap.size]? = some (.cells #[.int .i64 i, .slice pv nv cv, .slice pf nf cf] 29 (0, 0))) := Lib.hid (heap_last w _)
  have HS : Hid (w.heap.size < (w.alloc (.cells #[.int .i64 i, .slice pv nv cv, .slice pf nf cf] 29)).heap.size) := Lib.hid (by simp)
  go_enter Tryd.func29, Tryd.ntmps29
  by_cases h1 : i < 1
  · have HX : Hid (R = false) := Lib.hid (by rw [HR.out, decide_eq_false (show ¬ 1 ≤ i by omega)]; rfl)
    go_wp2_with fail
    go_ret
    rw [HX.out]; exact ⟨rfl, HB.out⟩
  by_cases h2 : 4503599627370496 < i
  · have HX : Hid (R = false) := Lib.hid (by rw [HR.out, decide_eq_false (show ¬ i ≤ 4503599627370496 by omega)]; simp)
    go_wp2_with fail
    go_ret
    rw [HX.out]; exact ⟨rfl, HB.out⟩
  have HR2 : Hid (R = (outl (vNames V) 1 4 && outl (fNames F) 0 16)) := Lib.hid (by rw [HR.out, decide_eq_true (show 1 ≤ i by omega), decide_eq_true (show i ≤ 4503599627370496 by omega)]; rfl)
  have LV : Hid ((vNames V).length = nv) := Lib.hid (by rw [NV.out]; simp [vNames])
  have LF : Hid ((fNames F).length = nf) := Lib.hid (by rw [NF.out]; simp [fNames])
  clear HR
  by_cases h3 : (nv : Int) < 1
  · have HX : Hid (R = false) := Lib.hid (by rw [HR2.out, outl_low (.inl (by rw [LV.out]; omega))]; rfl)
    go_wp2_with fail
    go_ret
    rw [HX.out]; exact ⟨rfl, HB.out⟩
  by_cases h4 : (4 : Int) < (nv : Int)
  · have HX : Hid (R = false) := Lib.hid (by rw [HR2.out, outl_low (.inr (by rw [LV.out]; omega))]; rfl)
    go_wp2_with fail
    go_ret
    rw [HX.out]; exact ⟨rfl, HB.out⟩
  by_cases h5 : (16 : Int) < (nf : Int)
  · have HX : Hid (R = false) := Lib.hid (by rw [HR2.out, outl_low (L := fNames F) (.inr (by rw [LF.out]; omega))]; simp)
    go_wp2_with fail
    go_ret
    rw [HX.out]; exact ⟨rfl, HB.out⟩
  have HR3 : Hid (R = (rises ⟨#[]⟩ (vNames V) && rises ⟨#[]⟩ (fNames F))) := Lib.hid (by
    rw [HR2.out]
    unfold outl
    rw [LV.out, LF.out, decide_eq_true (show ((1 : Nat) : Int) ≤ (nv : Int) by omega), decide_eq_true (show (nv : Int) ≤ ((4 : Nat) : Int) by omega), decide_eq_true (show ((0 : Nat) : Int) ≤ (nf : Int) by omega), decide_eq_true (show (nf : Int) ≤ ((16 : Nat) : Int) by omega)]
    rfl)
  have hnv4 : nv ≤ 4 := by omega
  have hnf16 : nf ≤ 16 := by omega
  have VNL : Hid (nv ≤ maxLen) := Lib.hid (by unfold maxLen; omega)
  have FNL : Hid (nf ≤ maxLen) := Lib.hid (by unfold maxLen; omega)
  clear HR2
  go_wp2_with fail
  clear d0 d1 d2 h1 h2 h3 h4 h5
  generalize w.alloc (.cells #[.int .i64 i, .slice pv nv cv, .slice pf nf cf] 29) = W0 at *
  go_loopw [3, 5] (fun s i wr => ∃ k : Nat, k ≤ nv ∧ i = .int .i64 k ∧ OwnT wr W0.heap.size s ((V.take k).map fun x => x.name) ∧ Below W0.heap.size W0 wr) (fun _ i _ => nv - (intOf i).toNat)
  case atStart => exact ⟨0, Nat.zero_le _, rfl, ownT_nil _ _, Below.refl _ _⟩
  case round =>
    obtain ⟨k, hk, rfl, ho, hb⟩ := hrel
    obtain ⟨wz, rfl⟩ : ∃ wz : World, wz = wr := ⟨_, rfl⟩
    have HO := Lib.hid ho
    have HQ := Lib.hid hb
    have HW := Lib.hid (HB.out.trans (hb.mono HB.out.size))
    obtain ⟨d0, d1, d2⟩ := cells3_of ((hb.block _ HS.out).trans HZ.out)
    clear ho hb
    by_cases hlt : k < nv
    · have hlk : k < V.length := by rw [← NV.out]; exact hlt
      obtain ⟨g, off, x, rfl, hi, hc⟩ := vecs_cell HV.out hlk
      obtain ⟨c0, c1⟩ := hc wz HW.out
      have VX := Lib.hid (List.getElem?_eq_getElem hlk)
      generalize V[k] = y at c0 VX
      obtain ⟨v', w', hr, ho', hb'⟩ := append_text y.name HO.out (by rw [List.length_map, List.length_take]; omega) HQ.out.size
      have HO2 := Lib.hid ho'
      have HB2 := Lib.hid (HQ.out.trans hb')
      clear hc hi ho' hb' c1 hlk
      go_wp2_with (at_builtin; refine wpList_append_run rfl _ _ _ _ rfl _ _ _ _ rfl rfl hr ?_)
      go_roundw
      case rel => exact ⟨k + 1, by omega, by first | rfl | go_num, by rw [take_map_snoc VX.out]; exact HO2.out, HB2.out⟩
      case measure => simp [intOf]; omega
    · obtain rfl : k = nv := by omega
      have HN1 := HO.out
      have e1 : (V.take k).map (fun x => x.name) = vNames V := by rw [NV.out, List.take_length]; rfl
      rw [e1] at HN1
      obtain ⟨p3, c3, rfl⟩ := HN1.at.form
      have HA := Lib.hid HN1.at
      rw [LV.out] at HA ⊢
      clear HO e1 HN1
      go_wp2_with fail
      clear d0 d1 d2
      go_loopw [4, 6] (fun s i wr => ∃ j : Nat, j ≤ nf ∧ i = .int .i64 j ∧ OwnT wr wz.heap.size s ((F.take j).map fun x => x.name) ∧ Below wz.heap.size wz wr) (fun _ i _ => nf - (intOf i).toNat)
      case atStart => exact ⟨0, Nat.zero_le _, rfl, ownT_nil _ _, Below.refl _ _⟩
      case round =>
        obtain ⟨j, hj, rfl, ho, hb⟩ := hrel
        obtain ⟨wy, rfl⟩ : ∃ wy : World, wy = wr := ⟨_, rfl⟩
        have HO := Lib.hid ho
        have HQ2 := Lib.hid hb
        have HW2 := Lib.hid (HW.out.trans (hb.mono HW.out.size))
        obtain ⟨d0, d1, d2⟩ := cells3_of (((HQ.out.trans (hb.mono HQ.out.size)).block _ HS.out).trans HZ.out)
        clear ho hb
        by_cases hlt2 : j < nf
        · have hlk : j < F.length := by rw [← NF.out]; exact hlt2
          obtain ⟨g, off, rfl, hc⟩ := flds_cell HF.out hlk
          obtain ⟨c0, c1, c2, c3'⟩ := hc wy HW2.out
          have VX := Lib.hid (List.getElem?_eq_getElem hlk)
          generalize F[j] = y at c0 VX
          obtain ⟨v', w', hr, ho', hb'⟩ := append_text y.name HO.out (by rw [List.length_map, List.length_take]; omega) HQ2.out.size
          have HO2 := Lib.hid ho'
          have HB2 := Lib.hid (HQ2.out.trans hb')
          clear hc ho' hb' c1 c2 c3' hlk
          go_wp2_with (at_builtin; refine wpList_append_run rfl _ _ _ _ rfl _ _ _ _ rfl rfl hr ?_)
          go_roundw
          case rel => exact ⟨j + 1, by omega, by first | rfl | go_num, by rw [take_map_snoc VX.out]; exact HO2.out, HB2.out⟩
          case measure => simp [intOf]; omega
        · obtain rfl : j = nf := by omega
          have HN2 := HO.out
          have e1 : (F.take j).map (fun x => x.name) = fNames F := by rw [NF.out, List.take_length]; rfl
          rw [e1] at HN2
          obtain ⟨p4, c4, rfl⟩ := HN2.at.form
          have HA2 := Lib.hid HN2.at
          rw [LF.out] at HA2 ⊢
          have HC1 := Lib.hid (rnames_any (vNames V) _ wy (HA.out.below HQ2.out) (by rw [LV.out]; exact VNL.out) (fun x hx => by
            obtain ⟨y, hy, rfl⟩ := List.mem_map.1 hx
            exact room_len (KV.out.2 y hy).1))
          have HC2 := Lib.hid (fun W (hb : Below wy.heap.size wy W) => rnames_any (fNames F) _ W (HA2.out.below hb) (by rw [LF.out]; exact FNL.out) (fun x hx => by
            obtain ⟨y, hy, rfl⟩ := List.mem_map.1 hx
            exact room_len (KF.out.2 y hy).1))
          clear HO e1 HN2
          generalize rises ⟨#[]⟩ (vNames V) = ra at HR3 HC1
          generalize rises ⟨#[]⟩ (fNames F) = rb at HR3 HC2
          cases ra with
          | true =>
            go_wp2_with fail
            refine HC1.out.mono ?_
            rintro e w3 ⟨rfl, hb3⟩
            have HB3 := Lib.hid hb3
            clear hb3
            go_wp2_with fail
            refine (HC2.out _ HB3.out).mono ?_
            rintro e w4 ⟨rfl, hb4⟩
            have HB4 := Lib.hid (HW2.out.trans ((HB3.out.trans (hb4.mono HB3.out.size)).mono HW2.out.size))
            clear hb4
            go_wp2_with fail
            go_ret
            rw [HR3.out]; exact ⟨rfl, HB4.out⟩
          | false =>
            go_wp2_with fail
            refine HC1.out.mono ?_
            rintro e w3 ⟨rfl, hb3⟩
            have HB3 := Lib.hid (HW2.out.trans (hb3.mono HW2.out.size))
            clear hb3
            go_wp2_with fail
            go_ret
            rw [HR3.out]; exact ⟨rfl, HB3.out⟩
/-! ### May -/
theorem vec_ways (L : List Int) (n : Nat) (hn : n = L.length) : ((n : Int) < 1 ∧ vecB L = false) ∨ (¬ (n : Int) < 1 ∧ (64 : Int) < n ∧ vecB L = false) ∨ (¬ (n : Int) < 1 ∧ ¬ (64 : Int) < n ∧ vecB L = L.all partB) := by
  unfold vecB
  subst hn
  by_cases h1 : (L.length : Int) < 1
  · left; exact ⟨h1, by simp; omega⟩
  · right
    by_cases h2 : (64 : Int) < (L.length : Int)
    · left; exact ⟨h1, h2, by simp; omega⟩
    · right; refine ⟨h1, h2, ?_⟩
      rw [decide_eq_true (by omega), decide_eq_true (by omega)]; rfl
end Go.Proofs.YtfppemgagifmpaaDoor
