/- The reader's brackets of an object. Conditions: those that each theorem names. -/
import Derived.Test.YtdooeedemgmpiaaDoorJsObjOne
import Derived.Test.YtdooeedemgmpiaaDoorJsParts
namespace Go.Proofs.YtdooeedemgmpiaaDoor
set_option linter.unusedVariables false
open Go Go.RowKit Js

/-- What an object has so far. -/
structure OSt (R P0 PS P1 P2 M base : Nat) (deep : Int) (acc : List (ByteArray × J)) (w : World) : Prop where
  row : ORow R P0 PS P1 P2 M base deep (acc.map (·.1)) (acc.map (·.2)) w
  seen : Seen M (acc.map (·.1)) w
theorem OSt.keep {R P0 PS P1 P2 M base : Nat} {deep : Int} {acc : List (ByteArray × J)} {w w' : World} (h : OSt R P0 PS P1 P2 M base deep acc w) (g : Gr (one' R) w w') (h0 : R < P0) (h1 : P0 < P1) (h2 : P1 < P2) (h3 : P2 < M) (h4 : M < PS) (h5 : PS < base) : OSt R P0 PS P1 P2 M base deep acc w' :=
  ⟨h.row.keep g.two h0 h1 h2 h3 h4 h5, h.seen.kept (g.block M h.seen.lt (fun e => by unfold one' at e; omega))⟩
theorem Gr.turnedQ {R P2 M base : Nat} {w w' : World} (h : Gr (one' R) w w') : Gr (Go.Proofs.YtdooeedemgmpiaaDoor.turnedO R P2 M base) w w' := h.two.turnedO
def PartsO (R P0 PS P1 P2 M base : Nat) (deep : Int) (s : ByteArray) (x : Js.R (List (ByteArray × J))) (w : World) (e : Ending) (w' : World) : Prop :=
  ∃ ns js, e = .returned (.int .i64 x.err) ∧ (∀ ps r, x = .ok ps r → ns = ps.map (·.1) ∧ js = ps.map (·.2)) ∧ ORow R P0 PS P1 P2 M base deep ns js w' ∧ Gr (turnedO R P2 M base) w w' ∧ Rd R s x.rest w'
def PartO (R P0 PS P1 P2 M base : Nat) (deep : Int) (s : ByteArray) (one : List (ByteArray × J) → Bs → Js.R (ByteArray × J)) (close : UInt8) (x : Js.R (List (ByteArray × J))) (n : Nat) (w : World) (g : Nat) (wr : World) : Prop :=
  ∃ acc l', OSt R P0 PS P1 P2 M base deep acc wr ∧ Rd R s l' wr ∧ Gr (turnedO R P2 M base) w wr ∧ items one close g acc l' = x ∧ l'.length < g ∧ acc.length + g ≤ n
set_option maxHeartbeats 2000000 in
set_option maxRecDepth 100000 in
theorem parts_obj (d : Nat) (hv : ValueOk d) (hd : d ≤ 32) (R P0 PS P1 P2 M base : Nat) (s : ByteArray) (b : UInt8) (l : Bs) (w : World) (hL : OSt R P0 PS P1 P2 M base ((32 : Int) - d) [] w) (h : Rd R s (b :: l) w) (hs : s.size ≤ 16777215) (G : Gl w) (hR : gN ≤ R)
    (h0 : R < P0) (h1 : P0 < P1) (h2 : P1 < P2) (h3 : P2 < M) (h4 : M < PS) (h5 : PS < base) (hb : base ≤ w.heap.size) :
    Calls Tryd.prog 44 #[.pointer (some ⟨R, 0, none⟩), .int .u8 125, .func (.func 45) #[] #[.pointer (some ⟨P0, 0, none⟩), .pointer (some ⟨PS, 0, none⟩), .pointer (some ⟨P1, 0, none⟩), .pointer (some ⟨P2, 0, none⟩)]] w
      (PartsO R P0 PS P1 P2 M base ((32 : Int) - d) s (parts (pair (value d)) 125 l) w) := by
  have hs' : s.size ≤ maxLen := by unfold maxLen; omega
  have hs6 : s.size ≤ 16777216 := by omega
  have hle := h.le
  simp only [List.length_cons] at hle
  obtain ⟨k, hk1, hk2, c0, c1, f1, hr1⟩ := h.one
  have HR1 := Lib.hid hr1
  have HG1 : Hid (Gr (one' R) w (w.setCell ⟨R, 1, none⟩ (.int .i64 ((k : Int) + 1)))) := Lib.hid (Gr.setCell (S := one' R) (a := ⟨R, 1, none⟩) (Gr.refl _ _) (fun _ => rfl) _)
  have HL1 := Lib.hid (hL.keep HG1.out h0 h1 h2 h3 h4 h5)
  have GG := Lib.hid G
  have HRg := Lib.hid hR
  have HK := Lib.hid hk1
  clear h hr1 hL G hR hk1
  go_enter Tryd.func44, Tryd.ntmps44
  go_wp2_with fail
  refine (skip_any R s _ l _ HR1.out hs' (by decide)).mono ?_
  rw [skips_blank]
  rintro e w2 ⟨rfl, hg2, hr2⟩
  have HG2 := Lib.hid (HG1.out.trans hg2)
  have HL2 := Lib.hid (HL1.out.keep hg2 h0 h1 h2 h3 h4 h5)
  have HR2 := Lib.hid hr2
  clear hg2 hr2
  go_wp2_with fail
  refine (next_any R s _ _ HR2.out hs').mono ?_
  rintro e w3 ⟨rfl, n3, rfl⟩
  have HH := Lib.hid (head_is (skipB l) 125 (by decide))
  by_cases hh : headIs (· == 125) (skipB l) = true
  · have hx : (headZ (skipB l) == 125) = true := HH.out.trans hh
    obtain ⟨l2, hl2⟩ : ∃ l2, skipB l = 125 :: l2 := by
      generalize skipB l = m at hh
      cases m with
      | nil => simp [headIs] at hh
      | cons c m => simp [headIs] at hh; exact ⟨m, by rw [hh]⟩
    have HF : Hid (parts (pair (value d)) 125 l = .ok [] l2) := Lib.hid (by unfold parts; rw [if_pos hh, hl2]; rfl)
    have hr3 := HR2.out.drewN n3
    rw [hl2] at hr3
    obtain ⟨k', hk1, hk2', d0, d1, e1, hr4⟩ := hr3.one
    have HR4 := Lib.hid hr4
    have HL3 := Lib.hid (HL2.out.keep ((Gr.refl (one' R) w2).drewN n3) h0 h1 h2 h3 h4 h5)
    clear hr3 hr4 hh hl2 hk1
    go_wp2_with fail
    go_ret
    have g5 := Gr.setCell (S := one' R) (a := ⟨R, 1, none⟩) (Gr.refl (one' R) (w2.drewN n3)) (fun _ => rfl) (.int .i64 ((k' : Int) + 1))
    refine ⟨_, _, by rw [HF.out]; rfl, (by rw [HF.out]; intro a b hab; cases hab; exact ⟨rfl, rfl⟩), (HL3.out.keep g5 h0 h1 h2 h3 h4 h5).row, (HG2.out.drewN n3 |>.trans g5).turnedQ, by rw [HF.out]; exact HR4.out⟩
  · have hx : (headZ (skipB l) == 125) = false := HH.out.trans (by simpa using hh)
    have HF : Hid (parts (pair (value d)) 125 l = items (pair (value d)) 125 (l.length + 1) [] (skipB l)) := Lib.hid (by unfold parts; rw [if_neg hh])
    have H0 : Hid (PartO R P0 PS P1 P2 M base ((32 : Int) - d) s (pair (value d)) 125 (parts (pair (value d)) 125 l) (l.length + 1) w (l.length + 1) (w2.drewN n3)) :=
      Lib.hid ⟨[], skipB l, HL2.out.keep ((Gr.refl (one' R) w2).drewN n3) h0 h1 h2 h3 h4 h5, HR2.out.drewN n3, (HG2.out.drewN n3).turnedQ, HF.out.symm, by have := skipB_le l; omega, by simp⟩
    clear hh c0 c1 f1
    go_wp2_with fail
    go_loopg [7] (l.length + 1) (fun g _ wr => PartO R P0 PS P1 P2 M base ((32 : Int) - d) s (pair (value d)) 125 (parts (pair (value d)) 125 l) (l.length + 1) w g wr)
    case atStart => exact H0.out
    case round =>
      obtain ⟨acc, l', hl, hr, hg, hit, hlt, hn⟩ := hrel
      obtain ⟨m, rfl⟩ : ∃ m, gk = m + 1 := ⟨gk - 1, by omega⟩
      have hGl : Gl wr := GG.out.gr hg fun b hb' hbb => by
        have := HRg.out
        rcases hbb with e | e | e | e <;> omega
      have hone := obj_one d hv hd R P0 PS P1 P2 M base acc _ _ rfl rfl s l' wr hl.row hl.seen hr hs hGl HRg.out h0 h1 h2 h3 h4 h5 (Nat.le_trans hb hg.size) (by omega)
      have HG5 := Lib.hid hg
      have HGB : Hid (base ≤ wr.heap.size) := Lib.hid (Nat.le_trans hb hg.size)
      have HLT := Lib.hid hlt
      have HNN := Lib.hid hn
      have hval := pair_sound (value_sound d) acc l'
      cases hx5 : pair (value d) acc l' with
      | no e r =>
        have he := hval.err e r hx5
        unfold isErr at he
        have HI : Hid (parts (pair (value d)) 125 l = .no e r) := Lib.hid (by rw [← hit]; exact items_no hx5)
        rw [hx5] at hone
        have HO := Lib.hid hone
        have he0 : (e == 0) = false := by simp; omega
        clear hl hr hg hit hlt hn hGl hone hval hx5 he
        go_wp2_with fail
        refine HO.out.mono ?_
        rintro e' w6 ⟨ns, js, rfl, hl6, hj, hg6, hr6⟩
        have HL6 := Lib.hid hl6
        have HG6 := Lib.hid hg6
        have HR6 := Lib.hid hr6
        clear hj hl6 hg6 hr6
        unfold Js.R.err
        go_wp2_with fail
        go_ret
        refine ⟨ns, js, by rw [HI.out]; rfl, (by rw [HI.out]; intro a b hab; cases hab), HL6.out, HG5.out.trans HG6.out, by rw [HI.out]; exact HR6.out⟩
      | ok a r =>
        rw [hx5] at hone hval
        have hle5 : r.length ≤ l'.length := hval.le
        have HI : Hid (parts (pair (value d)) 125 l = match skipB r with | [] => .no eJson [] | c :: r' => if c = 125 then .ok (acc ++ [a]) r' else if c = 44 then items (pair (value d)) 125 m (acc ++ [a]) (skipB r') else .no eJson (c :: r')) := Lib.hid (by rw [← hit]; exact items_ok hx5)
        have HO := Lib.hid hone
        have HLE := Lib.hid hle5
        clear hl hr hg hit hlt hn hGl hone hval hx5 hle5
        go_wp2_with fail
        refine HO.out.mono ?_
        rintro e' w6 ⟨ns, js, rfl, hl6, hj, hg6, hr6⟩
        obtain ⟨rfl, rfl, hse6⟩ := hj a r rfl
        have HL6 : Hid (OSt R P0 PS P1 P2 M base ((32 : Int) - d) (acc ++ [a]) w6) := Lib.hid ⟨hl6, hse6⟩
        clear hse6
        have HG6 := Lib.hid (HG5.out.trans hg6)
        have HR6 := Lib.hid hr6
        clear hj hl6 hg6 hr6
        unfold Js.R.err
        go_wp2_with fail
        refine (skip_any R s _ r _ HR6.out hs' (by decide)).mono ?_
        rw [skips_blank]
        rintro e' w7 ⟨rfl, hg7, hr7⟩
        have HL7 := Lib.hid (HL6.out.keep hg7 h0 h1 h2 h3 h4 h5)
        have HG7 := Lib.hid (HG6.out.trans hg7.turnedQ)
        have HR7 := Lib.hid hr7
        clear hg7 hr7
        go_wp2_with fail
        refine (next_any R s _ _ HR7.out hs').mono ?_
        rintro e' w8 ⟨rfl, n8, rfl⟩
        have HH8 := Lib.hid (head_is (skipB r) 125 (by decide))
        have hg8 := (Gr.refl (one' R) w7).drewN n8
        have HL8 := Lib.hid (HL7.out.keep hg8 h0 h1 h2 h3 h4 h5)
        have HG8 := Lib.hid (HG7.out.drewN n8)
        have HR8 := Lib.hid (HR7.out.drewN n8)
        clear hg8
        have hsk := skipB_le r
        cases hsr : skipB r with
        | nil =>
          have hx8 : (headZ ([] : Bs) == 125) = false := by rfl
          rw [hsr] at HI
          have hR8 := HR8.out
          rw [hsr] at hR8
          have HR8' := Lib.hid hR8
          have HS := Lib.hid hsr
          clear hsr hR8 hsk
          go_wp2_with fail
          refine (take_t R s _ [] _ HR8'.out hs' (by decide) false rfl).mono ?_
          rintro e' w9 ⟨rfl, hg9, hr9⟩
          have HL9 := Lib.hid (HL8.out.keep hg9 h0 h1 h2 h3 h4 h5)
          have HG9 := Lib.hid (HG8.out.trans hg9.turnedQ)
          have HR9 := Lib.hid hr9
          clear hg9 hr9
          go_wp2_with fail
          go_ret
          exact ⟨_, _, by rw [HI.out]; rfl, (by rw [HI.out]; intro a b hab; cases hab), HL9.out.row, HG9.out, by rw [HI.out]; exact HR9.out⟩
        | cons c r' =>
          have HR8' := HR8.out
          rw [hsr] at HR8'
          rw [hsr] at hsk
          simp only [List.length_cons] at hsk
          have HSK := Lib.hid hsk
          by_cases h125 : c = 125
          · have hx8 : (headZ (c :: r') == 125) = true := by rw [h125]; rfl
            have HI2 : Hid (parts (pair (value d)) 125 l = .ok (acc ++ [a]) r') := Lib.hid (by rw [HI.out, hsr]; simp [h125])
            obtain ⟨k', hk1, hk2', d0, d1, e1, hr4⟩ := HR8'.one
            have HR9 := Lib.hid hr4
            have g9 := Gr.setCell (S := one' R) (a := ⟨R, 1, none⟩) (Gr.refl (one' R) (w7.drewN n8)) (fun _ => rfl) (.int .i64 ((k' : Int) + 1))
            have HL9 := Lib.hid (HL8.out.keep g9 h0 h1 h2 h3 h4 h5)
            have HG9 := Lib.hid (HG8.out.trans g9.turnedQ)
            clear hr4 hsr hk1 HR8' hsk g9 h125
            go_wp2_with fail
            go_ret
            exact ⟨_, _, by rw [HI2.out]; rfl, (by rw [HI2.out]; intro a b hab; cases hab; exact ⟨rfl, rfl⟩), HL9.out.row, HG9.out, by rw [HI2.out]; exact HR9.out⟩
          · have hx8 : (headZ (c :: r') == 125) = false := by
              have := HH8.out
              rw [hsr] at this
              refine this.trans ?_
              simpa [headIs] using h125
            have HRC := Lib.hid HR8'
            by_cases h44 : c = 44
            · have HI2 : Hid (parts (pair (value d)) 125 l = items (pair (value d)) 125 m (acc ++ [a]) (skipB r')) := Lib.hid (by rw [HI.out, hsr]; simp [h125, h44])
              have ht : takes ⟨#[44]⟩ (c :: r') = true := by rw [takes_one, h44]; rfl
              have HT := Lib.hid ht
              clear hsr HR8' hsk h125 h44 ht
              go_wp2_with fail
              refine (take_t R s _ _ _ HRC.out hs' (by decide) true HT.out).mono ?_
              rintro e' w9 ⟨rfl, hg9, hr9⟩
              have HL9 := Lib.hid (HL8.out.keep hg9 h0 h1 h2 h3 h4 h5)
              have HG9 := Lib.hid (HG8.out.trans hg9.turnedQ)
              have HR9 := Lib.hid hr9
              clear hg9 hr9
              go_wp2_with fail
              refine (skip_any R s _ r' _ HR9.out hs' (by decide)).mono ?_
              rw [skips_blank]
              rintro e' w10 ⟨rfl, hg10, hr10⟩
              have HN : Hid (PartO R P0 PS P1 P2 M base ((32 : Int) - d) s (pair (value d)) 125 (parts (pair (value d)) 125 l) (l.length + 1) w m w10) :=
                Lib.hid ⟨acc ++ [a], skipB r', HL9.out.keep hg10 h0 h1 h2 h3 h4 h5, hr10, HG9.out.trans hg10.turnedQ, HI2.out.symm, by
                  have h1 := skipB_le r'; have h2 := HSK.out; have h3 := HLE.out; have h4 := HLT.out; omega, by
                  have := HNN.out; rw [List.length_append]; simp; omega⟩
              clear hg10 hr10
              go_wp2_with fail
              go_roundg m
              case rel => exact HN.out
              case measure => omega
            · have HI2 : Hid (parts (pair (value d)) 125 l = .no eJson (c :: r')) := Lib.hid (by rw [HI.out, hsr]; simp [h125, h44])
              have ht : takes ⟨#[44]⟩ (c :: r') = false := by rw [takes_one]; simpa [headIs] using h44
              have HT := Lib.hid ht
              clear hsr HR8' hsk h125 h44 ht
              go_wp2_with fail
              refine (take_t R s _ _ _ HRC.out hs' (by decide) false HT.out).mono ?_
              rintro e' w9 ⟨rfl, hg9, hr9⟩
              have HL9 := Lib.hid (HL8.out.keep hg9 h0 h1 h2 h3 h4 h5)
              have HG9 := Lib.hid (HG8.out.trans hg9.turnedQ)
              have HR9 := Lib.hid hr9
              clear hg9 hr9
              go_wp2_with fail
              go_ret
              exact ⟨_, _, by rw [HI2.out]; rfl, (by rw [HI2.out]; intro a b hab; cases hab), HL9.out.row, HG9.out, by rw [HI2.out]; exact HR9.out⟩
end Go.Proofs.YtdooeedemgmpiaaDoor
