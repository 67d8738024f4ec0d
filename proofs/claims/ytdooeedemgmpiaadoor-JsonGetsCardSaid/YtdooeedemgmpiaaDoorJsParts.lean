/- The reader's brackets: what stands between them, read part by part. Conditions: those that each theorem names. -/
import Derived.Test.YtdooeedemgmpiaaDoorJsList
import Derived.Test.YtdooeedemgmpiaaDoorJsVPl
namespace Go.Proofs.YtdooeedemgmpiaaDoor
set_option linter.unusedVariables false
open Go Go.RowKit Js

theorem items_ok {α : Type} {one : List α → Bs → Js.R α} {close : UInt8} {k : Nat} {acc : List α} {l r : Bs} {a : α} (h : one acc l = .ok a r) :
    items one close (k + 1) acc l = match skipB r with | [] => .no eJson [] | c :: r' => if c = close then .ok (acc ++ [a]) r' else if c = 44 then items one close k (acc ++ [a]) (skipB r') else .no eJson (c :: r') := by
  simp only [items, h]
  cases skipB r <;> rfl
theorem items_no {α : Type} {one : List α → Bs → Js.R α} {close : UInt8} {k : Nat} {acc : List α} {l r : Bs} {e : Int} (h : one acc l = .no e r) : items one close (k + 1) acc l = .no e r := by
  simp only [items, h]
theorem Rd.one {R : Nat} {s : ByteArray} {c : UInt8} {l : Bs} {w : World} (h : Rd R s (c :: l) w) : ∃ k : Nat, (k : Int) + 1 = ((s.size - l.length : Nat) : Int) ∧ (k : Int) < s.size ∧ w.cell? ⟨R, 0, none⟩ = some (.string s) ∧ w.cell? ⟨R, 1, none⟩ = some (.int .i64 (k : Int)) ∧ w.frozen? ⟨R, 1, none⟩ = false ∧
    Rd R s l (w.setCell ⟨R, 1, none⟩ (.int .i64 ((k : Int) + 1))) := by
  obtain ⟨k, hk, e1, e2, _⟩ := h.head
  obtain ⟨c0, c1, f1⟩ := h.cells
  rw [e1] at c1
  refine ⟨k, by omega, by omega, c0, c1, f1, h.tail ?_⟩
  rw [e2, show ((k + 1 : Nat) : Int) = (k : Int) + 1 from rfl]
  exact heap_setCell_same _ _ _ _ _ _ h.block
theorem LSt.keep {R P0 P1 P2 base : Nat} {deep : Int} {js : List J} {w w' : World} (h : LSt R P0 P1 P2 base deep js w) (g : Gr (one' R) w w') (h0 : R < P0) (h1 : P0 < P1) (h2 : P1 < P2) (h3 : P2 < base) : LSt R P0 P1 P2 base deep js w' := by
  obtain ⟨p0, p1, lv, cells, p2, own, kid⟩ := h
  have hb : ∀ b, b < w.heap.size → b ≠ R → w'.heap[b]? = w.heap[b]? := fun b hlt hne => g.block b hlt hne
  have lt : ∀ {b : Nat} {o : Obj}, w.heap[b]? = some o → b < w.heap.size := fun e => (Array.getElem?_eq_some_iff.1 e).1
  exact ⟨(hb P0 (lt p0) (by omega)).trans p0, (hb P1 (lt p1) (by omega)).trans p1, lv, cells, (hb P2 (lt p2) (by omega)).trans p2, own.same (fun k hk => hb k (own.lt k hk).2 (by have := (own.lt k hk).1; omega)),
    kid.frame (fun _ _ _ hn => hn) (fun b hbb hlt _ => hb b hlt (by omega)) g.size⟩
theorem Gr.turned {R P2 base : Nat} {w w' : World} (h : Gr (one' R) w w') : Gr (turned R P2 base) w w' := h.mono fun b _ e => .inl e
def PartsP (R P0 P1 P2 base : Nat) (deep : Int) (s : ByteArray) (x : Js.R (List J)) (w : World) (e : Ending) (w' : World) : Prop :=
  ∃ js, e = .returned (.int .i64 x.err) ∧ (∀ js0 r, x = .ok js0 r → js = js0) ∧ LSt R P0 P1 P2 base deep js w' ∧ Gr (turned R P2 base) w w' ∧ Rd R s x.rest w'
/-- Where the loop over the parts stands. -/
def PartR (R P0 P1 P2 base : Nat) (deep : Int) (s : ByteArray) (one : List J → Bs → Js.R J) (close : UInt8) (x : Js.R (List J)) (n : Nat) (w : World) (g : Nat) (wr : World) : Prop :=
  ∃ acc l', LSt R P0 P1 P2 base deep acc wr ∧ Rd R s l' wr ∧ Gr (turned R P2 base) w wr ∧ items one close g acc l' = x ∧ l'.length < g ∧ acc.length + g ≤ n
set_option maxHeartbeats 2000000 in
set_option maxRecDepth 100000 in
theorem parts_list (d : Nat) (hv : ValueOk d) (hd : d ≤ 32) (R P0 P1 P2 base : Nat) (s : ByteArray) (b : UInt8) (l : Bs) (w : World) (hL : LSt R P0 P1 P2 base ((32 : Int) - d) [] w) (h : Rd R s (b :: l) w) (hs : s.size ≤ 16777215) (G : Gl w) (hR : gN ≤ R)
    (h0 : R < P0) (h1 : P0 < P1) (h2 : P1 < P2) (h3 : P2 < base) (hb : base ≤ w.heap.size) :
    Calls Tryd.prog 44 #[.pointer (some ⟨R, 0, none⟩), .int .u8 93, .func (.func 47) #[] #[.pointer (some ⟨P0, 0, none⟩), .pointer (some ⟨P1, 0, none⟩), .pointer (some ⟨P2, 0, none⟩)]] w
      (PartsP R P0 P1 P2 base ((32 : Int) - d) s (parts (fun _ => value d) 93 l) w) := by
  have hs' : s.size ≤ maxLen := by unfold maxLen; omega
  have hs6 : s.size ≤ 16777216 := by omega
  have hle := h.le
  simp only [List.length_cons] at hle
  obtain ⟨k, hk1, hk2, c0, c1, f1, hr1⟩ := h.one
  have HR1 := Lib.hid hr1
  have HG1 : Hid (Gr (one' R) w (w.setCell ⟨R, 1, none⟩ (.int .i64 ((k : Int) + 1)))) := Lib.hid (Gr.setCell (S := one' R) (a := ⟨R, 1, none⟩) (Gr.refl _ _) (fun _ => rfl) _)
  have HL1 := Lib.hid (hL.keep HG1.out h0 h1 h2 h3)
  have GG := Lib.hid G
  have HRg := Lib.hid hR
  have HK := Lib.hid hk1
  clear h hr1 hL G hR hk1
  go_enter Tryd.func44, Tryd.ntmps44
  go_wp2_with fail
  refine (skip_any R s _ l _ HR1.out hs' (by decide)).mono ?_
  rw [skips_blank]
  rintro e w2 ⟨rfl, hg2, hr2⟩
  have HG2 := Lib.hid (HG1.out.trans hg2)
  have HL2 := Lib.hid (HL1.out.keep hg2 h0 h1 h2 h3)
  have HR2 := Lib.hid hr2
  clear hg2 hr2
  go_wp2_with fail
  refine (next_any R s _ _ HR2.out hs').mono ?_
  rintro e w3 ⟨rfl, n3, rfl⟩
  have HH := Lib.hid (head_is (skipB l) 93 (by decide))
  by_cases hh : headIs (· == 93) (skipB l) = true
  · have hx : (headZ (skipB l) == 93) = true := HH.out.trans hh
    obtain ⟨l2, hl2⟩ : ∃ l2, skipB l = 93 :: l2 := by
      generalize skipB l = m at hh
      cases m with
      | nil => simp [headIs] at hh
      | cons c m => simp [headIs] at hh; exact ⟨m, by rw [hh]⟩
    have HF : Hid (parts (fun _ => value d) 93 l = .ok [] l2) := Lib.hid (by unfold parts; rw [if_pos hh, hl2]; rfl)
    have hr3 := HR2.out.drewN n3
    rw [hl2] at hr3
    obtain ⟨k', hk1, hk2', d0, d1, e1, hr4⟩ := hr3.one
    have HR4 := Lib.hid hr4
    have HL3 := Lib.hid (HL2.out.keep ((Gr.refl (one' R) w2).drewN n3) h0 h1 h2 h3)
    clear hr3 hr4 hh hl2 hk1
    go_wp2_with fail
    go_ret
    have g5 := Gr.setCell (S := one' R) (a := ⟨R, 1, none⟩) (Gr.refl (one' R) (w2.drewN n3)) (fun _ => rfl) (.int .i64 ((k' : Int) + 1))
    refine ⟨[], by rw [HF.out]; rfl, by rw [HF.out]; intro a b hab; injection hab, HL3.out.keep g5 h0 h1 h2 h3, (HG2.out.drewN n3 |>.trans g5).turned, by rw [HF.out]; exact HR4.out⟩
  · have hx : (headZ (skipB l) == 93) = false := HH.out.trans (by simpa using hh)
    have HF : Hid (parts (fun _ => value d) 93 l = items (fun _ => value d) 93 (l.length + 1) [] (skipB l)) := Lib.hid (by unfold parts; rw [if_neg hh])
    have H0 : Hid (PartR R P0 P1 P2 base ((32 : Int) - d) s (fun _ => value d) 93 (parts (fun _ => value d) 93 l) (l.length + 1) w (l.length + 1) (w2.drewN n3)) :=
      Lib.hid ⟨[], skipB l, HL2.out.keep ((Gr.refl (one' R) w2).drewN n3) h0 h1 h2 h3, HR2.out.drewN n3, (HG2.out.drewN n3).turned, HF.out.symm, by have := skipB_le l; omega, by simp⟩
    clear hh c0 c1 f1
    go_wp2_with fail
    go_loopg [7] (l.length + 1) (fun g _ wr => PartR R P0 P1 P2 base ((32 : Int) - d) s (fun _ => value d) 93 (parts (fun _ => value d) 93 l) (l.length + 1) w g wr)
    case atStart => exact H0.out
    case round =>
      obtain ⟨acc, l', hl, hr, hg, hit, hlt, hn⟩ := hrel
      obtain ⟨m, rfl⟩ : ∃ m, gk = m + 1 := ⟨gk - 1, by omega⟩
      have hGl : Gl wr := GG.out.gr hg fun b hb' hbb => by
        have := HRg.out
        rcases hbb with e | e | e <;> omega
      have hone := list_one d hv hd R P0 P1 P2 base acc s l' wr hl hr hs hGl HRg.out h0 h1 h2 h3 (Nat.le_trans hb hg.size) (by omega)
      have HG5 := Lib.hid hg
      have HGB : Hid (base ≤ wr.heap.size) := Lib.hid (Nat.le_trans hb hg.size)
      have HLT := Lib.hid hlt
      have HNN := Lib.hid hn
      have hval := value_sound d l'
      cases hx5 : value d l' with
      | no e r =>
        have he := hval.err e r hx5
        unfold isErr at he
        have HI : Hid (parts (fun _ => value d) 93 l = .no e r) := Lib.hid (by rw [← hit]; exact items_no hx5)
        rw [hx5] at hone
        have HO := Lib.hid hone
        have he0 : (e == 0) = false := by simp; omega
        clear hl hr hg hit hlt hn hGl hone hval hx5 he
        go_wp2_with fail
        refine HO.out.mono ?_
        rintro e' w6 ⟨j, rfl, hj, hl6, hg6, hr6⟩
        have HL6 := Lib.hid hl6
        have HG6 := Lib.hid hg6
        have HR6 := Lib.hid hr6
        clear hj hl6 hg6 hr6
        unfold Js.R.err
        go_wp2_with fail
        go_ret
        refine ⟨acc ++ [j], by rw [HI.out]; rfl, (by rw [HI.out]; intro a b hab; cases hab), HL6.out, HG5.out.trans HG6.out, by rw [HI.out]; exact HR6.out⟩
      | ok a r =>
        rw [hx5] at hone hval
        have hle5 : r.length ≤ l'.length := hval.le
        have HI : Hid (parts (fun _ => value d) 93 l = match skipB r with | [] => .no eJson [] | c :: r' => if c = 93 then .ok (acc ++ [a]) r' else if c = 44 then items (fun _ => value d) 93 m (acc ++ [a]) (skipB r') else .no eJson (c :: r')) := Lib.hid (by rw [← hit]; exact items_ok hx5)
        have HO := Lib.hid hone
        have HLE := Lib.hid hle5
        clear hl hr hg hit hlt hn hGl hone hval hx5 hle5
        go_wp2_with fail
        refine HO.out.mono ?_
        rintro e' w6 ⟨j, rfl, hj, hl6, hg6, hr6⟩
        obtain rfl := hj a r rfl
        have HL6 := Lib.hid hl6
        have HG6 := Lib.hid (HG5.out.trans hg6)
        have HR6 := Lib.hid hr6
        clear hj hl6 hg6 hr6
        unfold Js.R.err
        go_wp2_with fail
        refine (skip_any R s _ r _ HR6.out hs' (by decide)).mono ?_
        rw [skips_blank]
        rintro e' w7 ⟨rfl, hg7, hr7⟩
        have HL7 := Lib.hid (HL6.out.keep hg7 h0 h1 h2 h3)
        have HG7 := Lib.hid (HG6.out.trans hg7.turned)
        have HR7 := Lib.hid hr7
        clear hg7 hr7
        go_wp2_with fail
        refine (next_any R s _ _ HR7.out hs').mono ?_
        rintro e' w8 ⟨rfl, n8, rfl⟩
        have HH8 := Lib.hid (head_is (skipB r) 93 (by decide))
        have hg8 := (Gr.refl (one' R) w7).drewN n8
        have HL8 := Lib.hid (HL7.out.keep hg8 h0 h1 h2 h3)
        have HG8 := Lib.hid (HG7.out.drewN n8)
        have HR8 := Lib.hid (HR7.out.drewN n8)
        clear hg8
        have hsk := skipB_le r
        cases hsr : skipB r with
        | nil =>
          have hx8 : (headZ ([] : Bs) == 93) = false := by rfl
          rw [hsr] at HI
          have hR8 := HR8.out
          rw [hsr] at hR8
          have HR8' := Lib.hid hR8
          have HS := Lib.hid hsr
          clear hsr hR8 hsk
          go_wp2_with fail
          refine (take_t R s _ [] _ HR8'.out hs' (by decide) false rfl).mono ?_
          rintro e' w9 ⟨rfl, hg9, hr9⟩
          have HL9 := Lib.hid (HL8.out.keep hg9 h0 h1 h2 h3)
          have HG9 := Lib.hid (HG8.out.trans hg9.turned)
          have HR9 := Lib.hid hr9
          clear hg9 hr9
          go_wp2_with fail
          go_ret
          exact ⟨acc ++ [j], by rw [HI.out]; rfl, (by rw [HI.out]; intro a b hab; cases hab), HL9.out, HG9.out, by rw [HI.out]; exact HR9.out⟩
        | cons c r' =>
          have HR8' := HR8.out
          rw [hsr] at HR8'
          rw [hsr] at hsk
          simp only [List.length_cons] at hsk
          have HSK := Lib.hid hsk
          by_cases h93 : c = 93
          · have hx8 : (headZ (c :: r') == 93) = true := by rw [h93]; rfl
            have HI2 : Hid (parts (fun _ => value d) 93 l = .ok (acc ++ [j]) r') := Lib.hid (by rw [HI.out, hsr]; simp [h93])
            obtain ⟨k', hk1, hk2', d0, d1, e1, hr4⟩ := HR8'.one
            have HR9 := Lib.hid hr4
            have g9 := Gr.setCell (S := one' R) (a := ⟨R, 1, none⟩) (Gr.refl (one' R) (w7.drewN n8)) (fun _ => rfl) (.int .i64 ((k' : Int) + 1))
            have HL9 := Lib.hid (HL8.out.keep g9 h0 h1 h2 h3)
            have HG9 := Lib.hid (HG8.out.trans g9.turned)
            clear hr4 hsr hk1 HR8' hsk g9 h93
            go_wp2_with fail
            go_ret
            exact ⟨acc ++ [j], by rw [HI2.out]; rfl, (by rw [HI2.out]; intro a b hab; cases hab; rfl), HL9.out, HG9.out, by rw [HI2.out]; exact HR9.out⟩
          · have hx8 : (headZ (c :: r') == 93) = false := by
              have := HH8.out
              rw [hsr] at this
              refine this.trans ?_
              simpa [headIs] using h93
            have HRC := Lib.hid HR8'
            by_cases h44 : c = 44
            · have HI2 : Hid (parts (fun _ => value d) 93 l = items (fun _ => value d) 93 m (acc ++ [j]) (skipB r')) := Lib.hid (by rw [HI.out, hsr]; simp [h93, h44])
              have ht : takes ⟨#[44]⟩ (c :: r') = true := by rw [takes_one, h44]; rfl
              have HT := Lib.hid ht
              clear hsr HR8' hsk h93 h44 ht
              go_wp2_with fail
              refine (take_t R s _ _ _ HRC.out hs' (by decide) true HT.out).mono ?_
              rintro e' w9 ⟨rfl, hg9, hr9⟩
              have HL9 := Lib.hid (HL8.out.keep hg9 h0 h1 h2 h3)
              have HG9 := Lib.hid (HG8.out.trans hg9.turned)
              have HR9 := Lib.hid hr9
              clear hg9 hr9
              go_wp2_with fail
              refine (skip_any R s _ r' _ HR9.out hs' (by decide)).mono ?_
              rw [skips_blank]
              rintro e' w10 ⟨rfl, hg10, hr10⟩
              have HN : Hid (PartR R P0 P1 P2 base ((32 : Int) - d) s (fun _ => value d) 93 (parts (fun _ => value d) 93 l) (l.length + 1) w m w10) :=
                Lib.hid ⟨acc ++ [j], skipB r', HL9.out.keep hg10 h0 h1 h2 h3, hr10, HG9.out.trans hg10.turned, HI2.out.symm, by
                  have h1 := skipB_le r'; have h2 := HSK.out; have h3 := HLE.out; have h4 := HLT.out; omega, by
                  have := HNN.out; rw [List.length_append]; simp; omega⟩
              clear hg10 hr10
              go_wp2_with fail
              go_roundg m
              case rel => exact HN.out
              case measure => omega
            · have HI2 : Hid (parts (fun _ => value d) 93 l = .no eJson (c :: r')) := Lib.hid (by rw [HI.out, hsr]; simp [h93, h44])
              have ht : takes ⟨#[44]⟩ (c :: r') = false := by rw [takes_one]; simpa [headIs] using h44
              have HT := Lib.hid ht
              clear hsr HR8' hsk h93 h44 ht
              go_wp2_with fail
              refine (take_t R s _ _ _ HRC.out hs' (by decide) false HT.out).mono ?_
              rintro e' w9 ⟨rfl, hg9, hr9⟩
              have HL9 := Lib.hid (HL8.out.keep hg9 h0 h1 h2 h3)
              have HG9 := Lib.hid (HG8.out.trans hg9.turned)
              have HR9 := Lib.hid hr9
              clear hg9 hr9
              go_wp2_with fail
              go_ret
              exact ⟨acc ++ [j], by rw [HI2.out]; rfl, (by rw [HI2.out]; intro a b hab; cases hab), HL9.out, HG9.out, by rw [HI2.out]; exact HR9.out⟩
end Go.Proofs.YtdooeedemgmpiaaDoor
