/- The reader's call that reads a text. Conditions: none but those that each theorem names. -/
import Derived.Test.YtdooeedemgmpiaaDoorJsTextPl
import Derived.Test.YtdooeedemgmpiaaDoorJsNum
import Derived.Lib.OthersKept
namespace Go.Proofs.YtdooeedemgmpiaaDoor
set_option linter.unusedVariables false
open Go Go.RowKit Js

theorem own_string {w : World} {B : Nat} {v : Value} {l : Bs} (h : w.ownsRow B 5 1 v l.length (Lib.byteCells l)) : (convert 48 9 v).run Tryd.prog w = .ok (.string ⟨l.toArray⟩) w := by
  rcases h.2 with ⟨rfl, h0⟩ | ⟨g, cap, cur, rfl, h0, h1, h2, h3, h4, h5⟩
  · have : l = [] := List.eq_nil_of_length_eq_zero h0
    subst this
    rw [run_convert_bytes_string w _ _ _ none 0 0 Tryd.underlying48 Tryd.underlying5 Tryd.underlying9]
    rfl
  · refine run_convert_bytes_back w _ _ _ _ cap l Tryd.underlying48 Tryd.underlying5 Tryd.underlying9 (fun j hj => ?_)
    have := h.cells (g := g) rfl j (.int .u8 (l[j].toNat : Int)) (by simp [Lib.byteCells, hj])
    exact this
theorem _root_.Go.World.ownsRow.same {w w' : World} {base n size : Nat} {e : TypeId} {v : Value} {xs : List Value} (h : w.ownsRow base e size v n xs) (hb : ∀ g, v.ownBlock = some g → w'.heap[g]? = w.heap[g]?) : w'.ownsRow base e size v n xs := by
  refine ⟨h.1, ?_⟩
  rcases h.2 with hn | ⟨g, cap, cur, rfl, h1, h2, rest⟩
  · exact .inl hn
  · exact .inr ⟨g, cap, cur, rfl, h1, (hb g rfl).trans h2, rest⟩
structure TextR (R : Nat) (s x : ByteArray) (I : Nat) (l : Bs) (w : World) (pos d : Nat) (v : Value) (wr : World) : Prop where
  iter : wr.heap[I]? = some (.stringIter x pos)
  rd : ∃ a : Int, wr.heap[R]? = some (.cells #[.string s, .int .i64 a] 44 (0, 0))
  gr : Gr (one' R) w wr
  le : max pos d ≤ l.length
  asc : ∀ c ∈ (l.drop pos).take (d - pos), c.toNat < 128
  out : ∃ bs : Bs, wr.ownsRow (I + 1) 5 1 v bs.length (Lib.byteCells bs) ∧ bs.length ≤ 4 * max pos d ∧ textOf bs (l.drop (max pos d)) = textOf [] l
/-- The reader's block is set to a place. -/
theorem Rd.set {R : Nat} {s : ByteArray} {q : UInt8} {l : Bs} {w wr : World} (h : Rd R s (q :: l) w) {a : Int} (hr : wr.heap[R]? = some (.cells #[.string s, .int .i64 a] 44 (0, 0))) (n : Nat) (hn : n ≤ l.length) (z : Int) (hz : z = (((s.size - l.length : Nat) : Int) + n)) :
    Rd R s (l.drop n) (wr.setCell ⟨R, 1, none⟩ (.int .i64 z)) := by
  subst hz
  have hl := h.le
  have hd := h.suffix
  simp only [List.length_cons] at hl hd
  have e : s.data.toList.drop (s.size - l.length) = l := by
    have := congrArg List.tail hd
    rw [List.tail_drop, List.tail_cons] at this
    rwa [show s.size - (l.length + 1) + 1 = s.size - l.length by omega] at this
  have e2 : s.size - (l.drop n).length = s.size - l.length + n := by rw [List.length_drop]; omega
  refine ⟨?_, by rw [List.length_drop]; omega, ?_⟩
  · rw [e2, ← List.drop_drop, e]
  · rw [e2, show ((s.size - l.length + n : Nat) : Int) = ((s.size - l.length : Nat) : Int) + n by omega]
    exact heap_setCell_same _ _ _ _ _ _ hr
theorem text_next {R : Nat} {s x : ByteArray} {l bs rb : Bs} {w w3 w4 : World} {p' d' : Nat} {v v' : Value} {cs : List Value} (it : w3.heap[w.heap.size]? = some (.stringIter x p')) (rd : ∃ a : Int, w3.heap[R]? = some (.cells #[.string s, .int .i64 a] 44 (0, 0)))
    (gr : Gr (one' R) w w3) (hR : R < w.heap.size) (own : w3.ownsRow (w.heap.size + 1) 5 1 v bs.length (Lib.byteCells bs)) (own' : w4.ownsRow (w.heap.size + 1) 5 1 v' (bs.length + cs.length) (Lib.byteCells bs ++ cs)) (hcs : cs = Lib.byteCells rb)
    (hg : ∃ o, (w3.alloc o).grownBy w4 v.ownBlock) (le : max p' d' ≤ l.length) (asc : ∀ c ∈ (l.drop p').take (d' - p'), c.toNat < 128) (hlen : bs.length + rb.length ≤ 4 * max p' d') (txt : textOf (bs ++ rb) (l.drop (max p' d')) = textOf [] l) :
    TextR R s x w.heap.size l w p' d' v' w4 := by
  obtain ⟨o, hg⟩ := hg
  obtain ⟨a, rd⟩ := rd
  have hb : ∀ b, b < w.heap.size + 1 → b < w3.heap.size → w4.heap[b]? = w3.heap[b]? := fun b h1 h2 => by
    rw [hg.block b (by simp; omega) (fun e => by have := (own.lt b e.symm).1; omega)]
    exact Below.heap_alloc _ _ _ h2
  have hI := (Array.getElem?_eq_some_iff.1 it).1
  subst hcs
  have hl : (Lib.byteCells rb).length = rb.length := by simp [Lib.byteCells]
  refine ⟨(hb _ (by omega) hI).trans it, ⟨a, (hb R (by omega) (by omega)).trans rd⟩, (gr.alloc o).grown hg fun k hk hlt => ?_, le, asc, bs ++ rb, ?_, by rw [List.length_append]; exact hlen, txt⟩
  · have := (own.lt k hk).1; omega
  · rw [hl] at own'
    rw [List.length_append]
    have e : Lib.byteCells (bs ++ rb) = Lib.byteCells bs ++ Lib.byteCells rb := by simp [Lib.byteCells]
    rw [e]; exact own'
def TextP (R : Nat) (s : ByteArray) (x : Js.R ByteArray) (w : World) (e : Ending) (w' : World) : Prop :=
  ∃ t, e = .returned (.tuple #[.string t, .int .i64 x.err]) ∧ (∀ t0 r, x = .ok t0 r → t = t0) ∧ Gr (one' R) w w' ∧ Rd R s x.rest w'
set_option maxHeartbeats 1000000 in
set_option maxRecDepth 100000 in
theorem text_any (R : Nat) (s : ByteArray) (q : UInt8) (l : Bs) (w : World) (h : Rd R s (q :: l) w) (hs : s.size ≤ 16777216) (G : Gl w) (hR : gN ≤ R) :
    Calls Tryd.prog 33 #[.pointer (some ⟨R, 0, none⟩)] w (TextP R s (textOf [] l) w) := by
  have hle := h.le
  simp only [List.length_cons] at hle
  have H := Lib.hid h
  have GG := Lib.hid G
  have HR := Lib.hid hR
  obtain ⟨c0, c1, f1⟩ := h.cells
  obtain ⟨k, hk, e1, e2, _⟩ := h.head
  rw [e1] at c1
  have HK := Lib.hid e2
  have hltR := h.lt
  have HX : Hid ((s.extract (k + 1) s.size).data.toList = l ∧ (s.extract (k + 1) s.size).size = l.length) := Lib.hid (by
    have hd := h.suffix
    have e : s.data.toList.drop (k + 1) = l := by
      have := congrArg List.tail hd
      rw [List.tail_drop, List.tail_cons, e1] at this
      exact this
    have hsl : s.data.toList.length = s.size := Array.length_toList
    have e3 : (s.extract (k + 1) s.size).data.toList = l := by
      rw [ByteArray.data_extract, Array.toList_extract, List.extract_eq_take_drop, e, List.take_of_length_le (by omega)]
    exact ⟨e3, by have := congrArg List.length e3; rw [Array.length_toList] at this; exact this⟩)
  clear h G hR f1 e1 e2
  go_enter Tryd.func33, Tryd.ntmps33
  go_wp2_with fail
  generalize s.extract (k + 1) s.size = x at *
  obtain ⟨hxl, hxs⟩ := HX.out
  have HXL := Lib.hid hxl
  have hxs' : (x.size : Int) ≤ 16777216 := by omega
  have HXS := Lib.hid hxs
  have hk1 : (k : Int) + 1 + x.size ≤ 16777216 := by have := HK.out; omega
  clear hxl hxs c0 c1
  have H0 : Hid (TextR R s x w.heap.size l w 0 0 (.slice none 0 0) (w.iter x 0)) := Lib.hid ⟨World.iter_heap w x 0, ⟨_, (H.out.alloc (.stringIter x 0)).block⟩, (Gr.refl (one' R) w).alloc (.stringIter x 0), by simp, by simp, [], World.ownsRow_nil _ _ _ _, by simp, by simp⟩
  go_loopw [6, 7] (fun v d wr => ∃ pos dn : Nat, d = .int .i64 dn ∧ TextR R s x w.heap.size l w pos dn v wr) (fun _ _ wr => x.size - wr.iterPos w.heap.size)
  case atStart => exact ⟨0, 0, rfl, H0.out⟩
  case round =>
    obtain ⟨pos, dn, rfl, hT⟩ := hrel
    have hxs := HXS.out
    have hxl := HXL.out
    obtain ⟨hit, ⟨a, hrd⟩, hgr, hmx, hasc, bs, hown, hbl, hto⟩ := hT
    have hIR : R ≠ w.heap.size := by omega
    have r0 : wr.cell? ⟨R, 0, none⟩ = some (.string s) := by simp [World.cell?, hrd]
    have r1 : wr.cell? ⟨R, 1, none⟩ = some (.int .i64 a) := by simp [World.cell?, hrd]
    have rf : wr.frozen? ⟨R, 1, none⟩ = false := by simp [World.frozen?, hrd]
    by_cases hp : pos < x.size
    · have hdl := Lib.decodeL_drop x pos
      rw [hxl] at hdl
      obtain ⟨c, r, hcr⟩ : ∃ c r, l.drop pos = c :: r := ⟨_, _, List.drop_eq_getElem_cons (by omega)⟩
      rw [hcr] at hdl
      have hnx : ∀ ty, (Instr.next (.pointer (some ⟨w.heap.size, 0, none⟩)) true ty).run Tryd.prog wr = _ := fun ty => Lib.run_next_any_at wr w.heap.size x pos ty hit hp
      rw [← hdl] at hnx
      have hw1 : ∃ w1, w1 = wr.iterAt w.heap.size x (pos + (Lib.decodeL (c :: r)).2) := ⟨_, rfl⟩
      obtain ⟨w1, hw1⟩ := hw1
      rw [← hw1] at hnx
      have hno : (Lib.decodeL (c :: r)).1 = runeNo (c :: r) := rfl
      rw [hno] at hnx
      have hlen : pos + runeLen (c :: r) ≤ l.length := by
        have h1 := runeLen_le c r
        have h2 := congrArg List.length hcr
        rw [List.length_drop] at h2
        omega
      have hpl := runeLen_pos (c :: r)
      -- the world behind 'next'
      have it1 : w1.heap[w.heap.size]? = some (.stringIter x (pos + runeLen (c :: r))) := by rw [hw1]; exact Lib.iterAt_heap wr _ x pos _ hit
      have ot1 : ∀ j, j ≠ w.heap.size → w1.heap[j]? = wr.heap[j]? := fun j hj => by rw [hw1]; exact Lib.iterAt_other wr _ j x _ hj
      have sz1 : w1.heap.size = wr.heap.size := by rw [hw1]; exact Lib.iterAt_size wr _ x _
      have gr1 : Gr (one' R) w w1 := ⟨by rw [hw1]; exact hgr.os, by rw [hw1]; exact hgr.tape, by rw [hw1]; exact hgr.output, by rw [sz1]; exact hgr.size, fun b hb hn => by rw [ot1 b (by omega)]; exact hgr.block b hb hn⟩
      have rd1 := (ot1 R hIR).trans hrd
      have own1 : w1.ownsRow (w.heap.size + 1) 5 1 u6 bs.length (Lib.byteCells bs) := hown.same (fun g hg => ot1 g (by have := (hown.lt g hg).1; omega))
      clear r0 r1 rf
      have r0 : w1.cell? ⟨R, 0, none⟩ = some (.string s) := by simp [World.cell?, rd1]
      have r1 : w1.cell? ⟨R, 1, none⟩ = some (.int .i64 a) := by simp [World.cell?, rd1]
      have rf : w1.frozen? ⟨R, 1, none⟩ = false := by simp [World.frozen?, rd1]
      clear hw1 hdl hno
      have HTO := Lib.hid hto
      have HCR := Lib.hid hcr
      have HXL := Lib.hid hxl
      clear hto hxl
      by_cases hd : pos < dn
      · have hca : c.toNat < 128 := hasc c (by rw [HCR.out, show dn - pos = (dn - pos - 1) + 1 by omega]; simp)
        have hone := (rune_is [] c r hca).2
        have hN : Hid (TextR R s x w.heap.size l w (pos + 1) dn u6 w1) := Lib.hid (by
          have e1 : max (pos + 1) dn = max pos dn := by omega
          refine ⟨by rw [← hone]; exact it1, ⟨_, rd1⟩, gr1, by omega, fun y hy => ?_, bs, own1, by rw [e1]; exact hbl, by rw [e1]; exact HTO.out⟩
          refine hasc y ?_
          have e2 : l.drop (pos + 1) = r := by rw [← List.tail_drop, HCR.out]; rfl
          rw [e2] at hy
          rw [HCR.out, show dn - pos = (dn - (pos + 1)) + 1 by omega, List.take_succ_cons]
          exact List.mem_cons_of_mem _ hy)
        have hms : w1.iterPos w.heap.size = pos + runeLen (c :: r) := by unfold World.iterPos; rw [it1]
        have hms0 : wr.iterPos w.heap.size = pos := by unfold World.iterPos; rw [hit]
        have HMS := Lib.hid (And.intro hms hms0)
        have hpd : (pos : Int) < dn := by omega
        clear hms hms0 hone hca hasc own1 hown hbl it1 ot1 rd1 gr1 hgr hrd hit hcr sz1
        go_wp2_with fail
        go_roundw
        case rel => exact ⟨pos + 1, dn, rfl, hN.out⟩
        case measure => rw [HMS.out.1, HMS.out.2]; omega
      · have hmx2 : max pos dn = pos := by omega
        rw [hmx2] at hbl
        have HTO2 : Hid (textOf bs (c :: r) = textOf [] l) := Lib.hid (by have := HTO.out; rw [hmx2, HCR.out] at this; exact this)
        obtain ⟨z, hz⟩ : ∃ z : Int, z = (runeNo (c :: r) : Int) := ⟨_, rfl⟩
        rw [← hz] at hnx
        have HZ := Lib.hid hz
        have HR2 : Hid (Rd R s (c :: r) (w1.setCell ⟨R, 1, none⟩ (.int .i64 ((k : Int) + 1 + pos)))) := Lib.hid (by
          have := H.out.set rd1 pos (by omega) ((k : Int) + 1 + pos) (by have := HK.out; omega)
          rw [HCR.out] at this; exact this)
        have HG2 := Lib.hid (Gr.setCell (S := one' R) (a := ⟨R, 1, none⟩) gr1 (fun _ => rfl) (.int .i64 ((k : Int) + 1 + pos)))
        have HO2 : Hid ((w1.setCell ⟨R, 1, none⟩ (.int .i64 ((k : Int) + 1 + pos))).ownsRow (w.heap.size + 1) 5 1 u6 bs.length (Lib.byteCells bs)) := Lib.hid (own1.same fun g hg => by
          have := (own1.lt g hg).1
          exact Below.heap_setCell _ _ _ _ (by show g ≠ R; omega))
        have HI2 : Hid ((w1.setCell ⟨R, 1, none⟩ (.int .i64 ((k : Int) + 1 + pos))).heap[w.heap.size]? = some (.stringIter x (pos + runeLen (c :: r)))) := Lib.hid ((Below.heap_setCell _ _ _ _ (by show w.heap.size ≠ R; omega)).trans it1)
        have hms0 : wr.iterPos w.heap.size = pos := by unfold World.iterPos; rw [hit]
        have HMS := Lib.hid hms0
        have hpd : (dn : Int) ≤ pos := by omega
        have HBL := Lib.hid hbl
        have HLEN := Lib.hid hlen
        have HPL := Lib.hid hpl
        have hps : (pos : Int) < x.size := by omega
        have HMX := Lib.hid hmx
        have HASC := Lib.hid hasc
        have HSZ1 := Lib.hid sz1
        have HGRS := Lib.hid gr1.size
        clear hms0 hasc hown hbl it1 ot1 rd1 gr1 hgr hrd hit hcr sz1 hz hmx2 hlen hpl hd hmx own1 hxs
        have HRL : Hid (((s.size - r.length : Nat) : Int) = (k : Int) + 1 + pos + 1) := Lib.hid (by
          have h1 := congrArg List.length HCR.out
          rw [List.length_drop, List.length_cons] at h1
          have := HK.out
          omega)
        by_cases h34 : c = 34
        · obtain rfl : z = 34 := by rw [HZ.out, h34, (rune_is [] 34 r (by decide)).1]; rfl
          have HF : Hid (textOf [] l = .ok ⟨bs.toArray⟩ r) := Lib.hid (by rw [← HTO2.out, h34, textOf_quote])
          have hcv := own_string (HO2.out.same (w' := (w1.setCell ⟨R, 1, none⟩ (.int .i64 ((k : Int) + 1 + pos))).setCell ⟨R, 1, none⟩ (.int .i64 ((k : Int) + 1 + pos + 1))) fun g hg => by
            have := (HO2.out.lt g hg).1
            exact Below.heap_setCell _ _ _ _ (by show g ≠ R; omega))
          go_wp2_with fail
          go_ret2
          refine ⟨_, by rw [HF.out]; rfl, ?_, Gr.setCell (S := one' R) (a := ⟨R, 1, none⟩) HG2.out (fun _ => rfl) _, ?_⟩
          · rw [HF.out]; intro t0 r0 he; cases he; rfl
          · rw [HF.out]
            refine HR2.out.tail ?_
            rw [HRL.out]
            exact heap_setCell_same _ _ _ _ _ _ HR2.out.block
        · have hz34 : (z == 34) = false := by
            have : runeNo (c :: r) ≠ 34 := rune_ne c r 34 (by decide) h34
            rw [HZ.out]; simp; omega
          by_cases h92 : c = 92
          · have hl1 : runeLen (c :: r) = 1 := by rw [h92]; exact (rune_is [] 92 r (by decide)).2
            rw [hl1] at HI2
            obtain rfl : z = 92 := by rw [HZ.out, h92, (rune_is [] 92 r (by decide)).1]; rfl
            have hxe : (x.extract pos x.size).data.toList = c :: r := by
              rw [ByteArray.data_extract, Array.toList_extract, List.extract_eq_take_drop, HXL.out, HCR.out, List.take_of_length_le (by
                have h1 := congrArg List.length HCR.out
                rw [List.length_drop] at h1
                rw [← h1, HXS.out]
                exact Nat.le_refl _)]
            have HE := Lib.hid (escape_any (x.extract pos x.size) _ (GG.out.one HG2.out HR.out))
            rw [hxe] at HE
            clear hxe hl1 hz34
            cases hesc : escape (c :: r) with
            | none =>
              have HF : Hid (textOf [] l = .no eJson (c :: r)) := Lib.hid (by rw [← HTO2.out]; rw [h92] at hesc ⊢; exact textOf_bad hesc)
              rw [hesc] at HE
              clear hesc
              go_wp2_with fail
              refine HE.out.mono ?_
              rintro e w3 ⟨rfl, hg3⟩
              have HG3 := Lib.hid hg3
              clear hg3
              unfold escV
              go_wp2_with fail
              go_ret2
              exact ⟨_, by rw [HF.out]; rfl, by rw [HF.out]; simp, HG2.out.trans HG3.out.weak, by rw [HF.out]; exact HR2.out.kept (HG3.out.block R HR2.out.lt (fun h => h))⟩
            | some vn =>
              obtain ⟨v, n⟩ := vn
              obtain ⟨hn2, hnl, hnasc, hv⟩ := escape_ascii (fun a q hq => by injection hq with hq; rw [← hq]; exact h92) hesc
              have HF : Hid (textOf (bs ++ enc v) ((c :: r).drop n) = textOf [] l) := Lib.hid (by rw [← HTO2.out]; rw [h92] at hesc ⊢; exact (textOf_esc hesc).symm)
              rw [hesc] at HE
              have hn0 : ((n : Int) == 0) = false := by simp; omega
              have hn9 : (n : Int) ≤ 16777216 := by
                have := HXS.out
                have h1 := congrArg List.length HCR.out
                rw [List.length_drop] at h1
                omega
              have HN := Lib.hid (And.intro hn2 (And.intro hnl hnasc))
              have HV := Lib.hid hv
              clear hesc hn2 hnl hnasc hv
              go_wp2_with fail
              refine HE.out.mono ?_
              rintro e w3 ⟨rfl, hg3⟩
              have ho3 := HO2.out.same (w' := w3) fun g hg => hg3.block g (HO2.out.lt g hg).2 (fun h => h)
              have hi3 := (hg3.block w.heap.size (Array.getElem?_eq_some_iff.1 HI2.out).1 (fun h => h)).trans HI2.out
              have hr3 := HR2.out.kept (hg3.block R HR2.out.lt (fun h => h))
              have HG3 := Lib.hid (HG2.out.trans hg3.weak)
              have HO3 := Lib.hid ho3
              have HI3 := Lib.hid hi3
              have HR3 := Lib.hid hr3
              clear hg3 ho3 hi3 hr3
              unfold escV
              go_wp2_with fail
              refine (Tryd.utf8_AppendRune_plain (w.heap.size + 1) u6 bs.length (Lib.byteCells bs) v (by omega) (by have := HV.out; omega) w3 HO3.out (by have := HBL.out; omega) (by have := (Array.getElem?_eq_some_iff.1 HI3.out).1; omega)).mono ?_
              rintro e w4 ⟨v', rfl, ho4, hg4⟩
              have HN4 : Hid (TextR R s x w.heap.size l w (pos + 1) (pos + n) v' w4) := Lib.hid (text_next HI3.out ⟨_, HR3.out.block⟩ HG3.out hltR HO3.out ho4 (Lib.byteCells_encodeRune v).symm hg4 (by have := HXS.out; have := HN.out.2.1; have h1 := congrArg List.length HCR.out; rw [List.length_drop] at h1; omega) (by
                  intro y hy
                  have e2 : l.drop (pos + 1) = r := by rw [← List.tail_drop, HCR.out]; rfl
                  rw [e2] at hy
                  refine HN.out.2.2 y ?_
                  have := HN.out.1
                  rw [show n = (pos + n - (pos + 1)) + 1 by omega, List.take_succ_cons]
                  exact List.mem_cons_of_mem _ hy) (by
                  have h1 := Lib.runeCells_le v
                  have h2 := Lib.runeCells_length v
                  have h3 := HBL.out
                  have h4 := HN.out.1
                  omega) (by
                  have h4 := HN.out.1
                  rw [show max (pos + 1) (pos + n) = pos + n by omega, ← List.drop_drop, HCR.out]
                  exact HF.out))
              clear ho4 hg4
              go_wp2_with fail
              go_roundw
              case rel => exact ⟨pos + 1, pos + n, by go_num, HN4.out⟩
              case measure => 
                rw [HMS.out, show w4.iterPos w.heap.size = pos + 1 by unfold World.iterPos; rw [HN4.out.iter]]
                omega
          · have hz92 : (z == 92) = false := by
              have : runeNo (c :: r) ≠ 92 := rune_ne c r 92 (by decide) h92
              rw [HZ.out]; simp; omega
            have hz0 : 0 ≤ z ∧ z ≤ 1114111 := by
              have h1 : (Lib.decodeL (c :: r)).1 ≤ 1114111 := Lib.decodeL_rune (c :: r)
              have h2 : runeNo (c :: r) ≤ 1114111 := h1
              rw [HZ.out]; omega
            obtain ⟨hz0, hz1⟩ := hz0
            have hxe : (x.extract pos x.size).data.toList = c :: r := by
              rw [ByteArray.data_extract, Array.toList_extract, List.extract_eq_take_drop, HXL.out, HCR.out, List.take_of_length_le (by
                have h1 := congrArg List.length HCR.out
                rw [List.length_drop] at h1
                rw [← h1, HXS.out]
                exact Nat.le_refl _)]
            have hpx : ∀ W, z = 65533 → Calls Tryd.prog 49 #[.string (x.extract pos x.size), .string ⟨#[239, 191, 189]⟩] W fun e w' => e = .returned (.bool (runeOk (c :: r))) ∧ W = w' := fun W hz => by
              refine (Tryd.strings_HasPrefix (x.extract pos x.size) ⟨#[239, 191, 189]⟩ W).mono ?_
              rintro e w' ⟨rfl, rfl⟩
              refine ⟨ret_bool ?_, rfl⟩
              rw [hxe]
              exact prefix_rune c r (by have := HZ.out; omega)
            have HPX := Lib.hid hpx
            have HC34 := Lib.hid h34
            have HC92 := Lib.hid h92
            clear hxe hpx h34 h92
            by_cases hbad : runeOk (c :: r) = false ∨ runeNo (c :: r) < 32
            · have HF : Hid (textOf [] l = .no eJson (c :: r)) := Lib.hid (by rw [← HTO2.out]; exact textOf_no HC34.out HC92.out hbad)
              by_cases h32 : runeNo (c :: r) < 32
              · have hz32 : z < 32 := by rw [HZ.out]; omega
                clear hbad h32
                go_wp2_with fail
                go_ret2
                exact ⟨_, by rw [HF.out]; rfl, by rw [HF.out]; simp, HG2.out, by rw [HF.out]; exact HR2.out⟩
              · have hok : runeOk (c :: r) = false := by rcases hbad with h | h; exact h; exact absurd h h32
                obtain rfl : z = 65533 := by
                  have h1 := hok
                  unfold runeOk at h1
                  simp only [Bool.not_eq_false', Bool.and_eq_true, decide_eq_true_eq] at h1
                  rw [HZ.out]; exact congrArg _ h1.1
                have HOK := Lib.hid hok
                clear hbad h32 hok hz34 hz92
                go_wp2_with (go_at_call 49; refine (HPX.out _ rfl).mono ?_; rw [HOK.out]; rintro e w9 ⟨rfl, rfl⟩)
                go_ret2
                exact ⟨_, by rw [HF.out]; rfl, by rw [HF.out]; simp, HG2.out, by rw [HF.out]; exact HR2.out⟩
            · have HF : Hid (textOf (bs ++ (c :: r).take (runeLen (c :: r))) ((c :: r).drop (runeLen (c :: r))) = textOf [] l) := Lib.hid (by rw [← HTO2.out]; exact (textOf_rune HC34.out HC92.out hbad).symm)
              have hok : runeOk (c :: r) = true := by cases h : runeOk (c :: r) with | true => rfl | false => exact absurd (.inl h) hbad
              have HEN : Hid (Lib.encodeRune z = (c :: r).take (runeLen (c :: r))) := Lib.hid (by
                rw [HZ.out]
                refine Lib.encode_decode (c :: r) (by simp) fun hx => ?_
                unfold runeOk at hok
                rw [hx.1, hx.2] at hok
                simp at hok)
              have hz32 : 32 ≤ z := by rw [HZ.out]; omega
              have HN4 : ∀ w4 v', w4.ownsRow (w.heap.size + 1) 5 1 v' (bs.length + (Lib.runeCells z).length) (Lib.byteCells bs ++ Lib.runeCells z) → (∃ o, ((w1.setCell ⟨R, 1, none⟩ (.int .i64 ((k : Int) + 1 + pos))).alloc o).grownBy w4 u6.ownBlock) → TextR R s x w.heap.size l w (pos + runeLen (c :: r)) dn v' w4 := fun w4 v' ho4 hg4 => by
                have e5 : max (pos + runeLen (c :: r)) dn = pos + runeLen (c :: r) := by omega
                refine text_next (rb := (c :: r).take (runeLen (c :: r))) HI2.out ⟨_, HR2.out.block⟩ HG2.out hltR HO2.out ho4 (by rw [← HEN.out]; exact (Lib.byteCells_encodeRune z).symm) hg4 (by rw [e5]; exact HLEN.out) ?_ ?_ ?_
                · intro y hy
                  rw [show dn - (pos + runeLen (c :: r)) = 0 by omega] at hy
                  simp at hy
                · have h1 := Lib.runeCells_le z
                  have h2 := Lib.runeCells_length z
                  rw [HEN.out] at h2
                  have h3 := HBL.out
                  have h4 := HPL.out
                  rw [e5, ← h2]
                  omega
                · rw [e5, ← List.drop_drop, HCR.out]
                  exact HF.out
              have HN4' := Lib.hid HN4
              have HOK := Lib.hid hok
              clear HN4 hbad hok
              by_cases h65 : z = 65533
              · subst h65
                clear hz34 hz92 hz32
                go_wp2_with (go_at_call 49; refine (HPX.out _ rfl).mono ?_; rw [HOK.out]; rintro e w9 ⟨rfl, rfl⟩)
                refine (Tryd.utf8_AppendRune_plain (w.heap.size + 1) u6 bs.length (Lib.byteCells bs) 65533 (by omega) (by omega) _ HO2.out (by have := HBL.out; omega) (by have := (Array.getElem?_eq_some_iff.1 HI2.out).1; omega)).mono ?_
                rintro e w4 ⟨v', rfl, ho4, hg4⟩
                have HN5 := Lib.hid (HN4'.out w4 v' ho4 hg4)
                clear ho4 hg4
                go_wp2_with fail
                go_roundw
                case rel => exact ⟨_, dn, rfl, HN5.out⟩
                case measure =>
                  rw [HMS.out, show w4.iterPos w.heap.size = pos + runeLen (c :: r) by unfold World.iterPos; rw [HN5.out.iter]]
                  have := HPL.out
                  omega
              · have hz65 : (z == 65533) = false := by simpa using h65
                clear h65
                go_wp2_with fail
                refine (Tryd.utf8_AppendRune_plain (w.heap.size + 1) u6 bs.length (Lib.byteCells bs) z (by omega) (by omega) _ HO2.out (by have := HBL.out; omega) (by have := (Array.getElem?_eq_some_iff.1 HI2.out).1; omega)).mono ?_
                rintro e w4 ⟨v', rfl, ho4, hg4⟩
                have HN5 := Lib.hid (HN4'.out w4 v' ho4 hg4)
                clear ho4 hg4
                go_wp2_with fail
                go_roundw
                case rel => exact ⟨_, dn, rfl, HN5.out⟩
                case measure =>
                  rw [HMS.out, show w4.iterPos w.heap.size = pos + runeLen (c :: r) by unfold World.iterPos; rw [HN5.out.iter]]
                  have := HPL.out
                  omega
    · have HEND : Hid (textOf [] l = .no eJson []) := Lib.hid (by
        have : l.drop (max pos dn) = [] := List.drop_eq_nil_of_le (by omega)
        rw [← hto, this]; rfl)
      have HRD := Lib.hid (H.out.set hrd l.length (Nat.le_refl _) (s.size : Int) (by have := HK.out; omega))
      rw [List.drop_length] at HRD
      have HG := Lib.hid (Gr.setCell (S := one' R) (a := ⟨R, 1, none⟩) hgr (fun _ => rfl) (.int .i64 (s.size : Int)))
      have hnx : ∀ ty, (Instr.next (.pointer (some ⟨w.heap.size, 0, none⟩)) true ty).run Tryd.prog wr = _ := fun ty => Lib.run_next_end_at wr w.heap.size x pos ty hit hp
      clear hto hasc hown hbl hgr hrd hit
      go_wp2_with fail
      go_ret2
      exact ⟨_, by rw [HEND.out]; rfl, by rw [HEND.out]; simp, HG.out, by rw [HEND.out]; exact HRD.out⟩
end Go.Proofs.YtdooeedemgmpiaaDoor
