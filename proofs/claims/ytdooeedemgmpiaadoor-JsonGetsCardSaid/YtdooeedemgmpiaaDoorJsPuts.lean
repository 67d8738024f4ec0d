/- The calls appendValue, appendParts, Print. Conditions: those that each theorem names. -/
import Derived.Test.YtdooeedemgmpiaaDoorJsPut
namespace Go.Proofs.YtdooeedemgmpiaaDoor
set_option linter.unusedVariables false
open Go Go.RowKit Js

mutual
/-- All texts within are such as appendText's contract serves. -/
def Txts : J → Prop
  | .mk _ _ t ns l => TextOk t ∧ (∀ n ∈ ns, TextOk n) ∧ TxtsAll l
def TxtsAll : List J → Prop
  | [] => True
  | j :: l => Txts j ∧ TxtsAll l
end
theorem TxtsAll.mem : ∀ {l : List J}, TxtsAll l → ∀ j ∈ l, Txts j
  | [], _, _, h => by simp at h
  | a :: l, hf, j, h => by
    unfold TxtsAll at hf
    rcases List.mem_cons.1 h with h | h
    · rw [h]; exact hf.1
    · exact TxtsAll.mem hf.2 j h
def PutOk (j : J) : Prop := ∀ (B : Nat) (v jv : Value) (bs : Bs) (w : World), Out B w v bs → gN ≤ B → Gl w → JAt (fun b => b < B) w j jv → Fits j → Js.formed j = true → Txts j → (bs ++ Js.print j).length + 40 ≤ lim →
  Calls Tryd.prog 19 #[v, jv] w (AppP B w (bs ++ Js.print j))
def obj5 (k n : Int) (t : ByteArray) (np : Option Addr) (y nc : Nat) (lp : Option Addr) (z lc : Nat) : Obj := .cells #[.int .i64 k, .int .i64 n, .string t, .slice np y nc, .slice lp z lc] 25
theorem AppP.from {B : Nat} {w w1 w2 : World} {out : Bs} {v' : Value} (g : Kp B w w1) (h : Out B w2 v' out) (k : Kp B w1 w2) : AppP B w out (.returned v') w2 := ⟨v', rfl, h, g.trans k⟩
theorem obj5_cells {x : World} {K : Nat} {k n : Int} {t : ByteArray} {np : Option Addr} {y nc : Nat} {lp : Option Addr} {z lc : Nat} {m : Nat × Nat} (h : x.heap[K]? = some (.cells #[.int .i64 k, .int .i64 n, .string t, .slice np y nc, .slice lp z lc] 25 m)) :
    x.cell? ⟨K, 0, none⟩ = some (.int .i64 k) ∧ x.cell? ⟨K, 1, none⟩ = some (.int .i64 n) ∧ x.cell? ⟨K, 2, none⟩ = some (.string t) ∧ x.cell? ⟨K, 3, none⟩ = some (.slice np y nc) ∧ x.cell? ⟨K, 4, none⟩ = some (.slice lp z lc) := by
  refine ⟨?_, ?_, ?_, ?_, ?_⟩ <;> simp [World.cell?, h]
section
variable {B : Nat} {w : World} {v : Value} {bs : Bs}
set_option maxHeartbeats 1000000 in
set_option maxRecDepth 100000 in
theorem put_null (n : Int) (t : ByteArray) (ns : List ByteArray) (l : List J) : PutOk (.mk 1 n t ns l) := by
  intro B v jv bs w hO hB G hJ hf hfo htx hfit
  unfold JAt at hJ
  obtain ⟨np, nc, lp, lc, rfl, -, -⟩ := hJ
  have hp : Js.print (.mk 1 n t ns l) = [110, 117, 108, 108] := by rw [Js.print]; rfl
  rw [hp] at hfit ⊢
  have hk := (Kp.refl B w).alloc hO.base (obj5 1 n t np ns.length nc lp l.length lc)
  obtain ⟨v', w', hr, h1, h2⟩ := out_string (hO.alloc (obj5 1 n t np ns.length nc lp l.length lc)) ⟨#[110, 117, 108, 108]⟩ (by rw [List.length_append] at hfit; show bs.length + 4 ≤ lim; omega)
  have HR := Lib.hid hr
  have HE : Hid (AppP B w (bs ++ [110, 117, 108, 108]) (.returned v') w') := Lib.hid (AppP.from hk h1 h2)
  clear hr h1 h2 hO hfit hp hfo htx hf hk G
  go_enter Tryd.func19, Tryd.ntmps19
  go_wp2_with (at_builtin; refine wpList_append_run rfl _ _ _ _ rfl v _ v' w' rfl rfl (fun ty => HR.out ty) ?_)
  go_ret
  exact HE.out
set_option maxHeartbeats 1000000 in
set_option maxRecDepth 100000 in
theorem put_bool (n : Int) (t : ByteArray) (ns : List ByteArray) (l : List J) : PutOk (.mk 2 n t ns l) := by
  intro B v jv bs w hO hB G hJ hf hfo htx hfit
  unfold JAt at hJ
  obtain ⟨np, nc, lp, lc, rfl, -, -⟩ := hJ
  have hp : Js.print (.mk 2 n t ns l) = if (n == 1) = true then [116, 114, 117, 101] else [102, 97, 108, 115, 101] := by rw [Js.print]; simp
  rw [hp] at hfit ⊢
  have hk := (Kp.refl B w).alloc hO.base (obj5 2 n t np ns.length nc lp l.length lc)
  have HC := Lib.hid (bool_any (n == 1) B v bs (w.alloc (obj5 2 n t np ns.length nc lp l.length lc)) (hO.alloc _) (by rw [List.length_append] at hfit; omega))
  have HK := Lib.hid hk
  generalize (bs ++ if (n == 1) = true then [116, 114, 117, 101] else [102, 97, 108, 115, 101]) = r at *
  clear hO hfit hp hfo htx hf hk G
  go_enter Tryd.func19, Tryd.ntmps19
  go_wp2_with fail
  refine HC.out.mono ?_
  rintro e w1 ⟨v', rfl, h1, h2⟩
  have HE : Hid (AppP B w r (.returned v') w1) := Lib.hid (AppP.from HK.out h1 h2)
  clear h1 h2
  go_wp2_with fail
  go_ret
  exact HE.out
set_option maxHeartbeats 1000000 in
set_option maxRecDepth 100000 in
theorem put_int (n : Int) (t : ByteArray) (ns : List ByteArray) (l : List J) : PutOk (.mk 3 n t ns l) := by
  intro B v jv bs w hO hB G hJ hf hfo htx hfit
  unfold JAt at hJ
  obtain ⟨np, nc, lp, lc, rfl, -, -⟩ := hJ
  have hb : -9007199254740991 ≤ n ∧ n ≤ 9007199254740991 := by
    have e : Js.formed (.mk 3 n t ns l) = (decide (-9007199254740991 ≤ n) && decide (n ≤ 9007199254740991) && decide (t = ByteArray.empty) && ns.isEmpty && l.isEmpty) := by rw [Js.formed]; rfl
    rw [e] at hfo
    simp only [Bool.and_eq_true, decide_eq_true_eq] at hfo
    exact ⟨hfo.1.1.1.1, hfo.1.1.1.2⟩
  have hp : Js.print (.mk 3 n t ns l) = Lib.itoa n := by rw [Js.print, ← decI_is n hb.1 hb.2]; rfl
  rw [hp] at hfit ⊢
  have hk := (Kp.refl B w).alloc hO.base (obj5 3 n t np ns.length nc lp l.length lc)
  have HC := Lib.hid (int_any n (by omega) (by omega) B v bs (w.alloc (obj5 3 n t np ns.length nc lp l.length lc)) (hO.alloc _) hB (G.alloc _) (by rw [List.length_append] at hfit; omega))
  have HK := Lib.hid hk
  generalize bs ++ Lib.itoa n = r at *
  clear hO hfit hp hfo htx hf hk G hb
  go_enter Tryd.func19, Tryd.ntmps19
  go_wp2_with fail
  refine HC.out.mono ?_
  rintro e w1 ⟨v', rfl, h1, h2⟩
  have HE : Hid (AppP B w r (.returned v') w1) := Lib.hid (AppP.from HK.out h1 h2)
  clear h1 h2
  go_wp2_with fail
  go_ret
  exact HE.out
set_option maxHeartbeats 1000000 in
set_option maxRecDepth 100000 in
theorem put_text (n : Int) (t : ByteArray) (ns : List ByteArray) (l : List J) : PutOk (.mk 4 n t ns l) := by
  intro B v jv bs w hO hB G hJ hf hfo htx hfit
  unfold JAt at hJ
  obtain ⟨np, nc, lp, lc, rfl, -, -⟩ := hJ
  have hp : Js.print (.mk 4 n t ns l) = Js.quote t := by rw [Js.print]; rfl
  rw [hp] at hfit ⊢
  unfold Txts at htx
  have hk := (Kp.refl B w).alloc hO.base (obj5 4 n t np ns.length nc lp l.length lc)
  have HC := Lib.hid (htx.1 B v bs (w.alloc (obj5 4 n t np ns.length nc lp l.length lc)) (hO.alloc _) hfit)
  have HK := Lib.hid hk
  generalize bs ++ Js.quote t = r at *
  clear hO hfit hp hfo htx hf hk G
  go_enter Tryd.func19, Tryd.ntmps19
  go_wp2_with fail
  refine HC.out.mono ?_
  rintro e w1 ⟨v', rfl, h1, h2⟩
  have HE : Hid (AppP B w r (.returned v') w1) := Lib.hid (AppP.from HK.out h1 h2)
  clear h1 h2
  go_wp2_with fail
  go_ret
  exact HE.out
end
/-! ### parts -/
/-- What stands for one part, from its place on. -/
def pieceOf (ns : List ByteArray) (i : Nat) (j : J) : Bs := (if i = 0 then [] else [44]) ++ (match ns[i]? with | none => [] | some n => Js.quote n ++ [58]) ++ Js.print j
def pieces (ns : List ByteArray) : Nat → List J → Bs
  | _, [] => []
  | i, j :: l => pieceOf ns i j ++ pieces ns (i + 1) l
theorem pieces_is (ns : List ByteArray) : ∀ (l : List J) (i : Nat), pieces ns i l = Js.printAll (decide (i = 0)) (ns.drop i) l
  | [], i => by rw [Js.printAll.eq_def]; rfl
  | j :: l, i => by
    unfold pieces
    rw [Js.printAll.eq_def, pieces_is ns l (i + 1), show decide (i + 1 = 0) = false from by simp]
    simp only [List.tail_drop]
    congr 1
    unfold pieceOf
    congr 1
    congr 1
    · by_cases h : i = 0 <;> simp [h]
    · rw [← List.head?_drop]
      cases ns.drop i <;> rfl
theorem pieces_snoc (ns : List ByteArray) (j : J) : ∀ (l : List J) (i : Nat), pieces ns i (l ++ [j]) = pieces ns i l ++ pieceOf ns (i + l.length) j
  | [], i => by simp [pieces]
  | a :: l, i => by
    simp only [List.cons_append, pieces, List.length_cons]
    rw [pieces_snoc ns j l (i + 1), show i + 1 + l.length = i + (l.length + 1) by omega, List.append_assoc]
theorem pieces_take {ns : List ByteArray} {l : List J} {q : Nat} (h : q < l.length) : pieces ns 0 (l.take (q + 1)) = pieces ns 0 (l.take q) ++ pieceOf ns q l[q] := by
  rw [List.take_succ_eq_append_getElem h, pieces_snoc, List.length_take, Nat.min_eq_left (Nat.le_of_lt h), Nat.zero_add]
theorem pieces_len {ns : List ByteArray} {l : List J} {q : Nat} (h : q ≤ l.length) : (pieces ns 0 (l.take q)).length ≤ (pieces ns 0 l).length := by
  have e : ∀ (a b : List J) (i : Nat), (pieces ns i a).length ≤ (pieces ns i (a ++ b)).length := by
    intro a
    induction a with
    | nil => intro b i; simp [pieces]
    | cons x a ih => intro b i; simp only [List.cons_append, pieces, List.length_append]; have := ih b (i + 1); omega
  have := e (l.take q) (l.drop q) 0
  rwa [List.take_append_drop] at this
theorem kid_at {B : Nat} {w x : World} {lp : Option Addr} {l : List J} (hk : KidsAt (fun b => b < B) w lp 0 l) (hb : Below B w x) (q : Nat) (h : q < l.length) :
    ∃ g off np nc lp' lc, lp = some ⟨g, off, none⟩ ∧ x.cell? ⟨g, off + q * 5, none⟩ = some (.int .i64 l[q].kind) ∧ x.cell? ⟨g, off + q * 5 + 1, none⟩ = some (.int .i64 l[q].num) ∧ x.cell? ⟨g, off + q * 5 + 2, none⟩ = some (.string l[q].text) ∧ x.cell? ⟨g, off + q * 5 + 3, none⟩ = some (.slice np l[q].names.length nc) ∧ x.cell? ⟨g, off + q * 5 + 4, none⟩ = some (.slice lp' l[q].list.length lc) ∧
      JAt (fun b => b < B) x l[q] (.agg #[.int .i64 l[q].kind, .int .i64 l[q].num, .string l[q].text, .slice np l[q].names.length nc, .slice lp' l[q].list.length lc]) := by
  obtain ⟨g, off, v, h1, h2, h3, h4, h5⟩ := hk.at q h
  have h6 := h4.frame (hb.block g h2)
  have h7 := JAt.frame (S' := fun b => b < B) (w' := x) (fun _ _ h => h) (fun b hb' _ => hb.block b hb') hb.size _ _ h5
  obtain ⟨np, nc, lp', lc, hv, -, -⟩ := h7.five
  subst hv
  obtain ⟨a, b, c, d, e, he, hc⟩ := h6
  simp only [Value.agg.injEq] at he
  simp at he
  obtain ⟨rfl, rfl, rfl, rfl, rfl⟩ := he
  obtain ⟨c0, c1, c2, c3, c4⟩ := hc x rfl
  rw [Nat.zero_add] at c0 c1 c2 c3 c4
  exact ⟨g, off, np, nc, lp', lc, h1, c0, c1, c2, c3, c4, h7⟩
/-- Where the loop over the parts stands. -/
structure PrR (B : Nat) (w : World) (out : Bs) (v : Value) (wr : World) : Prop where
  out : Out B wr v out
  kp : Kp B w wr
theorem fit_part {bs : Bs} {b0 b1 : UInt8} {ns : List ByteArray} {l : List J} {q : Nat} (h : q < l.length) (hfit : (bs ++ ([b0] ++ pieces ns 0 l ++ [b1])).length + 40 ≤ lim) : (bs ++ [b0] ++ pieces ns 0 (l.take q) ++ pieceOf ns q l[q]).length + 41 ≤ lim := by
  have h1 := pieces_len (ns := ns) (q := q + 1) h
  rw [pieces_take h] at h1
  simp only [List.length_append, List.length_singleton] at hfit h1 ⊢
  omega
set_option maxHeartbeats 2000000 in
set_option maxRecDepth 100000 in
theorem parts_any (b0 b1 : UInt8) (k n : Int) (t : ByteArray) (ns : List ByteArray) (l : List J) (hl : ∀ j ∈ l, PutOk j) (B : Nat) (v jv : Value) (bs : Bs) (w : World) (hO : Out B w v bs) (hB : gN ≤ B) (G : Gl w)
    (hJ : JAt (fun b => b < B) w (.mk k n t ns l) jv) (hf : Fits (.mk k n t ns l)) (hfo : Js.formedAll l = true) (hns : ns = [] ∨ ns.length = l.length) (htx : Txts (.mk k n t ns l)) (hfit : (bs ++ ([b0] ++ pieces ns 0 l ++ [b1])).length + 40 ≤ lim) :
    Calls Tryd.prog 27 #[v, .string ⟨#[b0, b1]⟩, jv] w (AppP B w (bs ++ ([b0] ++ pieces ns 0 l ++ [b1]))) := by
  unfold JAt at hJ
  obtain ⟨np, nc, lp, lc, rfl, hn, hk⟩ := hJ
  unfold Fits at hf
  obtain ⟨-, hf2, hf3, -, hfa⟩ := hf
  unfold Txts at htx
  obtain ⟨-, htn, hta⟩ := htx
  have hKp := (Kp.refl B w).alloc hO.base (.cells #[.int .i64 k, .int .i64 n, .string t, .slice np ns.length nc, .slice lp l.length lc] 25)
  obtain ⟨v1, w1, hr, h1, h2⟩ := out_bytes (hO.alloc (.cells #[.int .i64 k, .int .i64 n, .string t, .slice np ns.length nc, .slice lp l.length lc] 25)) [b0] (by simp only [List.length_append, List.length_singleton] at hfit ⊢; omega)
  rw [show (w.alloc (.cells #[.int .i64 k, .int .i64 n, .string t, .slice np ns.length nc, .slice lp l.length lc] 25)).heap.size = w.heap.size + 1 by simp] at hr
  have bK := h2.block (heap_alloc_new w (.cells #[.int .i64 k, .int .i64 n, .string t, .slice np ns.length nc, .slice lp l.length lc] 25)) (by decide)
  obtain ⟨c0, c1, c2, c3, c4⟩ := obj5_cells bK
  have HR := Lib.hid hr
  have H0 : Hid (PrR B w1 (bs ++ [b0] ++ pieces ns 0 (l.take 0)) v1 w1) := Lib.hid ⟨by rw [List.take_zero]; simpa [pieces] using h1, Kp.refl _ _⟩
  have HW := Lib.hid (hKp.trans h2)
  have HBK := Lib.hid bK
  have HC3 : Hid (∀ x, Kp B w1 x → x.cell? ⟨w.heap.size, 3, none⟩ = some (.slice np ns.length nc)) := Lib.hid (fun x h => (obj5_cells (h.block bK (by decide))).2.2.2.1)
  have HFI := Lib.hid hfit
  have HL := Lib.hid hl
  have HN := Lib.hid hn
  have HK := Lib.hid hk
  have HTN := Lib.hid htn
  have HTA := Lib.hid hta.mem
  have HFA := Lib.hid hfa.mem
  have HFO := Lib.hid ((formed_all l).1 hfo)
  have HGG := Lib.hid G
  have HNS := Lib.hid hns
  have hl3 : (l.length : Int) ≤ 16777215 := by omega
  have HBB := Lib.hid hB
  clear hr h1 h2 hO hKp bK hfit hl hn hk htn hta hfa hfo G hns
  go_enter Tryd.func27, Tryd.ntmps27
  go_wp2_with (at_builtin; refine wpList_append_run rfl _ _ _ _ rfl v _ v1 w1 rfl rfl (fun ty => HR.out ty) ?_)
  obtain ⟨K, hK⟩ : ∃ K, K = w.heap.size := ⟨_, rfl⟩
  rw [← hK] at HC3
  rw [← hK]
  clear c0 c1 c2 c3 c4 hK
  go_loopw [0, 17] (fun x i wr => ∃ q : Nat, q ≤ l.length ∧ i = .int .i64 q ∧ PrR B w1 (bs ++ [b0] ++ pieces ns 0 (l.take q)) x wr) (fun _ i _ => l.length - (intOf i).toNat)
  case atStart => exact ⟨0, Nat.zero_le _, rfl, H0.out⟩
  case round =>
    obtain ⟨q, hq, rfl, hpr⟩ := hrel
    have HPO := Lib.hid hpr.out
    have HPK := Lib.hid hpr.kp
    have HWR := Lib.hid (HW.out.trans hpr.kp)
    clear hpr
    by_cases hlt : q < l.length
    · obtain ⟨g, off, np', nc', lp', lc', hlp, e0, e1, e2, e3, e4, hjq⟩ := kid_at HK.out HWR.out.below q hlt
      subst hlp
      have HJQ := Lib.hid (fun x (hb : Below B wr x) => JAt.frame (S' := fun b => b < B) (w' := x) (fun _ _ h => h) (fun b hb' _ => hb.block b hb') hb.size _ _ hjq)
      have hfq := fit_part hlt HFI.out
      have hGx : ∀ x, Kp B wr x → Gl x := fun x h => HGG.out.keep (HWR.out.trans h).below.size (fun b hb' => (HWR.out.trans h).below.block b (by have := HBB.out; omega))
      have hlm := List.getElem_mem hlt
      have HPUT : Hid (∀ (u : Value) (ob : Bs) (x : World), Out B x u ob → Kp B wr x → (ob ++ Js.print l[q]).length + 40 ≤ lim → Calls Tryd.prog 19 #[u, .agg #[.int .i64 l[q].kind, .int .i64 l[q].num, .string l[q].text, .slice np' l[q].names.length nc', .slice lp' l[q].list.length lc']] x (AppP B x (ob ++ Js.print l[q]))) :=
        Lib.hid (fun u ob x ho hx hfi => HL.out _ hlm B u _ ob x ho HBB.out (hGx x hx) (HJQ.out x hx.below) (HFA.out _ hlm) (HFO.out _ hlm) (HTA.out _ hlm) hfi)
      have HGX := Lib.hid hGx
      obtain ⟨ob, hob⟩ : ∃ ob, ob = bs ++ [b0] ++ pieces ns 0 (l.take q) := ⟨_, rfl⟩
      rw [← hob] at HPO hfq
      have HOB := Lib.hid hob
      have HFQ := Lib.hid hfq
      generalize hy0 : l[q].kind = y0 at *
      generalize hy1 : l[q].num = y1 at *
      generalize hy2 : l[q].text = y2 at *
      generalize hy3 : l[q].names.length = y3 at *
      generalize hy4 : l[q].list.length = y4 at *
      clear hy0 hy1 hy2 hy3 hy4 hlm hGx hjq hob hfq
      have hka := (Kp.refl B wr).alloc HPO.out.base (.cells #[.int .i64 y0, .int .i64 y1, .string y2, .slice np' y3 nc', .slice lp' y4 lc'] 25)
      have hoa := HPO.out.alloc (.cells #[.int .i64 y0, .int .i64 y1, .string y2, .slice np' y3 nc', .slice lp' y4 lc'] 25)
      have HKA := Lib.hid hka
      have HOA := Lib.hid hoa
      have ba := heap_alloc_new wr (.cells #[.int .i64 y0, .int .i64 y1, .string y2, .slice np' y3 nc', .slice lp' y4 lc'] 25)
      have HBA := Lib.hid ba
      have hsz : (wr.alloc (.cells #[.int .i64 y0, .int .i64 y1, .string y2, .slice np' y3 nc', .slice lp' y4 lc'] 25)).heap.size = wr.heap.size + 1 := by simp
      have HSZ := Lib.hid hsz
      clear hka hoa ba hsz
      have c3a := HC3.out _ (HPK.out.trans HKA.out)
      rcases HNS.out with hns | hns
      · have hn0 : ns.length = 0 := by rw [hns]; rfl
        have HPC : Hid (pieceOf ns q l[q] = (if q = 0 then [] else [44]) ++ Js.print l[q]) := Lib.hid (by unfold pieceOf; rw [hns]; simp)
        rw [hn0] at c3a
        by_cases hq0 : q = 0
        · have q1 : ¬ (0 : Int) < (q : Int) := by omega
          have HPD := Lib.hid (HPC.out.trans (by rw [if_pos hq0]))
          clear hns hq0 hn0
          go_wp2_with fail
          refine (HPUT.out u0 _ _ HOA.out HKA.out (by have := HFQ.out; rw [HPD.out] at this; simp only [List.length_append, List.length_nil, List.length_singleton] at this ⊢; omega)).mono ?_
          rintro e w5 ⟨v5, rfl, ho5, hk5⟩
          have HR5 : Hid (PrR B w1 (bs ++ [b0] ++ pieces ns 0 (l.take (q + 1))) v5 w5) := Lib.hid ⟨by rw [pieces_take hlt, HPD.out, ← List.append_assoc, ← HOB.out]; simpa [List.append_assoc] using ho5, HPK.out.trans (HKA.out.trans hk5)⟩
          clear ho5 hk5
          go_wp2_with fail
          go_roundw
          case rel => exact ⟨q + 1, by omega, by go_num, HR5.out⟩
          case measure => simp [intOf]; omega
        · have q1 : (0 : Int) < (q : Int) := by omega
          have HPD := Lib.hid (HPC.out.trans (by rw [if_neg hq0]))
          obtain ⟨v2, w2, hr2, ho2, hk2⟩ := out_bytes HOA.out [44] (by have := HFQ.out; simp only [List.length_append, List.length_singleton] at this ⊢; omega)
          rw [HSZ.out] at hr2
          have HR2 := Lib.hid hr2
          have HO2 := Lib.hid ho2
          have HK2 := Lib.hid (HKA.out.trans hk2)
          obtain ⟨p0, p1, p2, p3, p4⟩ := obj5_cells (hk2.block HBA.out (by decide))
          have c3b := HC3.out _ (HPK.out.trans HK2.out)
          clear hr2 ho2 hk2
          rw [hn0] at c3b
          clear hns hq0 hn0
          go_wp2_with (at_builtin; refine wpList_append_run rfl _ _ _ _ rfl u0 _ v2 w2 rfl rfl (fun ty => HR2.out ty) ?_)
          refine (HPUT.out v2 _ _ HO2.out HK2.out (by have := HFQ.out; rw [HPD.out] at this; simp only [List.length_append, List.length_nil, List.length_singleton] at this ⊢; omega)).mono ?_
          rintro e w5 ⟨v5, rfl, ho5, hk5⟩
          have HR5 : Hid (PrR B w1 (bs ++ [b0] ++ pieces ns 0 (l.take (q + 1))) v5 w5) := Lib.hid ⟨by rw [pieces_take hlt, HPD.out, ← List.append_assoc, ← HOB.out]; simpa [List.append_assoc] using ho5, HPK.out.trans (HK2.out.trans hk5)⟩
          clear ho5 hk5
          go_wp2_with fail
          go_roundw
          case rel => exact ⟨q + 1, by omega, by go_num, HR5.out⟩
          case measure => simp [intOf]; omega
      · have hqn : q < ns.length := by omega
        have hn1 : (0 : Int) < (ns.length : Int) := by omega
        have hn2 : (q : Int) < (ns.length : Int) := by omega
        have hn3 : (ns.length : Int) ≤ 16777215 := by omega
        rcases HN.out with hnn | ⟨g2, off2, hnp, hs2, hl2, hc2⟩
        · rw [hnn] at hqn; simp at hqn
        subst hnp
        have HNC : Hid (∀ x, Kp B wr x → x.cell? ⟨g2, off2 + q, none⟩ = some (.string ns[q])) := Lib.hid (fun x hx => hc2 x ((HWR.out.trans hx).below.block g2 hs2) q hqn)
        have HTX : Hid (∀ (u : Value) (o : Bs) (x : World), Out B x u o → (o ++ Js.quote ns[q]).length + 40 ≤ lim → Calls Tryd.prog 26 #[u, .string ns[q]] x (AppP B x (o ++ Js.quote ns[q]))) := Lib.hid (fun u o x ho hfi => HTN.out _ (List.getElem_mem hqn) B u o x ho hfi)
        have HPC : Hid (pieceOf ns q l[q] = (if q = 0 then [] else [44]) ++ (Js.quote ns[q] ++ [58]) ++ Js.print l[q]) := Lib.hid (by unfold pieceOf; rw [List.getElem?_eq_getElem hqn])
        have nca := HNC.out _ HKA.out
        generalize hnm : ns[q] = nm at *
        clear hc2 hnm
        by_cases hq0 : q = 0
        · have q1 : ¬ (0 : Int) < (q : Int) := by omega
          have HPD := Lib.hid (HPC.out.trans (by rw [if_pos hq0]))
          clear hq0 hns
          go_wp2_with fail
          refine (HTX.out u0 ob _ HOA.out (by have := HFQ.out; rw [HPD.out] at this; simp only [List.length_append, List.length_nil, List.length_singleton] at this ⊢; omega)).mono ?_
          rintro e w3 ⟨v3, rfl, ho3, hk3⟩
          obtain ⟨v4, w4, hr4, ho4, hk4⟩ := out_bytes ho3 [58] (by have := HFQ.out; rw [HPD.out] at this; simp only [List.length_append, List.length_nil, List.length_singleton] at this ⊢; omega)
          have HR4 := Lib.hid hr4
          have HO4 := Lib.hid ho4
          have HK4 := Lib.hid ((HKA.out.trans hk3).trans hk4)
          have hbp := (hk3.trans hk4).block HBA.out (by decide)
          clear c3a nca
          obtain ⟨p0, p1, p2, p3, p4⟩ := obj5_cells hbp
          clear hr4 ho4 hk4 ho3 hk3 hbp
          go_wp2_with (at_builtin; refine wpList_append_run rfl _ _ _ _ rfl v3 _ v4 w4 rfl rfl (fun ty => HR4.out ty) ?_)
          refine (HPUT.out v4 _ _ HO4.out HK4.out (by have := HFQ.out; rw [HPD.out] at this; simp only [List.length_append, List.length_nil, List.length_singleton] at this ⊢; omega)).mono ?_
          rintro e w5 ⟨v5, rfl, ho5, hk5⟩
          have HR5 : Hid (PrR B w1 (bs ++ [b0] ++ pieces ns 0 (l.take (q + 1))) v5 w5) := Lib.hid ⟨by rw [pieces_take hlt, HPD.out, ← List.append_assoc, ← HOB.out]; simpa [List.append_assoc] using ho5, HPK.out.trans (HK4.out.trans hk5)⟩
          clear ho5 hk5
          go_wp2_with fail
          go_roundw
          case rel => exact ⟨q + 1, by omega, by go_num, HR5.out⟩
          case measure => simp [intOf]; omega
        · have q1 : (0 : Int) < (q : Int) := by omega
          have HPD := Lib.hid (HPC.out.trans (by rw [if_neg hq0]))
          obtain ⟨v2, w2, hr2, ho2, hk2⟩ := out_bytes HOA.out [44] (by have := HFQ.out; simp only [List.length_append, List.length_singleton] at this ⊢; omega)
          rw [HSZ.out] at hr2
          have HR2 := Lib.hid hr2
          have HO2 := Lib.hid ho2
          have HK2 := Lib.hid (HKA.out.trans hk2)
          have HB2B := Lib.hid (hk2.block HBA.out (by decide))
          obtain ⟨p0, p1, p2, p3, p4⟩ := obj5_cells HB2B.out
          have c3b := HC3.out _ (HPK.out.trans HK2.out)
          clear hr2 ho2 hk2
          have ncb := HNC.out _ HK2.out
          clear hq0 hns nca
          go_wp2_with (at_builtin; refine wpList_append_run rfl _ _ _ _ rfl u0 _ v2 w2 rfl rfl (fun ty => HR2.out ty) ?_)
          refine (HTX.out v2 (ob ++ [44]) _ HO2.out (by have := HFQ.out; rw [HPD.out] at this; simp only [List.length_append, List.length_nil, List.length_singleton] at this ⊢; omega)).mono ?_
          rintro e w3 ⟨v3, rfl, ho3, hk3⟩
          obtain ⟨v4, w4, hr4, ho4, hk4⟩ := out_bytes ho3 [58] (by have := HFQ.out; rw [HPD.out] at this; simp only [List.length_append, List.length_nil, List.length_singleton] at this ⊢; omega)
          have HR4 := Lib.hid hr4
          have HO4 := Lib.hid ho4
          have HK4 := Lib.hid ((HK2.out.trans hk3).trans hk4)
          have hbp := (hk3.trans hk4).block HB2B.out (by decide)
          clear c3a c3b ncb p0 p1 p2 p3 p4
          obtain ⟨p0, p1, p2, p3, p4⟩ := obj5_cells hbp
          clear hr4 ho4 hk4 ho3 hk3 hbp
          go_wp2_with (at_builtin; refine wpList_append_run rfl _ _ _ _ rfl v3 _ v4 w4 rfl rfl (fun ty => HR4.out ty) ?_)
          refine (HPUT.out v4 _ _ HO4.out HK4.out (by have := HFQ.out; rw [HPD.out] at this; simp only [List.length_append, List.length_nil, List.length_singleton] at this ⊢; omega)).mono ?_
          rintro e w5 ⟨v5, rfl, ho5, hk5⟩
          have HR5 : Hid (PrR B w1 (bs ++ [b0] ++ pieces ns 0 (l.take (q + 1))) v5 w5) := Lib.hid ⟨by rw [pieces_take hlt, HPD.out, ← List.append_assoc, ← HOB.out]; simpa [List.append_assoc] using ho5, HPK.out.trans (HK4.out.trans hk5)⟩
          clear ho5 hk5
          go_wp2_with fail
          go_roundw
          case rel => exact ⟨q + 1, by omega, by go_num, HR5.out⟩
          case measure => simp [intOf]; omega
    · obtain rfl : q = l.length := by omega
      obtain ⟨ob, hob⟩ : ∃ ob, ob = bs ++ [b0] ++ pieces ns 0 (l.take l.length) := ⟨_, rfl⟩
      rw [← hob] at HPO
      obtain ⟨v2, w2, hr2, ho2, hk2⟩ := out_bytes HPO.out [b1] (by have := HFI.out; rw [hob, List.take_length]; simp only [List.length_append, List.length_singleton] at this ⊢; omega)
      have HR2 := Lib.hid hr2
      have HE : Hid (AppP B w (bs ++ ([b0] ++ pieces ns 0 l ++ [b1])) (.returned v2) w2) := Lib.hid ⟨v2, rfl, by rw [hob, List.take_length] at ho2; simpa [List.append_assoc] using ho2, HWR.out.trans hk2⟩
      clear hr2 ho2 hk2 hob
      go_wp2_with (at_builtin; refine wpList_append_run rfl _ _ _ _ rfl u0 _ v2 w2 rfl rfl (fun ty => HR2.out ty) ?_)
      go_ret
      exact HE.out
set_option maxHeartbeats 1000000 in
set_option maxRecDepth 100000 in
theorem put_list (n : Int) (t : ByteArray) (ns : List ByteArray) (l : List J) (hl : ∀ j ∈ l, PutOk j) : PutOk (.mk 5 n t ns l) := by
  intro B v jv bs w hO hB G hJ hf hfo htx hfit
  have hjj := hJ
  unfold JAt at hJ
  obtain ⟨np, nc, lp, lc, rfl, -, -⟩ := hJ
  have hfe : ns = [] ∧ Js.formedAll l = true := by
    have e : Js.formed (.mk 5 n t ns l) = (decide (n = 0) && decide (t = ByteArray.empty) && ns.isEmpty && Js.formedAll l) := by rw [Js.formed]; rfl
    rw [e] at hfo
    simp only [Bool.and_eq_true, List.isEmpty_iff] at hfo
    exact ⟨hfo.1.2, hfo.2⟩
  have hns : ns = [] ∨ ns.length = l.length := .inl hfe.1
  have hfo2 := hfe.2
  have hp : Js.print (.mk 5 n t ns l) = [91] ++ pieces ns 0 l ++ [93] := by rw [Js.print, pieces_is, hfe.1]; rfl
  clear hfe
  rw [hp] at hfit ⊢
  have hk := (Kp.refl B w).alloc hO.base (.cells #[.int .i64 5, .int .i64 n, .string t, .slice np ns.length nc, .slice lp l.length lc] 25)
  have hja := JAt.frame (S' := fun b => b < B) (w' := w.alloc (.cells #[.int .i64 5, .int .i64 n, .string t, .slice np ns.length nc, .slice lp l.length lc] 25)) (fun _ _ h => h) (fun b hb' _ => hk.below.block b hb') hk.below.size _ _ hjj
  have HC := Lib.hid (parts_any 91 93 5 n t ns l hl B v _ bs _ (hO.alloc _) hB (G.alloc _) hja hf hfo2 hns htx hfit)
  have HK := Lib.hid hk
  generalize bs ++ ([91] ++ pieces ns 0 l ++ [93]) = r at *
  clear hO hfit hp hfo htx hf hk G hja hjj hl hfo2 hns
  go_enter Tryd.func19, Tryd.ntmps19
  go_wp2_with fail
  refine HC.out.mono ?_
  rintro e w1 ⟨v', rfl, h1, h2⟩
  have HE : Hid (AppP B w r (.returned v') w1) := Lib.hid (AppP.from HK.out h1 h2)
  clear h1 h2
  go_wp2_with fail
  go_ret
  exact HE.out
set_option maxHeartbeats 1000000 in
set_option maxRecDepth 100000 in
theorem put_obj (n : Int) (t : ByteArray) (ns : List ByteArray) (l : List J) (hl : ∀ j ∈ l, PutOk j) : PutOk (.mk 6 n t ns l) := by
  intro B v jv bs w hO hB G hJ hf hfo htx hfit
  have hjj := hJ
  unfold JAt at hJ
  obtain ⟨np, nc, lp, lc, rfl, -, -⟩ := hJ
  have hfe : ns.length = l.length ∧ Js.formedAll l = true := by
    have e : Js.formed (.mk 6 n t ns l) = (decide (n = 0) && decide (t = ByteArray.empty) && ns.all runes && Js.distinct ns && decide (ns.length = l.length) && Js.formedAll l) := by rw [Js.formed]; rfl
    rw [e] at hfo
    simp only [Bool.and_eq_true, decide_eq_true_eq] at hfo
    exact ⟨hfo.1.2, hfo.2⟩
  have hns : ns = [] ∨ ns.length = l.length := .inr hfe.1
  have hfo2 := hfe.2
  have hp : Js.print (.mk 6 n t ns l) = [123] ++ pieces ns 0 l ++ [125] := by rw [Js.print, pieces_is]; rfl
  clear hfe
  rw [hp] at hfit ⊢
  have hk := (Kp.refl B w).alloc hO.base (.cells #[.int .i64 6, .int .i64 n, .string t, .slice np ns.length nc, .slice lp l.length lc] 25)
  have hja := JAt.frame (S' := fun b => b < B) (w' := w.alloc (.cells #[.int .i64 6, .int .i64 n, .string t, .slice np ns.length nc, .slice lp l.length lc] 25)) (fun _ _ h => h) (fun b hb' _ => hk.below.block b hb') hk.below.size _ _ hjj
  have HC := Lib.hid (parts_any 123 125 6 n t ns l hl B v _ bs _ (hO.alloc _) hB (G.alloc _) hja hf hfo2 hns htx hfit)
  have HK := Lib.hid hk
  generalize bs ++ ([123] ++ pieces ns 0 l ++ [125]) = r at *
  clear hO hfit hp hfo htx hf hk G hja hjj hl hfo2 hns
  go_enter Tryd.func19, Tryd.ntmps19
  go_wp2_with fail
  refine HC.out.mono ?_
  rintro e w1 ⟨v', rfl, h1, h2⟩
  have HE : Hid (AppP B w r (.returned v') w1) := Lib.hid (AppP.from HK.out h1 h2)
  clear h1 h2
  go_wp2_with fail
  go_ret
  exact HE.out
theorem put_none (k n : Int) (t : ByteArray) (ns : List ByteArray) (l : List J) (q1 : k ≠ 1) (q2 : k ≠ 2) (q3 : k ≠ 3) (q4 : k ≠ 4) (q5 : k ≠ 5) (q6 : k ≠ 6) : PutOk (.mk k n t ns l) := by
  intro B v jv bs w hO hB G hJ hf hfo htx hfit
  have e : Js.formed (.mk k n t ns l) = false := by rw [Js.formed]; simp [q1, q2, q3, q4, q5, q6]
  rw [e] at hfo
  cases hfo
mutual
theorem putval_any : ∀ j, PutOk j
  | .mk k n t ns l => by
    by_cases q1 : k = 1
    · subst q1; exact put_null n t ns l
    by_cases q2 : k = 2
    · subst q2; exact put_bool n t ns l
    by_cases q3 : k = 3
    · subst q3; exact put_int n t ns l
    by_cases q4 : k = 4
    · subst q4; exact put_text n t ns l
    by_cases q5 : k = 5
    · subst q5; exact put_list n t ns l (putval_all l)
    by_cases q6 : k = 6
    · subst q6; exact put_obj n t ns l (putval_all l)
    exact put_none k n t ns l q1 q2 q3 q4 q5 q6
theorem putval_all : ∀ l : List J, ∀ j ∈ l, PutOk j
  | [], _, h => by simp at h
  | a :: l, j, h => by
    rcases List.mem_cons.1 h with h | h
    · rw [h]; exact putval_any a
    · exact putval_all l j h
end
/-- What Print answers. -/
def PrintP (j : J) (w : World) (e : Ending) (w' : World) : Prop := ∃ s : ByteArray, e = .returned (.tuple #[.string s, .int .i64 (Js.printed j).2]) ∧ s = (Js.printed j).1 ∧ Gr none' w w'
set_option maxHeartbeats 1000000 in
set_option maxRecDepth 100000 in
theorem print_any (S : Nat → Prop) (j : J) (v : Value) (w : World) (h : JAt S w j v) (hS : ∀ b, S b → b < w.heap.size) (hf : Fits j) (G : Gl w) (htx : Js.check j = 0 → Txts j ∧ (Js.print j).length + 40 ≤ lim) :
    Calls Tryd.prog 14 #[v] w (PrintP j w) := by
  obtain ⟨np, nc, lp, lc, hv, -, -⟩ := h.five
  have HCH := Lib.hid (fun w' (g : Gr none' w w') => check_any S j v w' (JAt.frame (S' := S) (w' := w') (fun _ _ h => h) (fun b hb hbl => g.block b hbl (fun x => x)) g.size _ _ h) hf (G.weak g))
  have HJ := Lib.hid (fun w' (g : Gr none' w w') => JAt.frame (S' := fun b => b < w.heap.size) (w' := w') (fun b _ hb => hS b hb) (fun b hb hbl => g.block b hbl (fun x => x)) g.size _ _ h)
  have GG := Lib.hid G
  have hpr : Js.check j ≠ 0 → Js.printed j = (ByteArray.empty, Js.check j) := fun h => by unfold Js.printed; rw [if_neg h]
  have hpr0 : Js.check j = 0 → Js.printed j = (⟨(Js.print j).toArray⟩, 0) := fun h => by unfold Js.printed; rw [if_pos h]
  have HPR := Lib.hid hpr
  have HPR0 := Lib.hid hpr0
  have HFM : Hid (Js.check j = 0 → Js.formed j = true) := Lib.hid (fun h => by
    cases hx : Js.formed j with
    | true => rfl
    | false => unfold Js.check at h; rw [if_pos hx] at h; cases h)
  have HTX := Lib.hid htx
  have HGN := Lib.hid G.size
  obtain ⟨x, hx⟩ : ∃ x, x = Js.check j := ⟨_, rfl⟩
  have HX := Lib.hid hx
  generalize j.kind = q0 at *
  generalize j.num = q1 at *
  generalize j.text = q2 at *
  generalize j.names.length = q3 at *
  generalize j.list.length = q4 at *
  subst hv
  have b0 := heap_alloc_new w (.cells #[.int .i64 q0, .int .i64 q1, .string q2, .slice np q3 nc, .slice lp q4 lc] 25)
  have HG1 := Lib.hid ((Gr.refl none' w).alloc (.cells #[.int .i64 q0, .int .i64 q1, .string q2, .slice np q3 nc, .slice lp q4 lc] 25))
  clear h G hpr hpr0 htx hx
  go_enter Tryd.func14, Tryd.ntmps14
  go_wp2_with fail
  refine (HCH.out _ HG1.out).mono ?_
  rintro e w1 ⟨rfl, g1⟩
  rw [← HX.out]
  have x1 := (g1.block _ (Array.getElem?_eq_some_iff.1 b0).1 (fun x => x)).trans b0
  have HG2 := Lib.hid (HG1.out.trans g1)
  obtain ⟨d0, d1, d2, d3, d4⟩ := obj5_cells x1
  clear g1 x1 b0
  by_cases h0 : x = 0
  · subst h0
    obtain ⟨htx, hfi⟩ := HTX.out HX.out.symm
    have hout : Out w.heap.size w1 (.slice none 0 0) [] := ⟨World.ownsRow_nil _ _ _ _, HG2.out.size⟩
    have HPU := Lib.hid (putval_any j w.heap.size (.slice none 0 0) _ [] w1 hout HGN.out (GG.out.weak HG2.out) (HJ.out w1 HG2.out) hf (HFM.out HX.out.symm) htx (by simpa using hfi))
    have HE := Lib.hid (HPR0.out HX.out.symm)
    clear htx hfi hout
    go_wp2_with fail
    refine HPU.out.mono ?_
    rintro e w2 ⟨v2, rfl, ho2, hk2⟩
    rw [List.nil_append] at ho2
    have hcv := own_string ho2.own
    have HF : Hid (Gr none' w w2) := Lib.hid (HG2.out.trans' (Gr.of_below (S := fun b => w.heap.size ≤ b) hk2.below (fun b hb _ => hb)) (fun b hb hs => absurd hb (Nat.not_lt.2 hs)))
    clear ho2 hk2
    go_wp2_with fail
    go_ret2
    exact ⟨⟨(Js.print j).toArray⟩, by rw [HE.out]; rfl, by rw [HE.out], HF.out⟩
  · have HE := Lib.hid (HPR.out (by rw [← HX.out]; exact h0))
    have h0' : (x == 0) = false := by simpa using h0
    clear h0
    go_wp2_with fail
    go_ret2
    exact ⟨⟨#[]⟩, by rw [HE.out, ← HX.out]; rfl, by rw [HE.out]; rfl, HG2.out⟩
end Go.Proofs.YtdooeedemgmpiaaDoor
