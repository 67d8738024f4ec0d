/- Rows of bytes of one's own that calls append to; the call appendText at plain texts. Conditions: those that each theorem names. -/
import Derived.Test.YtdooeedemgmpiaaDoorJsText
import Derived.Laws.AppendOwn
import Derived.Test.YtdooeedemgmpiaaDoorRun
namespace Go.Proofs.YtdooeedemgmpiaaDoor
set_option linter.unusedVariables false
open Go Go.RowKit Js

theorem infoByte : (Tryd.prog.info? 5).map (fun i => (i.zero, i.size, i.bytes)) = some (some (.int .u8 0), 1, 1) := by kernel_rfl
/-- A row of one's own, from block B on, that holds these bytes. -/
structure Out (B : Nat) (w : World) (v : Value) (bs : Bs) : Prop where
  own : w.ownsRow B 5 1 v bs.length (Lib.byteCells bs)
  base : B ≤ w.heap.size
/-- What a call that appends leaves as it was: all blocks below B, and all that are no rows of bytes. -/
structure Kp (B : Nat) (w w' : World) : Prop where
  below : Below B w w'
  others : Lib.OthersKept 5 none w w'
theorem Kp.refl (B : Nat) (w : World) : Kp B w w := ⟨Below.refl _ _, Lib.OthersKept.refl _ _ _⟩
theorem Kp.trans {B : Nat} {w w' w2 : World} (h : Kp B w w') (k : Kp B w' w2) : Kp B w w2 := ⟨h.below.trans k.below, h.others.trans k.others⟩
theorem Kp.alloc {B : Nat} {w w' : World} (h : Kp B w w') (hb : B ≤ w'.heap.size) (o : Obj) : Kp B w (w'.alloc o) := ⟨h.below.alloc hb o, h.others.alloc o⟩
theorem Kp.drewN {B : Nat} {w w' : World} (h : Kp B w w') (n : Nat) : Kp B w (w'.drewN n) := ⟨⟨h.below.os, h.below.tape, h.below.output, h.below.size, h.below.block⟩, h.others⟩
theorem Kp.of_gr {B : Nat} {w w' : World} (h : Gr none' w w') (hb : B ≤ w.heap.size) : Kp B w w' :=
  ⟨h.below (fun _ _ x => x) hb, fun k o hk _ _ => (h.block k (Array.getElem?_eq_some_iff.1 hk).1 (fun x => x)).trans hk⟩
theorem Kp.block {B K : Nat} {w w' : World} {cs : Array Value} {T : TypeId} {m : Nat × Nat} (h : Kp B w w') (hk : w.heap[K]? = some (.cells cs T m)) (hT : T ≠ 5) : w'.heap[K]? = some (.cells cs T m) :=
  h.others K _ hk (by simp) (fun c fz e => hT (by injection e))
theorem Kp.iter {B K pos : Nat} {w w' : World} {s : ByteArray} (h : Kp B w w') (hk : w.heap[K]? = some (.stringIter s pos)) : w'.heap[K]? = some (.stringIter s pos) :=
  h.others K _ hk (by simp) (fun c fz e => by cases e)
/-- What a call that appends answers. -/
def AppP (B : Nat) (w : World) (out : Bs) (e : Ending) (w' : World) : Prop := ∃ v', e = .returned v' ∧ Out B w' v' out ∧ Kp B w w'
theorem Out.nil (w : World) : Out w.heap.size w (.slice none 0 0) [] := ⟨World.ownsRow_nil _ _ _ _, Nat.le_refl _⟩
theorem Out.same {B : Nat} {w w' : World} {v : Value} {bs : Bs} (h : Out B w v bs) (hb : ∀ g, B ≤ g → g < w.heap.size → w'.heap[g]? = w.heap[g]?) (hs : w.heap.size ≤ w'.heap.size) : Out B w' v bs :=
  ⟨h.own.same fun g hg => hb g (h.own.lt g hg).1 (h.own.lt g hg).2, Nat.le_trans h.base hs⟩
theorem Out.gr {B : Nat} {w w' : World} {v : Value} {bs : Bs} (h : Out B w v bs) (g : Gr none' w w') : Out B w' v bs := h.same (fun b _ hb => g.block b hb (fun x => x)) g.size
theorem Out.alloc {B : Nat} {w : World} {v : Value} {bs : Bs} (h : Out B w v bs) (o : Obj) : Out B (w.alloc o) v bs := h.same (fun b _ hb => Below.heap_alloc _ _ _ hb) (by simp)
theorem byteCells_len (bs : Bs) : (Lib.byteCells bs).length = bs.length := by simp [Lib.byteCells]
theorem byteCells_app (a b : Bs) : Lib.byteCells (a ++ b) = Lib.byteCells a ++ Lib.byteCells b := by simp [Lib.byteCells]
theorem byteCells_one (bs : Bs) : ∀ u ∈ Lib.byteCells bs, u.oneCell' = true := fun u hu => by
  simp only [Lib.byteCells, List.mem_map] at hu
  obtain ⟨b, _, rfl⟩ := hu
  rfl
theorem new_cells (w : World) (cs : List Value) (t : TypeId) : ∀ (j : Nat) (u : Value), cs[j]? = some u → (w.alloc (.cells cs.toArray t)).cell? ((⟨w.heap.size, 0, none⟩ : Addr).add j) = some u := fun j u h => by
  have ha : (⟨w.heap.size, 0, none⟩ : Addr).add j = ⟨w.heap.size, j, none⟩ := by unfold Addr.add; split <;> simp_all
  have b := heap_alloc_new w (.cells cs.toArray t)
  rw [ha]
  unfold World.cell?
  rw [b]
  simpa using h
theorem Out.row {B : Nat} {w : World} {v : Value} {bs : Bs} (h : Out B w v bs) : ∀ g, v.ownBlock = some g → ∃ c fz, w.heap[g]? = some (.cells c 5 fz) := fun g hg => by
  rcases h.own.2 with ⟨rfl, _⟩ | ⟨g', cap, cur, rfl, _, hg', _⟩
  · cases hg
  · have e : g' = g := by simpa [Value.ownBlock] using hg
    subst e
    exact ⟨_, _, hg'⟩
theorem Out.grown {B : Nat} {w w1 : World} {v v' : Value} {bs nb : Bs} {o : Obj} (h : Out B w v bs) (h' : w1.ownsRow B 5 1 v' (bs.length + nb.length) (Lib.byteCells bs ++ Lib.byteCells nb)) (hg : (w.alloc o).grownBy w1 v.ownBlock) : Out B w1 v' (bs ++ nb) ∧ Kp B w w1 := by
  have hs := hg.size
  have hb := h.base
  simp at hs
  refine ⟨⟨by rw [List.length_append, byteCells_app]; exact h', by omega⟩, ⟨((Below.refl B w).alloc hb o).grown hg (by simp; omega) fun k hk => (h.own.lt k hk).1, ?_⟩⟩
  exact ((Lib.OthersKept.refl _ _ w).alloc o).grown hg fun g hg' => (h.alloc o).row g hg'
def lim : Nat := 140737488355328
theorem lim_add {a b : Nat} (h : a + b ≤ lim) : a + b ≤ maxLen ∧ (a + b) * 1 ≤ 140737488355328 := by unfold lim at h; unfold maxLen; omega
/-! ### appendText -/
def TextOk (t : ByteArray) : Prop := ∀ (B : Nat) (v : Value) (bs : Bs) (w : World), Out B w v bs → (bs ++ Js.quote t).length + 40 ≤ lim →
  Calls Tryd.prog 26 #[v, .string t] w (AppP B w (bs ++ Js.quote t))
/-- A text that is printed as it is. -/
def plainT (t : ByteArray) : Prop := ∀ c ∈ t.data.toList, 32 ≤ c.toNat ∧ c.toNat < 128 ∧ c ≠ 34 ∧ c ≠ 92
theorem esc_plain {c : UInt8} (h : 32 ≤ c.toNat ∧ c.toNat < 128 ∧ c ≠ 34 ∧ c ≠ 92) : esc c = [c] := by
  obtain ⟨h1, h2, h3, h4⟩ := h
  have e : ∀ d : UInt8, d.toNat < 32 → c ≠ d := fun d hd he => by subst he; omega
  have e9 : ¬ c < 32 := by rw [UInt8.lt_iff_toNat_lt]; show ¬ c.toNat < 32; omega
  unfold esc
  rw [if_neg h3, if_neg h4, if_neg (e 8 (by decide)), if_neg (e 12 (by decide)), if_neg (e 10 (by decide)), if_neg (e 13 (by decide)), if_neg (e 9 (by decide)), if_neg e9]
theorem quote_plain {t : ByteArray} (h : plainT t) : Js.quote t = [34] ++ t.data.toList ++ [34] := by
  have : t.data.toList.flatMap esc = t.data.toList := by
    have key : ∀ l : Bs, (∀ c ∈ l, 32 ≤ c.toNat ∧ c.toNat < 128 ∧ c ≠ 34 ∧ c ≠ 92) → l.flatMap esc = l := by
      intro l
      induction l with
      | nil => intro _; rfl
      | cons c l ih =>
        intro hl
        rw [List.flatMap_cons, esc_plain (hl c (by simp)), ih fun x hx => hl x (by simp [hx])]
        rfl
    exact key _ h
  unfold Js.quote
  rw [this]
/-- Where the loop over the runes stands. -/
structure TxR (B I : Nat) (t : ByteArray) (bs : Bs) (w : World) (k : Nat) (v : Value) (wr : World) : Prop where
  iter : wr.heap[I]? = some (.stringIter t k)
  out : Out B wr v (bs ++ [34] ++ t.data.toList.take k)
  kept : Kp B w wr
theorem idx_none (c : UInt8) (h : 32 ≤ c.toNat ∧ c.toNat < 128 ∧ c ≠ 34 ∧ c ≠ 92) : Lib.indexByte [34, 92, 8, 12, 10, 13, 9] c = -1 := by
  obtain ⟨h1, h2, h3, h4⟩ := h
  have e : ∀ d : UInt8, d.toNat < 32 → (d == c) = false := fun d hd => by rw [beq_eq_false_iff_ne]; intro he; subst he; omega
  have e3 : ((34 : UInt8) == c) = false := by rw [beq_eq_false_iff_ne]; exact fun h => h3 h.symm
  have e4 : ((92 : UInt8) == c) = false := by rw [beq_eq_false_iff_ne]; exact fun h => h4 h.symm
  simp [Lib.indexByte, e3, e4, e 8 (by decide), e 12 (by decide), e 10 (by decide), e 13 (by decide), e 9 (by decide)]
theorem Out.ne {B I pos : Nat} {w : World} {v : Value} {bs : Bs} {s : ByteArray} (h : Out B w v bs) (hi : w.heap[I]? = some (.stringIter s pos)) : ∀ g, v.ownBlock = some g → g ≠ I := fun g hg e => by
  subst e
  rcases h.own.2 with ⟨rfl, _⟩ | ⟨g', cap, cur, rfl, _, hg', _⟩
  · cases hg
  · have e : g' = g := by simpa [Value.ownBlock] using hg
    subst e
    rw [hi] at hg'
    cases hg'
theorem rune_one (c : UInt8) (h : c.toNat < 128) : Lib.runeCells (c.toNat : Int) = Lib.byteCells [c] := by
  unfold Lib.runeCells
  rw [Lib.encodeRuneZ_one (by omega) (by omega)]
  rfl
theorem TxR.next {B I k : Nat} {t : ByteArray} {bs : Bs} {w w2 w4 : World} {v v' : Value} {c : UInt8} (hk : k < t.size) (hc : t.data.toList[k]? = some c) (hi : w2.heap[I]? = some (.stringIter t (k + 1))) (ho : Out B w2 v (bs ++ [34] ++ t.data.toList.take k)) (hb : Kp B w w2)
    (h' : w4.ownsRow B 5 1 v' ((bs ++ [34] ++ t.data.toList.take k).length + (Lib.byteCells [c]).length) (Lib.byteCells (bs ++ [34] ++ t.data.toList.take k) ++ Lib.byteCells [c])) (hg : ∃ o, (w2.alloc o).grownBy w4 v.ownBlock) : TxR B I t bs w (k + 1) v' w4 := by
  obtain ⟨o, hg⟩ := hg
  have hlt := (Array.getElem?_eq_some_iff.1 hi).1
  obtain ⟨h1, h2⟩ := ho.grown (nb := [c]) h' hg
  have e : t.data.toList.take (k + 1) = t.data.toList.take k ++ [c] := by rw [List.take_add_one, hc]; rfl
  refine ⟨?_, by rw [e, ← List.append_assoc]; exact h1, hb.trans h2⟩
  rw [hg.block I (by simp; omega) (fun x => ho.ne hi I x.symm rfl)]
  exact (Below.heap_alloc _ _ _ hlt).trans hi
set_option maxHeartbeats 1000000 in
set_option maxRecDepth 100000 in
theorem text_plain (t : ByteArray) (ht : plainT t) : TextOk t := by
  intro B v bs w hO hfit
  obtain ⟨i0, hi, hz0, hz1, hz2⟩ := info_parts infoByte
  have HQ := Lib.hid (quote_plain ht)
  have HT := Lib.hid ht
  have HO := Lib.hid hO
  rw [quote_plain ht] at hfit
  have HF : Hid (bs.length + t.size + 42 ≤ lim) := Lib.hid (by simp only [List.length_append, List.length_singleton, ← Lib.size_eq] at hfit; omega)
  have hown := hO.own
  have hbase := hO.base
  clear hO hfit ht
  have HA : Hid (bs.length + 1 ≤ maxLen ∧ (bs.length + 1) * 1 ≤ 140737488355328) := Lib.hid (lim_add (by have := HF.out; omega))
  go_enter Tryd.func26, Tryd.ntmps26
  go_wp2_with (at_builtin; refine wpList_append_own _ rfl _ _ 48 rfl B 5 i0 (.int .u8 0) 1 1 Tryd.underlying48 hi hz0 hz1 hz2 rfl (by decide) _ _ _ rfl (hown.alloc _) ⟨w.heap.size, 0, none⟩ 1 1 (Lib.byteCells [34]) rfl rfl (new_cells w (Lib.byteCells [34]) _) (byteCells_one _) HA.out.1 HA.out.2 (by simp; omega) ?_)
  intro v' w1 hown' hgrow _
  have hN := HO.out.grown (nb := [34]) hown' hgrow
  have H1 := Lib.hid hN
  clear hown' hgrow hown hN hbase
  have hI1 : B < w1.heap.size + 1 := Nat.lt_succ_of_le H1.out.1.base
  go_wp2_with fail
  have H0 : Hid (TxR B w1.heap.size t bs w 0 v' (w1.iter t 0)) := Lib.hid ⟨World.iter_heap w1 t 0, by rw [List.take_zero, List.append_nil]; exact H1.out.1.alloc (.stringIter t 0), H1.out.2.alloc H1.out.1.base (.stringIter t 0)⟩
  have hwI : w.heap.size ≤ w1.heap.size := H1.out.2.below.size
  obtain ⟨I, hI⟩ : ∃ I, I = w1.heap.size := ⟨_, rfl⟩
  rw [← hI] at H0
  rw [← hI]
  rw [← hI] at hwI
  have hBI : B ≤ I := by omega
  generalize w1.iter t 0 = W0 at *
  clear hI H1 hI1
  go_loopw [0] (fun x wr => ∃ k : Nat, k ≤ t.size ∧ TxR B I t bs w k x wr) (fun _ wr => t.size - wr.iterPos I)
  case atStart => exact ⟨0, Nat.zero_le _, H0.out⟩
  case round =>
    obtain ⟨k, hk, hT⟩ := hrel
    have HTR := Lib.hid hT
    have hit := hT.iter
    clear hT
    by_cases hlt : k < t.size
    · obtain ⟨c, hc⟩ : ∃ c, c = t.data.toList[k]'(by rw [Array.length_toList]; exact hlt) := ⟨_, rfl⟩
      have hcm : c ∈ t.data.toList := by rw [hc]; exact List.getElem_mem _
      have hcp := HT.out c hcm
      have hdl := Lib.decodeL_drop t k
      have hcr : t.data.toList.drop k = c :: t.data.toList.drop (k + 1) := by rw [hc]; exact List.drop_eq_getElem_cons _
      rw [hcr] at hdl
      have hnx : ∀ ty, (Instr.next (.pointer (some ⟨I, 0, none⟩)) true ty).run Tryd.prog wr = _ := fun ty => Lib.run_next_any_at wr I t k ty hit hlt
      rw [← hdl] at hnx
      obtain ⟨e1, e2⟩ := rune_is [] c (t.data.toList.drop (k + 1)) hcp.2.1
      have e1' : (Lib.decodeL (c :: t.data.toList.drop (k + 1))).1 = c.toNat := e1
      have e2' : (Lib.decodeL (c :: t.data.toList.drop (k + 1))).2 = 1 := e2
      rw [e1', e2'] at hnx
      obtain ⟨w2, hw2⟩ : ∃ w2, w2 = wr.iterAt I t (k + 1) := ⟨_, rfl⟩
      rw [← hw2] at hnx
      have it2 : w2.heap[I]? = some (.stringIter t (k + 1)) := by rw [hw2]; exact Lib.iterAt_heap wr _ t k _ hit
      have ot2 : ∀ j, j ≠ I → w2.heap[j]? = wr.heap[j]? := fun j hj => by rw [hw2]; exact Lib.iterAt_other wr _ j t _ hj
      have sz2 : w2.heap.size = wr.heap.size := by rw [hw2]; exact Lib.iterAt_size wr _ t _
      have hbw : Below B wr w2 := ⟨by rw [hw2]; rfl, by rw [hw2]; rfl, by rw [hw2]; rfl, by rw [sz2]; exact Nat.le_refl _, fun j hj => ot2 j (by omega)⟩
      have hkw : Kp B w w2 := ⟨HTR.out.kept.below.trans hbw, fun j o hj hn ho => (ot2 j (by have := (Array.getElem?_eq_some_iff.1 hj).1; omega)).trans (HTR.out.kept.others j o hj hn ho)⟩
      have ho2 : Out B w2 u0 (bs ++ [34] ++ t.data.toList.take k) := ⟨HTR.out.out.own.same fun g hg => ot2 g (HTR.out.out.ne HTR.out.iter g hg), by rw [sz2]; exact HTR.out.out.base⟩
      have HO2 := Lib.hid ho2
      have HB2 := Lib.hid hkw
      have HI2 := Lib.hid it2
      have hck : t.data.toList[k]? = some c := by rw [hc]; exact List.getElem?_eq_getElem _
      have HCK := Lib.hid hck
      have HIX : Hid (∀ w, Calls Tryd.prog 41 #[.string ⟨#[34, 92, 8, 12, 10, 13, 9]⟩, .int .i32 c.toNat] w fun e w' => e = .returned (.int .i64 (-1)) ∧ w' = w) := Lib.hid (fun w => by
        have := Tryd.strings_IndexRune_ascii ⟨#[34, 92, 8, 12, 10, 13, 9]⟩ c.toNat w (by omega) (by omega)
        rw [show ((c.toNat : Int)).toNat.toUInt8 = c by simp] at this
        rw [show (⟨#[34, 92, 8, 12, 10, 13, 9]⟩ : ByteArray).data.toList = [34, 92, 8, 12, 10, 13, 9] from rfl, idx_none c hcp] at this
        exact this)
      have hlen : (bs ++ [34] ++ t.data.toList.take k).length + 4 ≤ 140737488355328 := by
        have := HF.out
        unfold lim at this
        simp only [List.length_append, List.length_take, List.length_singleton, ← Lib.size_eq]
        omega
      have HAR := Lib.hid (Tryd.utf8_AppendRune_plain B u0 (bs ++ [34] ++ t.data.toList.take k).length (Lib.byteCells (bs ++ [34] ++ t.data.toList.take k)) c.toNat (by omega) (by omega) w2 ho2.own hlen ho2.base)
      rw [rune_one c hcp.2.1] at HAR
      have g1 : ¬ (c.toNat : Int) < 32 := by omega
      have hms : wr.iterPos I = k := by unfold World.iterPos; rw [hit]
      have HMS := Lib.hid hms
      have hltI := (Array.getElem?_eq_some_iff.1 hit).1
      clear hc hcm hcp hdl hcr e1 e2 e1' e2' hw2 it2 ot2 sz2 hbw hkw ho2 hck hlen hms hit
      go_wp2_with fail
      refine (HIX.out _).mono ?_
      rintro e w3 ⟨rfl, rfl⟩
      go_wp2_with fail
      refine HAR.out.mono ?_
      rintro e w4 ⟨v4, rfl, ho4, hg4⟩
      have HN := Lib.hid (TxR.next hlt HCK.out HI2.out HO2.out HB2.out ho4 hg4)
      clear ho4 hg4
      go_wp2_with fail
      go_roundw
      case rel => exact ⟨k + 1, by omega, HN.out⟩
      case measure =>
        rw [HMS.out, show w4.iterPos I = k + 1 by unfold World.iterPos; rw [HN.out.iter]]
        omega
    · obtain rfl : k = t.size := by omega
      have hnx : ∀ ty, (Instr.next (.pointer (some ⟨I, 0, none⟩)) true ty).run Tryd.prog wr = _ := fun ty => Lib.run_next_end_at wr I t t.size ty hit hlt
      obtain ⟨ob, hob⟩ : ∃ ob, ob = bs ++ [34] ++ t.data.toList.take t.size := ⟨_, rfl⟩
      have hO := HTR.out.out
      rw [← hob] at hO
      have HOO := Lib.hid hO
      have hown := hO.own
      have HA2 : Hid (ob.length + 1 ≤ maxLen ∧ (ob.length + 1) * 1 ≤ 140737488355328) := Lib.hid (lim_add (by
        have := HF.out
        rw [hob]
        simp only [List.length_append, List.length_take, List.length_singleton, ← Lib.size_eq]
        omega))
      have hbase := hO.base
      have HOB := Lib.hid hob
      clear hit hob hO
      go_wp2_with (at_builtin; refine wpList_append_own _ rfl _ _ 48 rfl B 5 i0 (.int .u8 0) 1 1 Tryd.underlying48 hi hz0 hz1 hz2 rfl (by decide) _ _ _ rfl (hown.alloc _) ⟨wr.heap.size, 0, none⟩ 1 1 (Lib.byteCells [34]) rfl rfl (new_cells wr (Lib.byteCells [34]) _) (byteCells_one _) HA2.out.1 HA2.out.2 (by simp; omega) ?_)
      intro v4 w4 hown' hgrow _
      have hN := HOO.out.grown (nb := [34]) hown' hgrow
      have HN : Hid (AppP B w (bs ++ Js.quote t) (.returned v4) w4) := Lib.hid (by
        refine ⟨v4, rfl, ?_, HTR.out.kept.trans hN.2⟩
        have h := hN.1
        rw [HOB.out, List.take_of_length_le (Nat.le_of_eq (Lib.size_eq t).symm)] at h
        rw [HQ.out]
        simpa using h)
      clear hown' hgrow hown hN hbase
      go_wp2_with fail
      go_ret
      exact HN.out
end Go.Proofs.YtdooeedemgmpiaaDoor
