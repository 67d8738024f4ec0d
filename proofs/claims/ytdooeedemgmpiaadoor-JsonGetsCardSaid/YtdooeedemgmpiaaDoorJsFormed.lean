/- The calls formed and allFormed. Conditions: those that each theorem names. -/
import Derived.Test.YtdooeedemgmpiaaDoorJsNamed
namespace Go.Proofs.YtdooeedemgmpiaaDoor
set_option linter.unusedVariables false
open Go Go.RowKit Js

def FormedOk (j : J) : Prop := ∀ (S : Nat → Prop) (v : Value) (w : World), JAt S w j v → Fits j → Gl w →
  Calls Tryd.prog 22 #[v] w fun e w' => e = .returned (.bool (Js.formed j)) ∧ Gr none' w w'
theorem formed_all (l : List J) : Js.formedAll l = true ↔ ∀ j ∈ l, Js.formed j = true := by
  induction l with
  | nil => simp [Js.formedAll]
  | cons j l ih => simp [Js.formedAll, ih]
def FormR (l : List J) (w : World) (k : Nat) (wr : World) : Prop := Gr none' w wr ∧ ∀ j ∈ l.take k, Js.formed j = true
set_option maxHeartbeats 1000000 in
set_option maxRecDepth 100000 in
theorem all_formed (S : Nat → Prop) (l : List J) (hl : ∀ j ∈ l, FormedOk j) (lp : Option Addr) (lc : Nat) (w : World) (hk : KidsAt S w lp 0 l) (hlen : l.length ≤ 16777215) (hfall : FitsAll l) (G : Gl w) :
    Calls Tryd.prog 37 #[.slice lp l.length lc] w fun e w' => e = .returned (.bool (Js.formedAll l)) ∧ Gr none' w w' := by
  have HF := Lib.hid hfall.mem
  have hlen' : (l.length : Int) ≤ 16777215 := by omega
  have HD := Lib.hid hl
  have HK := Lib.hid hk
  have GG := Lib.hid G
  clear hl hk hfall G
  go_enter Tryd.func37, Tryd.ntmps37
  go_wp2_with fail
  go_loopw [7] (fun i wr => ∃ q : Nat, q ≤ l.length ∧ i = .int .i64 q ∧ FormR l w q wr) (fun i _ => l.length - (intOf i).toNat)
  case atStart => exact ⟨0, Nat.zero_le _, rfl, Gr.refl _ w, by simp⟩
  case round =>
    obtain ⟨q, hq, rfl, hg, hd⟩ := hrel
    have HG := Lib.hid hg
    have HDD := Lib.hid hd
    by_cases hlt : q < l.length
    · obtain ⟨g, off, v, rfl, hs, hgl, hf, hj⟩ := HK.out.at q hlt
      have hf' := hf.frame (hg.block g hgl (fun x => x))
      have HJ := Lib.hid (JAt.frame (S' := S) (w' := wr) (fun _ _ h => h) (fun b hb hbl => hg.block b hbl (fun x => x)) hg.size _ _ hj)
      obtain ⟨np', nc', lp', lc', rfl, -, -⟩ := hj.five
      obtain ⟨a, b, c, d, e, he, hc⟩ := hf'
      simp only [Value.agg.injEq] at he
      simp at he
      obtain ⟨rfl, rfl, rfl, rfl, rfl⟩ := he
      obtain ⟨c0, c1, c2, c3, c4⟩ := hc wr rfl
      have HC := Lib.hid (HD.out l[q] (List.getElem_mem hlt) S)
      have HGL := Lib.hid hgl
      have HGW := Lib.hid (GG.out.weak hg)
      generalize hy : l[q].names.length = y1 at *
      generalize hz : l[q].list.length = y2 at *
      generalize hk : l[q].kind = q1 at *
      generalize hm : l[q].num = q2 at *
      generalize ht : l[q].text = q3 at *
      rw [Nat.zero_add] at c0 c1 c2 c3 c4
      clear hg hd hs hgl hf hj hc hy hz hk ht
      go_wp2_with fail
      refine (HC.out _ _ (HJ.out.alloc _) (HF.out _ (List.getElem_mem hlt)) (HGW.out.alloc _)).mono ?_
      rintro e w5 ⟨rfl, hg5⟩
      have HG5 : Hid (Gr none' w w5) := Lib.hid ((HG.out.alloc _).trans hg5)
      clear hg5
      cases hb : Js.formed l[q] with
      | false =>
        have HE : Hid (Js.formedAll l = false) := Lib.hid (by
          rw [← Bool.not_eq_true, formed_all]
          intro h
          rw [h _ (List.getElem_mem hlt)] at hb
          cases hb)
        go_wp2_with fail
        go_ret
        rw [HE.out]
        exact ⟨rfl, HG5.out⟩
      | true =>
        have HR : Hid (FormR l w (q + 1) w5) := Lib.hid ⟨HG5.out, fun j hj => by
          rw [List.take_succ_eq_append_getElem hlt, List.mem_append, List.mem_singleton] at hj
          rcases hj with hj | rfl
          · exact HDD.out j hj
          · exact hb⟩
        go_wp2_with fail
        go_roundw
        case rel => exact ⟨q + 1, by omega, by go_num, HR.out⟩
        case measure => simp [intOf]; omega
    · obtain rfl : q = l.length := by omega
      have HE : Hid (Js.formedAll l = true) := Lib.hid ((formed_all l).2 fun j hj => hd j (by rwa [List.take_length]))
      clear hg hd
      go_wp2_with fail
      go_ret
      rw [HE.out]
      exact ⟨rfl, HG.out⟩
theorem empty_toList (t : ByteArray) : decide (t = ByteArray.empty) = t.toList.isEmpty := by
  rw [Go.ByteArray.toList_eq, Bool.eq_iff_iff, decide_eq_true_iff, List.isEmpty_iff]
  constructor
  · rintro rfl; rfl
  · intro h
    have : t.data = #[] := by simpa using h
    cases t with
    | mk d => simp only at this; rw [this]; rfl
theorem isEmpty_len (ns : List ByteArray) : ns.isEmpty = decide (ns.length = 0) := by cases ns <;> simp
set_option maxHeartbeats 1000000 in
set_option maxRecDepth 100000 in
theorem formed_list (n : Int) (t : ByteArray) (ns : List ByteArray) (l : List J) (hl : ∀ j ∈ l, FormedOk j) : FormedOk (.mk 5 n t ns l) := by
  intro S v w h hfit G
  unfold JAt at h
  obtain ⟨np, nc, lp, lc, rfl, hn, hk⟩ := h
  unfold Fits at hfit
  obtain ⟨h1, h2, h3, h4, h5⟩ := hfit
  have HN := Lib.hid hn
  have HK := Lib.hid hk
  have GG := Lib.hid G
  have HL := Lib.hid hl
  clear hn hk G hl
  go_enter Tryd.func22, Tryd.ntmps22
  have b0 := heap_alloc_new w (.cells #[.int .i64 5, .int .i64 n, .string t, .slice np ns.length nc, .slice lp l.length lc] 25)
  go_wp2
  go_region_held3 (fun x => x.cell? ⟨w.heap.size, 0, none⟩ = some (.int .i64 5) ∧ x.cell? ⟨w.heap.size, 1, none⟩ = some (.int .i64 n) ∧ x.cell? ⟨w.heap.size, 2, none⟩ = some (.string t) ∧ x.cell? ⟨w.heap.size, 3, none⟩ = some (.slice np ns.length nc) ∧ x.cell? ⟨w.heap.size, 4, none⟩ = some (.slice lp l.length lc)) (go_keep) (fail)
  go_wp2_with fail
  have HKK : ∀ o : Obj, KidsAt S ((w.alloc o).alloc o).drew lp 0 l := fun o => KidsAt.frame (S' := S) (w := w) (w' := ((w.alloc o).alloc o).drew) (fun _ _ h => h) (fun b _ hb => (Below.heap_alloc (w.alloc o) o b (by simp; omega)).trans (Below.heap_alloc w o b hb)) (by show w.heap.size ≤ ((w.alloc o).alloc o).heap.size; simp; omega) lp 0 l HK.out
  have HGG : ∀ o : Obj, Gl ((w.alloc o).alloc o).drew := fun o => ((GG.out.alloc o).alloc o).drewN 1
  refine (all_formed S l HL.out lp lc _ (HKK _) h3 h5 (HGG _)).mono ?_
  rintro e w5 ⟨rfl, hg5⟩
  have hB : w5.heap[w.heap.size + 1]? = some (.cells #[.int .i64 5, .int .i64 n, .string t, .slice np ns.length nc, .slice lp l.length lc] 25 (0, 0)) := by
    refine (hg5.block _ (by simp) (fun x => x)).trans ?_
    have := heap_alloc_new (w.alloc (.cells #[.int .i64 5, .int .i64 n, .string t, .slice np ns.length nc, .slice lp l.length lc] 25)) (.cells #[.int .i64 5, .int .i64 n, .string t, .slice np ns.length nc, .slice lp l.length lc] 25)
    rw [show (w.alloc (.cells #[.int .i64 5, .int .i64 n, .string t, .slice np ns.length nc, .slice lp l.length lc] 25)).heap.size = w.heap.size + 1 by simp] at this
    exact this
  have HG5 : Hid (Gr none' w w5) := Lib.hid ((((Gr.refl _ w).alloc _).alloc _).drew.trans hg5)
  have d1 : w5.cell? ⟨w.heap.size + 1, 1, none⟩ = some (.int .i64 n) := by simp [World.cell?, hB]
  have d2 : w5.cell? ⟨w.heap.size + 1, 2, none⟩ = some (.string t) := by simp [World.cell?, hB]
  have d3 : w5.cell? ⟨w.heap.size + 1, 3, none⟩ = some (.slice np ns.length nc) := by simp [World.cell?, hB]
  have d4 : w5.cell? ⟨w.heap.size + 1, 4, none⟩ = some (.slice lp l.length lc) := by simp [World.cell?, hB]
  have k4 : w5.frozen? ⟨w.heap.size + 1, 4, none⟩ = false := by simp [World.frozen?, hB]
  clear hB hg5
  have HE : Hid (Js.formed (.mk 5 n t ns l) = (decide (n = 0) && decide (t = ByteArray.empty) && ns.isEmpty && Js.formedAll l)) := Lib.hid (by rw [Js.formed]; rfl)
  rw [empty_toList, isEmpty_len] at HE
  have hG6 : ∀ x, Gr none' w (w5.setCell ⟨w.heap.size + 1, 4, none⟩ x) := fun x => Gr.setCell (S := none') (a := ⟨w.heap.size + 1, 4, none⟩) HG5.out (fun h => absurd h (by show ¬ w.heap.size + 1 < w.heap.size; omega)) x
  have HG6 := Lib.hid hG6
  clear hG6
  cases hx : Js.formedAll l <;> rw [hx] at HE <;> clear hx
  all_goals go_wp2_with fail
  all_goals go_ret
  all_goals refine ⟨?_, HG6.out _⟩
  all_goals rw [HE.out]
  all_goals (show Ending.returned (Value.bool _) = Ending.returned (Value.bool _))
  all_goals (refine congrArg (fun b => Ending.returned (Value.bool b)) ?_)
  all_goals first | (simp [*]; done) | (simp_all; done)
theorem isEmpty_len' (ns : List J) : ns.isEmpty = decide (ns.length = 0) := by cases ns <;> simp
set_option maxHeartbeats 1000000 in
set_option maxRecDepth 100000 in
theorem formed_null (n : Int) (t : ByteArray) (ns : List ByteArray) (l : List J) : FormedOk (.mk 1 n t ns l) := by
  intro S v w h hfit G
  unfold JAt at h
  obtain ⟨np, nc, lp, lc, rfl, hn, hk⟩ := h
  unfold Fits at hfit
  obtain ⟨h1, h2, h3, h4, h5⟩ := hfit
  have HE : Hid (Js.formed (.mk 1 n t ns l) = (decide (n = 0) && decide (t = ByteArray.empty) && ns.isEmpty && l.isEmpty)) := Lib.hid (by rw [Js.formed]; rfl)
  rw [empty_toList, isEmpty_len, isEmpty_len'] at HE
  clear hn hk G h4 h5
  go_enter Tryd.func22, Tryd.ntmps22
  go_wp2_with fail
  have b0 := heap_alloc_new w (.cells #[.int .i64 1, .int .i64 n, .string t, .slice np ns.length nc, .slice lp l.length lc] 25)
  go_wp2
  go_region_held3 (fun x => x.cell? ⟨w.heap.size, 0, none⟩ = some (.int .i64 1) ∧ x.cell? ⟨w.heap.size, 1, none⟩ = some (.int .i64 n) ∧ x.cell? ⟨w.heap.size, 2, none⟩ = some (.string t) ∧ x.cell? ⟨w.heap.size, 3, none⟩ = some (.slice np ns.length nc) ∧ x.cell? ⟨w.heap.size, 4, none⟩ = some (.slice lp l.length lc)) (go_keep) (fail)
  have HG5 : ∀ o : Obj, Gr none' w ((w.alloc o).alloc o).drew := fun o => (((Gr.refl _ w).alloc _).alloc _).drew
  have HG6 : ∀ (o : Obj) x i, Gr none' w (((w.alloc o).alloc o).drew.setCell ⟨w.heap.size + 1, i, none⟩ x) := fun o x i => Gr.setCell (S := none') (a := ⟨w.heap.size + 1, i, none⟩) (HG5 o) (fun h => absurd h (by show ¬ w.heap.size + 1 < w.heap.size; omega)) x
  have H5 := Lib.hid HG5
  have H6 := Lib.hid HG6
  clear HG5 HG6
  go_wp2_with fail
  all_goals go_ret
  all_goals refine ⟨?_, by first | exact H5.out _ | exact H6.out _ _ _ | exact (((Gr.refl _ w).alloc _).alloc _).drew⟩
  all_goals rw [HE.out]
  all_goals (show Ending.returned (Value.bool _) = Ending.returned (Value.bool _))
  all_goals (refine congrArg (fun b => Ending.returned (Value.bool b)) ?_)
  all_goals first | (simp [*]; done) | (simp_all; done) | (simp_all; rw [Bool.eq_iff_iff]; cases l <;> simp <;> omega)
set_option maxHeartbeats 1000000 in
set_option maxRecDepth 100000 in
theorem formed_bool (n : Int) (t : ByteArray) (ns : List ByteArray) (l : List J) : FormedOk (.mk 2 n t ns l) := by
  intro S v w h hfit G
  unfold JAt at h
  obtain ⟨np, nc, lp, lc, rfl, hn, hk⟩ := h
  unfold Fits at hfit
  obtain ⟨h1, h2, h3, h4, h5⟩ := hfit
  have HE : Hid (Js.formed (.mk 2 n t ns l) = ((decide (n = 0) || decide (n = 1)) && decide (t = ByteArray.empty) && ns.isEmpty && l.isEmpty)) := Lib.hid (by rw [Js.formed]; rfl)
  rw [empty_toList, isEmpty_len, isEmpty_len'] at HE
  clear hn hk G h4 h5
  go_enter Tryd.func22, Tryd.ntmps22
  go_wp2_with fail
  have b0 := heap_alloc_new w (.cells #[.int .i64 2, .int .i64 n, .string t, .slice np ns.length nc, .slice lp l.length lc] 25)
  go_wp2
  go_region_held3 (fun x => x.cell? ⟨w.heap.size, 0, none⟩ = some (.int .i64 2) ∧ x.cell? ⟨w.heap.size, 1, none⟩ = some (.int .i64 n) ∧ x.cell? ⟨w.heap.size, 2, none⟩ = some (.string t) ∧ x.cell? ⟨w.heap.size, 3, none⟩ = some (.slice np ns.length nc) ∧ x.cell? ⟨w.heap.size, 4, none⟩ = some (.slice lp l.length lc)) (go_keep) (fail)
  have HG5 : ∀ o : Obj, Gr none' w ((w.alloc o).alloc o).drew := fun o => (((Gr.refl _ w).alloc _).alloc _).drew
  have HG6 : ∀ (o : Obj) x i, Gr none' w (((w.alloc o).alloc o).drew.setCell ⟨w.heap.size + 1, i, none⟩ x) := fun o x i => Gr.setCell (S := none') (a := ⟨w.heap.size + 1, i, none⟩) (HG5 o) (fun h => absurd h (by show ¬ w.heap.size + 1 < w.heap.size; omega)) x
  have H5 := Lib.hid HG5
  have H6 := Lib.hid HG6
  clear HG5 HG6
  go_wp2_with fail
  all_goals go_ret
  all_goals refine ⟨?_, by first | exact H5.out _ | exact H6.out _ _ _ | exact (((Gr.refl _ w).alloc _).alloc _).drew⟩
  all_goals rw [HE.out]
  all_goals (show Ending.returned (Value.bool _) = Ending.returned (Value.bool _))
  all_goals (refine congrArg (fun b => Ending.returned (Value.bool b)) ?_)
  all_goals first | (simp [*]; done) | (simp_all; done) | (simp_all; rw [Bool.eq_iff_iff]; cases l <;> simp <;> omega)
end Go.Proofs.YtdooeedemgmpiaaDoor
