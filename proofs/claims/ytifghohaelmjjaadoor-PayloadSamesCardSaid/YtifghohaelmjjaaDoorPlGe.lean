/- payload's Get. Conditions: those that each theorem names. -/
import Derived.Test.YtifghohaelmjjaaDoorPlGt
namespace Go.Proofs.YtifghohaelmjjaaDoor
set_option linter.unusedVariables false
open Go Go.RowKit Go.Shelf Pl
set_option maxHeartbeats 1000000 in
set_option maxRecDepth 100000 in
theorem named_any (nm t s : ByteArray) (k n : Int) (g : Nat) (w : World) (h : w.heap[g]? = some (.cells #[.string s] 9 (0, 0))) :
    Calls Tryd.prog 65 #[.agg #[.string nm, .int .i64 k, .int .i64 n, .string t], .pointer (some ⟨g, 0, none⟩)] w fun e w' => e = .returned (.bool (nm.toList == s.toList)) ∧ Below w.heap.size w w' := by
  have hg : g < w.heap.size := (Array.getElem?_eq_some_iff.1 h).1
  have c0 : (w.alloc (.cells #[.string nm, .int .i64 k, .int .i64 n, .string t] 61)).cell? ⟨g, 0, none⟩ = some (.string s) := by
    rw [← heap_old w (.cells #[.string nm, .int .i64 k, .int .i64 n, .string t] 61) hg] at h
    rw [Lib.cell_of_heap h]; rfl
  obtain ⟨d0, d1, d2, d3⟩ := cells4_of (heap_last w (.cells #[.string nm, .int .i64 k, .int .i64 n, .string t] 61))
  go_enter Tryd.func65, Tryd.ntmps65
  go_wp2_with fail
  go_ret
  exact ⟨rfl, fresh_alloc _ _⟩
theorem named_enters : ∀ args w, (callFunc 65 args).run Tryd.prog w = .ok (.enter 65 args) w := enters_of Tryd.func65 (by kernel_rfl) rfl
/-- The place of the first field of a name, behind k; -1: there is none. -/
def idxL (L : List Fld) (s : Nm) (k : Nat) : Int :=
  match (L.drop k).findIdx? (fun x => x.name.toList == s.toList) with
    | some i => ((k + i : Nat) : Int)
    | none => -1
theorem idx_hit {L : List Fld} {k : Nat} {x : Fld} {s : Nm} (hx : L[k]? = some x) (e : (x.name.toList == s.toList) = true) : idxL L s k = k := by
  have hk : k < L.length := (List.getElem?_eq_some_iff.1 hx).1
  have e2 := (List.getElem?_eq_some_iff.1 hx).2
  unfold idxL
  rw [List.drop_eq_getElem_cons hk, e2, List.findIdx?_cons, e]
  rfl
theorem idx_miss {L : List Fld} {k : Nat} {x : Fld} {s : Nm} (hx : L[k]? = some x) (e : (x.name.toList == s.toList) = false) : idxL L s k = idxL L s (k + 1) := by
  have hk : k < L.length := (List.getElem?_eq_some_iff.1 hx).1
  have e2 := (List.getElem?_eq_some_iff.1 hx).2
  unfold idxL
  rw [List.drop_eq_getElem_cons hk, e2, List.findIdx?_cons, e]
  cases (L.drop (k + 1)).findIdx? (fun x => x.name.toList == s.toList) with
  | none => rfl
  | some i =>
    show ((k + (i + 1) : Nat) : Int) = ((k + 1 + i : Nat) : Int)
    omega
set_option maxHeartbeats 1000000 in
set_option maxRecDepth 100000 in
theorem index_any (L : List Fld) (v : Value) (s : Nm) (g : Nat) (w : World) (h : FldsAt w v L) (hl : FldsOk L) (hs : w.heap[g]? = some (.cells #[.string s] 9 (0, 0))) :
    Calls Tryd.prog 64 #[v, .func (.func 65) #[] #[.pointer (some ⟨g, 0, none⟩)]] w fun e w' => e = .returned (.int .i64 (idxL L s 0)) ∧ Below w.heap.size w w' := by
  have hg := named_enters
  have hgl : g < w.heap.size := (Array.getElem?_eq_some_iff.1 hs).1
  have HX := Lib.hid (fun nm t k n W (b : Below w.heap.size w W) => named_any nm t s k n g W ((b.block g hgl).trans hs))
  obtain ⟨r, hr⟩ : ∃ r, r = idxL L s 0 := ⟨_, rfl⟩
  rw [← hr]
  have HR := Lib.hid hr
  have HS := Lib.hid (room_len hl.1)
  clear hr hl hs
  rcases h with ⟨rfl, q, c, rfl⟩ | ⟨b, off, c, rfl, hb, hc⟩
  · go_enter Tryd.func64, Tryd.ntmps64
    go_wp2
    go_loop [8] (fun i => i = .int .i64 0) (fun _ => 0)
    case atStart => rfl
    case round =>
      subst hrel
      go_wp2
      go_ret
      rw [HR.out]
      exact ⟨rfl, Below.refl _ _⟩
  · have HC := Lib.hid hc
    have HB := Lib.hid hb
    clear hc hb
    go_enter Tryd.func64, Tryd.ntmps64
    go_wp2
    go_loopw [8] (fun i wr => ∃ k : Nat, k ≤ L.length ∧ i = .int .i64 k ∧ Below w.heap.size w wr ∧ Hid (r = idxL L s k)) (fun i _ => L.length - (intOf i).toNat)
    case atStart => exact ⟨0, Nat.zero_le _, rfl, Below.refl _ _, HR⟩
    case round =>
      obtain ⟨k, hk, rfl, hbw, HA⟩ := hrel
      have HBW := Lib.hid hbw
      clear hbw
      by_cases hlt : k < L.length
      · obtain ⟨c0, c1, c2, c3⟩ := HC.out wr (HBW.out.block b HB.out) k hlt
        have hx : L[k]? = some L[k] := List.getElem?_eq_getElem hlt
        generalize hcc : L[k] = x at hx c0 c1 c2 c3
        obtain ⟨nm, ⟨kd, n, t⟩⟩ := x
        simp only at c0 c1 c2 c3
        have HY := Lib.hid (HX.out nm t kd n wr HBW.out)
        cases hbe : nm.toList == s.toList with
        | true =>
          have HN := Lib.hid (HA.out.trans (idx_hit (s := s) hx hbe))
          rw [hbe] at HY
          clear hx HA hcc hbe
          go_wp2_with fail
          refine HY.out.mono ?_
          rintro e w2 ⟨rfl, b2⟩
          have HB2 := Lib.hid (HBW.out.trans (b2.mono HBW.out.size))
          clear b2 c0 c1 c2 c3
          go_wp2_with fail
          go_ret
          rw [HN.out]
          exact ⟨rfl, HB2.out⟩
        | false =>
          have HN := Lib.hid (HA.out.trans (idx_miss (s := s) hx hbe))
          rw [hbe] at HY
          clear hx HA hcc hbe
          go_wp2_with fail
          refine HY.out.mono ?_
          rintro e w2 ⟨rfl, b2⟩
          have HB2 := Lib.hid (HBW.out.trans (b2.mono HBW.out.size))
          clear b2 c0 c1 c2 c3
          go_wp2_with fail
          go_roundw
          case rel => exact ⟨k + 1, by omega, congrArg _ (wrap_s HS.out hlt), HB2.out, HN⟩
          case measure =>
            rw [wrap_s HS.out hlt]
            exact int_less hlt
      · obtain rfl : k = L.length := by omega
        have HE : Hid (r = -1) := Lib.hid (by rw [HA.out]; unfold idxL; rw [List.drop_length]; rfl)
        go_wp2_with fail
        go_ret
        rw [HE.out]
        exact ⟨rfl, HBW.out⟩
theorem setCell_at {w : World} {g k : Nat} {cs : Array Value} {t : TypeId} {m : Nat × Nat} (h : w.heap[g]? = some (.cells cs t m)) (v : Value) : (w.setCell ⟨g, k, none⟩ v).heap[g]? = some (.cells (cs.setIfInBounds k v) t m) := by
  simp [World.setCell, h, Array.getElem?_modify]
theorem set3 {w0 w : World} {g : Nat} {a b c : Value} {T : TypeId} (h : w.heap[g]? = some (.cells #[a, b, c] T (0, 0))) (hb : Below w0.heap.size w0 w) (hg : w0.heap.size ≤ g) (x y z : Value) :
    ((((w.setCell ⟨g, 0, none⟩ x).setCell ⟨g, 1, none⟩ y).setCell ⟨g, 2, none⟩ z).cell? ⟨g, 0, none⟩ = some x ∧ (((w.setCell ⟨g, 0, none⟩ x).setCell ⟨g, 1, none⟩ y).setCell ⟨g, 2, none⟩ z).cell? ⟨g, 1, none⟩ = some y ∧
      (((w.setCell ⟨g, 0, none⟩ x).setCell ⟨g, 1, none⟩ y).setCell ⟨g, 2, none⟩ z).cell? ⟨g, 2, none⟩ = some z) ∧ Below w0.heap.size w0 (((w.setCell ⟨g, 0, none⟩ x).setCell ⟨g, 1, none⟩ y).setCell ⟨g, 2, none⟩ z) :=
  ⟨cells3_of (setCell_at (setCell_at (setCell_at h x) y) z), ((hb.setCell (p := ⟨g, 0, none⟩) hg _).setCell (p := ⟨g, 1, none⟩) hg _).setCell (p := ⟨g, 2, none⟩) hg _⟩
theorem idx_get (L : List Fld) (s : Nm) : ∀ d k, k + d = L.length → (idxL L s k = -1 ∧ getL (L.drop k) s = none) ∨ ∃ (j : Nat) (h : j < L.length), idxL L s k = j ∧ getL (L.drop k) s = some (L[j]).val
  | 0, k, h => .inl ⟨by unfold idxL; rw [List.drop_of_length_le (by omega)]; rfl, by rw [List.drop_of_length_le (by omega)]; rfl⟩
  | d + 1, k, h => by
    have hk : k < L.length := by omega
    have hx : L[k]? = some L[k] := List.getElem?_eq_getElem hk
    cases hb : (L[k]).name.toList == s.toList with
    | true => exact .inr ⟨k, hk, idx_hit hx hb, getL_hit hx hb⟩
    | false =>
      rw [idx_miss hx hb, getL_miss hx hb]
      exact idx_get L s d (k + 1) (by omega)
set_option maxHeartbeats 1000000 in
set_option maxRecDepth 100000 in
theorem get_any (L : List Fld) (v : Value) (s : Nm) (w : World) (h : FldsAt w v L) (hl : FldsOk L) :
    Calls Tryd.prog 23 #[v, .string s] w fun e w' => e = .returned (gotV (getL L s)) ∧ Below w.heap.size w w' := by
  have hmf : ∀ (fn : Fn) (first cap : Array Value) (w : World), (Instr.makeFunc fn first cap).run Tryd.prog w = .ok (.func fn first cap) w := fun _ _ _ _ => rfl
  have HW : Hid (∃ W, (w.alloc (.cells #[.string s] 9)).alloc (.cells #[.int .i64 0, .int .i64 0, .string ⟨#[]⟩] 51) = W ∧ W.heap[w.heap.size]? = some (.cells #[.string s] 9 (0, 0)) ∧
      W.heap[w.heap.size + 1]? = some (.cells #[.int .i64 0, .int .i64 0, .string ⟨#[]⟩] 51 (0, 0)) ∧ W.heap.size = w.heap.size + 2 ∧ Below w.heap.size w W) := Lib.hid (by
    refine ⟨_, rfl, ?_, ?_, by simp, (fresh_alloc w _).alloc (by simp) _⟩
    · rw [heap_old _ _ (by simp)]; exact heap_last _ _
    · have h := heap_last (w.alloc (.cells #[.string s] 9)) (.cells #[.int .i64 0, .int .i64 0, .string ⟨#[]⟩] 51)
      rw [show (w.alloc (.cells #[.string s] 9)).heap.size = w.heap.size + 1 by simp] at h
      exact h)
  obtain ⟨r, hr⟩ : ∃ r, r = getL L s := ⟨_, rfl⟩
  rw [← hr]
  have HIG := Lib.hid (idx_get L s L.length 0 (by omega))
  rw [List.drop_zero, ← hr] at HIG
  have HI := Lib.hid (fun W (b : Below w.heap.size w W) (x : W.heap[w.heap.size]? = some (.cells #[.string s] 9 (0, 0))) => index_any L v s w.heap.size W (h.below b) hl x)
  have HH := Lib.hid h
  obtain ⟨p, c, rfl⟩ := h.form
  generalize idxL L s 0 = ix at *
  clear hr hl h
  go_enter Tryd.func23, Tryd.ntmps23
  go_wp2_with fail
  obtain ⟨W, eW, x0, x1, sW, bW⟩ := HW.out
  rw [eW]
  refine (HI.out W bW x0).mono ?_
  rintro e w2 ⟨rfl, b2⟩
  have HB2 := Lib.hid (bW.trans (b2.mono (by omega)))
  have X2 := Lib.hid ((b2.block (w.heap.size + 1) (by omega)).trans x1)
  clear eW x0 x1 sW bW b2
  obtain ⟨d0, d1, d2⟩ := cells3_of X2.out
  have k0 : w2.frozen? ⟨w.heap.size + 1, 0, none⟩ = false := Lib.frozen_of_heap X2.out 0
  have k1 : w2.frozen? ⟨w.heap.size + 1, 1, none⟩ = false := Lib.frozen_of_heap X2.out 1
  have k2 : w2.frozen? ⟨w.heap.size + 1, 2, none⟩ = false := Lib.frozen_of_heap X2.out 2
  rcases HIG.out with ⟨rfl, hrn⟩ | ⟨j, hj, rfl, hrs⟩
  · have HN := Lib.hid hrn
    clear hrn
    obtain ⟨⟨e0, e1, e2⟩, eb⟩ := set3 X2.out HB2.out (Nat.le_succ _) (.int .i64 0) (.int .i64 0) (.string ⟨#[]⟩)
    have EB := Lib.hid eb
    clear eb
    go_wp2_with fail
    refine bodyPost_ret (v := .tuple #[.agg #[.int .i64 0, .int .i64 0, .string ⟨#[]⟩], .bool false]) (by simp [results, Tryd.results23, go_sem, e0, e1, e2]) rfl ?_
    rw [HN.out]
    exact ⟨rfl, EB.out⟩
  · rcases HH.out with ⟨rfl, _⟩ | ⟨b, off, c', hsl, hb, hc⟩
    · exact absurd hj (by simp)
    · injection hsl with e1 e2 e3
      subst e1 e3
      obtain ⟨c0, c1, c2, c3⟩ := hc w2 (HB2.out.block b hb) j hj
      generalize L[j] = x at *
      obtain ⟨nm, ⟨kd, n, t⟩⟩ := x
      simp only at c0 c1 c2 c3 hrs
      have HN := Lib.hid hrs
      clear hrs hc hb e2
      obtain ⟨⟨e0, e1, e2⟩, eb⟩ := set3 X2.out HB2.out (Nat.le_succ _) (.int .i64 kd) (.int .i64 n) (.string t)
      have EB := Lib.hid eb
      clear eb
      go_wp2_with fail
      refine bodyPost_ret (v := .tuple #[.agg #[.int .i64 kd, .int .i64 n, .string t], .bool true]) (by simp [results, Tryd.results23, go_sem, e0, e1, e2]) rfl ?_
      rw [HN.out]
      exact ⟨rfl, EB.out⟩
end Go.Proofs.YtifghohaelmjjaaDoor
