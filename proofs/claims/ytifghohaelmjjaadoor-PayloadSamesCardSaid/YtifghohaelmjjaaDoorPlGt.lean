/- The value of a name: the document's own Get. Conditions: those that each theorem names. -/
import Derived.Test.YtifghohaelmjjaaDoorPlAw
namespace Go.Proofs.YtifghohaelmjjaaDoor
set_option linter.unusedVariables false
open Go Go.RowKit Go.Shelf Pl
/-- The first field of a name. -/
def getL (L : List Fld) (s : Nm) : Option Val := (L.find? fun x => x.name.toList == s.toList).map fun x => x.val
theorem getL_hit {L : List Fld} {k : Nat} {x : Fld} {s : Nm} (hx : L[k]? = some x) (e : (x.name.toList == s.toList) = true) : getL (L.drop k) s = some x.val := by
  have hk : k < L.length := (List.getElem?_eq_some_iff.1 hx).1
  have e2 := (List.getElem?_eq_some_iff.1 hx).2
  unfold getL
  rw [List.drop_eq_getElem_cons hk, e2, List.find?_cons_of_pos (p := fun x : Fld => x.name.toList == s.toList) e]
  rfl
theorem getL_miss {L : List Fld} {k : Nat} {x : Fld} {s : Nm} (hx : L[k]? = some x) (e : (x.name.toList == s.toList) = false) : getL (L.drop k) s = getL (L.drop (k + 1)) s := by
  have hk : k < L.length := (List.getElem?_eq_some_iff.1 hx).1
  have e2 := (List.getElem?_eq_some_iff.1 hx).2
  unfold getL
  rw [List.drop_eq_getElem_cons hk, e2, List.find?_cons_of_neg (p := fun x : Fld => x.name.toList == s.toList) (by simp [e])]
def gotV : Option Val → Value
  | none => .tuple #[.agg #[.int .i64 0, .int .i64 0, .string ⟨#[]⟩], .bool false]
  | some v => .tuple #[.agg #[.int .i64 v.kind, .int .i64 v.n, .string v.text], .bool true]
set_option maxHeartbeats 1000000 in
set_option maxRecDepth 100000 in
theorem rget_any (L : List Fld) (v : Value) (s : Nm) (w : World) (h : FldsAt w v L) (hl : FldsOk L) :
    Calls Tryd.prog 24 #[v, .string s] w fun e w' => e = .returned (gotV (getL L s)) ∧ Below w.heap.size w w' := by
  obtain ⟨r, hr⟩ : ∃ r, r = getL L s := ⟨_, rfl⟩
  rw [← hr]
  have HR := Lib.hid hr
  have HS := Lib.hid (room_len hl.1)
  clear hr hl
  have hz := heap_last w (.cells #[.int .i64 0, .int .i64 0, .string ⟨#[]⟩] 51)
  have HB := Lib.hid (fun o => fresh_alloc w o)
  have HC4 := Lib.hid (fun a b c => cells3_of (heap_last w (.cells #[a, b, c] 51)))
  rcases h with ⟨rfl, q, c, rfl⟩ | ⟨b, off, c, rfl, hb, hc⟩
  · go_enter Tryd.func24, Tryd.ntmps24
    go_wp2
    go_loop [6] (fun i => i = .int .i64 0) (fun _ => 0)
    case atStart => rfl
    case round =>
      subst hrel
      obtain ⟨e0, e1, e2⟩ := HC4.out (.int .i64 0) (.int .i64 0) (.string ⟨#[]⟩)
      go_wp2
      refine bodyPost_ret (v := .tuple #[.agg #[.int .i64 0, .int .i64 0, .string ⟨#[]⟩], .bool false]) (by simp [results, Tryd.results24, go_sem, e0, e1, e2]) rfl ?_
      rw [HR.out]
      exact ⟨rfl, HB.out _⟩
  · have hf : ∀ o, _ := fun o => hc (w.alloc o) (heap_old w o hb)
    have HF := Lib.hid hf
    clear hf hc
    go_enter Tryd.func24, Tryd.ntmps24
    go_wp2
    go_loop [6] (fun i => ∃ k : Nat, k ≤ L.length ∧ i = .int .i64 k ∧ Hid (r = getL (L.drop k) s)) (fun i => L.length - (intOf i).toNat)
    case atStart => exact ⟨0, Nat.zero_le _, rfl, HR⟩
    case round =>
      obtain ⟨k, hk, rfl, HA⟩ := hrel
      by_cases hlt : k < L.length
      · obtain ⟨c0, c1, c2, c3⟩ := HF.out (.cells #[.int .i64 0, .int .i64 0, .string ⟨#[]⟩] 51) k hlt
        have hx : L[k]? = some L[k] := List.getElem?_eq_getElem hlt
        generalize hcc : L[k] = x at hx c0 c1 c2 c3
        obtain ⟨nm, ⟨kd, n, t⟩⟩ := x
        simp only at c0 c1 c2 c3
        cases hbe : nm.toList == s.toList with
        | true =>
          have HN := Lib.hid (HA.out.trans (getL_hit (s := s) hx hbe))
          clear hx HA hcc
          go_wp2
          obtain ⟨e0, e1, e2⟩ := HC4.out (.int .i64 kd) (.int .i64 n) (.string t)
          refine bodyPost_ret (v := .tuple #[.agg #[.int .i64 kd, .int .i64 n, .string t], .bool true]) (by simp [results, Tryd.results24, go_sem, e0, e1, e2]) rfl ?_
          rw [HN.out]
          exact ⟨rfl, HB.out _⟩
        | false =>
          have HN := Lib.hid (HA.out.trans (getL_miss (s := s) hx hbe))
          clear hx HA hcc
          go_wp2
          go_round
          case rel => exact ⟨k + 1, by omega, congrArg _ (wrap_s HS.out hlt), HN⟩
          case measure =>
            rw [wrap_s HS.out hlt]
            exact int_less hlt
      · obtain rfl : k = L.length := by omega
        have HE : Hid (r = none) := Lib.hid (by rw [HA.out, List.drop_length]; rfl)
        obtain ⟨e0, e1, e2⟩ := HC4.out (.int .i64 0) (.int .i64 0) (.string ⟨#[]⟩)
        go_wp2
        refine bodyPost_ret (v := .tuple #[.agg #[.int .i64 0, .int .i64 0, .string ⟨#[]⟩], .bool false]) (by simp [results, Tryd.results24, go_sem, e0, e1, e2]) rfl ?_
        rw [HE.out]
        exact ⟨rfl, HB.out _⟩
end Go.Proofs.YtifghohaelmjjaaDoor
