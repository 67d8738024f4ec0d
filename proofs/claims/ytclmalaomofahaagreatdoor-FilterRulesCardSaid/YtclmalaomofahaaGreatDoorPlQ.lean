/- What this layer takes of the texts of earlier ones: PlPlain, PlA, PlW, PlG, PlV, PlR, PlM, PlAw, PlGt, PlGe, PlC, PlD, PlCv, PlVw, PlSm, PlSn, PlSo, PlAp, PlCq, PlOh, PlCp. Conditions: those that each theorem names. -/
import Derived.Test.YtclmalaomofahaaGreatDoorRowI
import Derived.Lib.SmallJoins
import Derived.Deep.RegionHeld3
import Derived.StillTailTactics
import Derived.Deep.DeepCutAuto
import Derived.Deep.RegionLaw
import Derived.OrdersHeld
import Derived.Deep.RegionHeld
import Derived.Laws.Externs
import Derived.Lib.Walk
import Derived.Deep.QuietTactic
namespace Go.Proofs.YtclmalaomofahaaGreatDoor
namespace Pq
set_option linter.unusedVariables false
open Go
namespace Pl
abbrev Nm := ByteArray
structure Val where
  kind : Int
  n : Int
  text : Nm
structure Fld where
  name : Nm
  val : Val
structure Vec where
  name : Nm
  v : List Int
structure Pt where
  id : Int
  vecs : List Vec
  flds : List Fld
end Pl
end Pq
end Go.Proofs.YtclmalaomofahaaGreatDoor
namespace Go.Proofs.YtclmalaomofahaaGreatDoor
namespace Pq
set_option linter.unusedVariables false
open Go Go.RowKit Go.Shelf Pl
/-- A row of whole numbers. -/
def IntsAt (w : World) (v : Value) (L : List Int) : Prop :=
  (L = [] ∧ ∃ p c, v = .slice p 0 c) ∨ ∃ g off c, v = .slice (some ⟨g, off, none⟩) L.length c ∧ g < w.heap.size ∧
    ∀ W : World, W.heap[g]? = w.heap[g]? → ∀ j (h : j < L.length), W.cell? ⟨g, off + j, none⟩ = some (.int .i64 L[j])
theorem IntsAt.kept {w w' : World} {v : Value} {L : List Int} (h : IntsAt w v L) (hb : ∀ g, v.ownBlock = some g → w'.heap[g]? = w.heap[g]?) (hs : w.heap.size ≤ w'.heap.size) : IntsAt w' v L := by
  rcases h with h | ⟨g, off, c, rfl, hg, hc⟩
  · exact .inl h
  · have e := hb g rfl
    exact .inr ⟨g, off, c, rfl, by omega, fun W hW => hc W (hW.trans e)⟩
end Pq
end Go.Proofs.YtclmalaomofahaaGreatDoor
namespace Go.Proofs.YtclmalaomofahaaGreatDoor
namespace Pq
set_option linter.unusedVariables false
open Go Go.RowKit Go.Shelf Pl
/-- The frame of a write: what lay below B, and each block but the writer's and rows of bytes, is as it was. -/
structure Kw (B b : Nat) (w w' : World) : Prop where
  below : Below B w w'
  others : Lib.OthersKept 5 (some b) w w'
theorem Kw.refl (B b : Nat) (w : World) : Kw B b w w := ⟨Below.refl _ _, Lib.OthersKept.refl _ _ _⟩
theorem Kw.trans {B b : Nat} {w w' w2 : World} (h : Kw B b w w') (k : Kw B b w' w2) : Kw B b w w2 := ⟨h.below.trans k.below, h.others.trans k.others⟩
theorem Kw.alloc {B b : Nat} {w w' : World} (h : Kw B b w w') (hb : B ≤ w'.heap.size) (o : Obj) : Kw B b w (w'.alloc o) := ⟨h.below.alloc hb o, h.others.alloc o⟩
theorem Kw.of_below {B b : Nat} {w w' : World} (h : Below w.heap.size w w') (hB : B ≤ w.heap.size) : Kw B b w w' :=
  ⟨h.mono hB, fun k o hk _ _ => (h.block k (Array.getElem?_eq_some_iff.1 hk).1).trans hk⟩
theorem Kw.size {B b : Nat} {w w' : World} (h : Kw B b w w') : w.heap.size ≤ w'.heap.size := h.below.size
theorem Kw.block {B b K : Nat} {w w' : World} {cs : Array Value} {T : TypeId} {m : Nat × Nat} (h : Kw B b w w') (hk : w.heap[K]? = some (.cells cs T m)) (hb : K ≠ b) (hT : T ≠ 5) : w'.heap[K]? = some (.cells cs T m) :=
  h.others K _ hk (fun e => hb (Option.some.inj e)) (fun c fz e => hT (by injection e))
theorem _root_.Go.World.ownsRow.same {w w' : World} {base n size : Nat} {e : TypeId} {v : Value} {xs : List Value} (h : w.ownsRow base e size v n xs) (hb : ∀ g, v.ownBlock = some g → w'.heap[g]? = w.heap[g]?) : w'.ownsRow base e size v n xs := by
  refine ⟨h.1, ?_⟩
  rcases h.2 with hn | ⟨g, cap, cur, rfl, h1, h2, rest⟩
  · exact .inl hn
  · exact .inr ⟨g, cap, cur, rfl, h1, (hb g rfl).trans h2, rest⟩
theorem byte_info : (Tryz.prog.info? 5).map (fun i => (i.zero, i.size, i.bytes)) = some (some (.int .u8 0), 1, 1) := by kernel_rfl
theorem byte_cells : Tryz.prog.cellsOf 5 = 1 := by kernel_rfl
end Pq
end Go.Proofs.YtclmalaomofahaaGreatDoor
namespace Go.Proofs.YtclmalaomofahaaGreatDoor
namespace Pq
set_option linter.unusedVariables false
open Go Go.RowKit Go.Shelf Pl

noncomputable def gN : Nat := Tryz.prog.globals.size
theorem g_lt : 1 < gN := of_decide_eq_true (by kernel_rfl)
theorem heap_last (w : World) (o : Obj) : (w.alloc o).heap[w.heap.size]? = some o := by show (w.heap.push o)[w.heap.size]? = some o; simp
theorem cells4 (w : World) (a b c d : Value) (T : TypeId) : (w.alloc (.cells #[a, b, c, d] T)).cell? ⟨w.heap.size, 0, none⟩ = some a ∧ (w.alloc (.cells #[a, b, c, d] T)).cell? ⟨w.heap.size, 1, none⟩ = some b ∧
    (w.alloc (.cells #[a, b, c, d] T)).cell? ⟨w.heap.size, 2, none⟩ = some c ∧ (w.alloc (.cells #[a, b, c, d] T)).cell? ⟨w.heap.size, 3, none⟩ = some d := by
  have h := heap_last w (.cells #[a, b, c, d] T)
  refine ⟨?_, ?_, ?_, ?_⟩ <;> rw [Lib.cell_of_heap h] <;> rfl
set_option maxHeartbeats 1000000 in
set_option maxRecDepth 100000 in
theorem size_none (k : Int) (h : k < 1 ∨ 4 ≤ k) (w : World) :
    Calls Tryz.prog 115 #[.int .i64 k] w fun e w' => e = .returned (.tuple #[.agg #[.int .i64 0, .int .i64 0, .int .i64 0, .int .i64 0], .bool false]) ∧ Below w.heap.size w w' := by
  obtain ⟨e0, e1, e2, e3⟩ := cells4 w (.int .i64 0) (.int .i64 0) (.int .i64 0) (.int .i64 0) 153
  rcases h with h | h
  all_goals
    go_enter Tryz.func115, Tryz.ntmps115
    go_wp2_with fail
    refine bodyPost_ret (v := .tuple #[.agg #[.int .i64 0, .int .i64 0, .int .i64 0, .int .i64 0], .bool false]) (by simp [results, Tryz.results115, go_sem, e0, e1, e2, e3]) rfl ?_
    exact ⟨rfl, Below.alloc (Below.refl _ w) (Nat.le_refl _) _⟩
end Pq
end Go.Proofs.YtclmalaomofahaaGreatDoor
namespace Go.Proofs.YtclmalaomofahaaGreatDoor
namespace Pq
set_option linter.unusedVariables false
open Go Go.RowKit Go.Shelf Pl
theorem heap_old (w : World) (o : Obj) {k : Nat} (hk : k < w.heap.size) : (w.alloc o).heap[k]? = w.heap[k]? := Below.heap_alloc _ _ _ hk
theorem cells3_new {w : World} {g : Nat} {a b c : Value} {T : TypeId} (h : w.heap[g]? = some (.cells #[a, b, c] T (0, 0))) (o : Obj) :
    (w.alloc o).cell? ⟨g, 0, none⟩ = some a ∧ (w.alloc o).cell? ⟨g, 1, none⟩ = some b ∧ (w.alloc o).cell? ⟨g, 2, none⟩ = some c := by
  have hk : g < w.heap.size := (Array.getElem?_eq_some_iff.1 h).1
  rw [← heap_old w o hk] at h
  refine ⟨?_, ?_, ?_⟩ <;> rw [Lib.cell_of_heap h] <;> rfl
theorem cells3_of {w : World} {g : Nat} {a b c : Value} {T : TypeId} (h : w.heap[g]? = some (.cells #[a, b, c] T (0, 0))) :
    w.cell? ⟨g, 0, none⟩ = some a ∧ w.cell? ⟨g, 1, none⟩ = some b ∧ w.cell? ⟨g, 2, none⟩ = some c := by
  refine ⟨?_, ?_, ?_⟩ <;> rw [Lib.cell_of_heap h] <;> rfl
theorem cells4_of {w : World} {g : Nat} {a b c d : Value} {T : TypeId} (h : w.heap[g]? = some (.cells #[a, b, c, d] T (0, 0))) :
    w.cell? ⟨g, 0, none⟩ = some a ∧ w.cell? ⟨g, 1, none⟩ = some b ∧ w.cell? ⟨g, 2, none⟩ = some c ∧ w.cell? ⟨g, 3, none⟩ = some d := by
  refine ⟨?_, ?_, ?_, ?_⟩ <;> rw [Lib.cell_of_heap h] <;> rfl
end Pq
end Go.Proofs.YtclmalaomofahaaGreatDoor
namespace Go.Proofs.YtclmalaomofahaaGreatDoor
namespace Pq
set_option linter.unusedVariables false
open Go Go.RowKit Go.Shelf Pl
/-- A row of fields. -/
def FldsAt (w : World) (v : Value) (L : List Fld) : Prop :=
  (L = [] ∧ ∃ p c, v = .slice p 0 c) ∨ ∃ g off c, v = .slice (some ⟨g, off, none⟩) L.length c ∧ g < w.heap.size ∧
    ∀ W : World, W.heap[g]? = w.heap[g]? → ∀ j (h : j < L.length), W.cell? ⟨g, off + j * 4, none⟩ = some (.string (L[j]).name) ∧ W.cell? ⟨g, off + j * 4 + 1, none⟩ = some (.int .i64 (L[j]).val.kind) ∧
      W.cell? ⟨g, off + j * 4 + 2, none⟩ = some (.int .i64 (L[j]).val.n) ∧ W.cell? ⟨g, off + j * 4 + 3, none⟩ = some (.string (L[j]).val.text)
/-- A row of vectors: where each one's numbers lie, S tells. -/
def VecsAt (w : World) (v : Value) (L : List Vec) : Prop :=
  (L = [] ∧ ∃ p c, v = .slice p 0 c) ∨ ∃ (g off c : Nat) (S : Nat → Value), v = .slice (some ⟨g, off, none⟩) L.length c ∧ g < w.heap.size ∧
    (∀ W : World, W.heap[g]? = w.heap[g]? → ∀ j (h : j < L.length), W.cell? ⟨g, off + j * 2, none⟩ = some (.string (L[j]).name) ∧ W.cell? ⟨g, off + j * 2 + 1, none⟩ = some (S j)) ∧
    ∀ j (h : j < L.length), IntsAt w (S j) (L[j]).v
theorem IntsAt.form {w : World} {v : Value} {L : List Int} (h : IntsAt w v L) : ∃ p c, v = .slice p L.length c ∧ ∀ g, v.ownBlock = some g → L ≠ [] → g < w.heap.size := by
  rcases h with ⟨rfl, p, c, rfl⟩ | ⟨g, off, c, rfl, hg, _⟩
  · exact ⟨p, c, rfl, fun g _ h => absurd rfl h⟩
  · exact ⟨_, c, rfl, fun k hk _ => by simp [Value.ownBlock] at hk; subst hk; exact hg⟩
theorem IntsAt.below {w w' : World} {v : Value} {L : List Int} (h : IntsAt w v L) (g : Below w.heap.size w w') : IntsAt w' v L := by
  rcases h with h | ⟨b, off, c, rfl, hb, hc⟩
  · exact .inl h
  · exact .inr ⟨b, off, c, rfl, Nat.lt_of_lt_of_le hb g.size, fun W hW => hc W (hW.trans (g.block b hb))⟩
theorem FldsAt.below {w w' : World} {v : Value} {L : List Fld} (h : FldsAt w v L) (g : Below w.heap.size w w') : FldsAt w' v L := by
  rcases h with h | ⟨b, off, c, rfl, hb, hc⟩
  · exact .inl h
  · exact .inr ⟨b, off, c, rfl, Nat.lt_of_lt_of_le hb g.size, fun W hW => hc W (hW.trans (g.block b hb))⟩
theorem VecsAt.below {w w' : World} {v : Value} {L : List Vec} (h : VecsAt w v L) (g : Below w.heap.size w w') : VecsAt w' v L := by
  rcases h with h | ⟨b, off, c, S, rfl, hb, hc, hi⟩
  · exact .inl h
  · exact .inr ⟨b, off, c, S, rfl, Nat.lt_of_lt_of_le hb g.size, fun W hW => hc W (hW.trans (g.block b hb)), fun j h => (hi j h).below g⟩
theorem FldsAt.form {w : World} {v : Value} {L : List Fld} (h : FldsAt w v L) : ∃ p c, v = .slice p L.length c := by
  rcases h with ⟨rfl, p, c, rfl⟩ | ⟨g, off, c, rfl, hg, _⟩
  · exact ⟨p, c, rfl⟩
  · exact ⟨_, c, rfl⟩
theorem VecsAt.form {w : World} {v : Value} {L : List Vec} (h : VecsAt w v L) : ∃ p c, v = .slice p L.length c := by
  rcases h with ⟨rfl, p, c, rfl⟩ | ⟨g, off, c, S, rfl, hg, _⟩
  · exact ⟨p, c, rfl⟩
  · exact ⟨_, c, rfl⟩
/-- Room for every text. -/
def Room : Nat := 140737488355328
def FldsOk (L : List Fld) : Prop := L.length ≤ Room ∧ ∀ x ∈ L, x.name.size ≤ Room ∧ x.val.text.size ≤ Room
def VecsOk (L : List Vec) : Prop := L.length ≤ Room ∧ ∀ x ∈ L, x.name.size ≤ Room ∧ x.v.length ≤ Room
theorem room_len {n : Nat} (h : n ≤ Room) : n ≤ maxLen := by unfold Room at h; unfold maxLen; omega
theorem field_enters : ∀ args w, (callFunc 112 args).run Tryz.prog w = .ok (.enter 112 args) w := enters_of Tryz.func112 (by kernel_rfl) rfl
end Pq
end Go.Proofs.YtclmalaomofahaaGreatDoor
namespace Go.Proofs.YtclmalaomofahaaGreatDoor
namespace Pq
set_option linter.unusedVariables false
open Go Go.RowKit Go.Shelf Pl
theorem cells3 (w : World) (a b c : Value) (T : TypeId) : (w.alloc (.cells #[a, b, c] T)).cell? ⟨w.heap.size, 0, none⟩ = some a ∧ (w.alloc (.cells #[a, b, c] T)).cell? ⟨w.heap.size, 1, none⟩ = some b ∧
    (w.alloc (.cells #[a, b, c] T)).cell? ⟨w.heap.size, 2, none⟩ = some c := cells3_of (heap_last w (.cells #[a, b, c] T))
theorem fresh_alloc (w : World) (o : Obj) : Below w.heap.size w (w.alloc o) := Below.alloc (Below.refl _ w) (Nat.le_refl _) o
end Pq
end Go.Proofs.YtclmalaomofahaaGreatDoor
namespace Go.Proofs.YtclmalaomofahaaGreatDoor
namespace Pq
set_option linter.unusedVariables false
open Go Go.RowKit Go.Shelf Pl
theorem less_nil (l : List UInt8) : Op.bytesLess l [] = false := by cases l <;> rfl
def aS : ByteArray := ⟨#[1, 0, 0, 0, 0, 0, 0, 0, 1, 1, 118, 2, 1, 128, 255, 127, 1, 4, 111, 112, 101, 110, 3, 1]⟩
end Pq
end Go.Proofs.YtclmalaomofahaaGreatDoor
namespace Go.Proofs.YtclmalaomofahaaGreatDoor
namespace Pq
set_option linter.unusedVariables false
open Go Go.RowKit Go.Shelf Pl
/-- The first field of a name. -/
def getL (L : List Fld) (s : Nm) : Option Val := (L.find? fun x => x.name.toList == s.toList).map fun x => x.val
theorem getL_hit {L : List Fld} {k : Nat} {x : Fld} {s : Nm} (hx : L[k]? = some x) (e : (x.name.toList == s.toList) = true) : getL (L.drop k) s = some x.val := by
  have hk : k < L.length := (List.getElem?_eq_some_iff.1 hx).1
  have e2 := (List.getElem?_eq_some_iff.1 hx).2
  unfold getL
  rw [List.drop_eq_getElem_cons hk, e2, List.find?_cons_of_pos (p := fun x : Fld => x.name.toList == s.toList) e]
  rfl
theorem getL_miss {L : List Fld} {k : Nat} {x : Fld} {s : Nm} (hx : L[k]? = some x) (e : (x.name.toList == s.toList) = false) : getL (L.drop k) s = getL (L.drop (k + 1)) s := by
  have hk : k < L.length := (List.getElem?_eq_some_iff.1 hx).1
  have e2 := (List.getElem?_eq_some_iff.1 hx).2
  unfold getL
  rw [List.drop_eq_getElem_cons hk, e2, List.find?_cons_of_neg (p := fun x : Fld => x.name.toList == s.toList) (by simp [e])]
def gotV : Option Val → Value
  | none => .tuple #[.agg #[.int .i64 0, .int .i64 0, .string ⟨#[]⟩], .bool false]
  | some v => .tuple #[.agg #[.int .i64 v.kind, .int .i64 v.n, .string v.text], .bool true]
set_option maxHeartbeats 1000000 in
set_option maxRecDepth 100000 in
theorem rget_any (L : List Fld) (v : Value) (s : Nm) (w : World) (h : FldsAt w v L) (hl : FldsOk L) :
    Calls Tryz.prog 27 #[v, .string s] w fun e w' => e = .returned (gotV (getL L s)) ∧ Below w.heap.size w w' := by
  obtain ⟨r, hr⟩ : ∃ r, r = getL L s := ⟨_, rfl⟩
  rw [← hr]
  have HR := Lib.hid hr
  have HS := Lib.hid (room_len hl.1)
  clear hr hl
  have hz := heap_last w (.cells #[.int .i64 0, .int .i64 0, .string ⟨#[]⟩] 23)
  have HB := Lib.hid (fun o => fresh_alloc w o)
  have HC4 := Lib.hid (fun a b c => cells3_of (heap_last w (.cells #[a, b, c] 23)))
  rcases h with ⟨rfl, q, c, rfl⟩ | ⟨b, off, c, rfl, hb, hc⟩
  · go_enter Tryz.func27, Tryz.ntmps27
    go_wp2
    go_loop [6] (fun i => i = .int .i64 0) (fun _ => 0)
    case atStart => rfl
    case round =>
      subst hrel
      obtain ⟨e0, e1, e2⟩ := HC4.out (.int .i64 0) (.int .i64 0) (.string ⟨#[]⟩)
      go_wp2
      refine bodyPost_ret (v := .tuple #[.agg #[.int .i64 0, .int .i64 0, .string ⟨#[]⟩], .bool false]) (by simp [results, Tryz.results27, go_sem, e0, e1, e2]) rfl ?_
      rw [HR.out]
      exact ⟨rfl, HB.out _⟩
  · have hf : ∀ o, _ := fun o => hc (w.alloc o) (heap_old w o hb)
    have HF := Lib.hid hf
    clear hf hc
    go_enter Tryz.func27, Tryz.ntmps27
    go_wp2
    go_loop [6] (fun i => ∃ k : Nat, k ≤ L.length ∧ i = .int .i64 k ∧ Hid (r = getL (L.drop k) s)) (fun i => L.length - (intOf i).toNat)
    case atStart => exact ⟨0, Nat.zero_le _, rfl, HR⟩
    case round =>
      obtain ⟨k, hk, rfl, HA⟩ := hrel
      by_cases hlt : k < L.length
      · obtain ⟨c0, c1, c2, c3⟩ := HF.out (.cells #[.int .i64 0, .int .i64 0, .string ⟨#[]⟩] 23) k hlt
        have hx : L[k]? = some L[k] := List.getElem?_eq_getElem hlt
        generalize hcc : L[k] = x at hx c0 c1 c2 c3
        obtain ⟨nm, ⟨kd, n, t⟩⟩ := x
        simp only at c0 c1 c2 c3
        cases hbe : nm.toList == s.toList with
        | true =>
          have HN := Lib.hid (HA.out.trans (getL_hit (s := s) hx hbe))
          clear hx HA hcc
          go_wp2
          obtain ⟨e0, e1, e2⟩ := HC4.out (.int .i64 kd) (.int .i64 n) (.string t)
          refine bodyPost_ret (v := .tuple #[.agg #[.int .i64 kd, .int .i64 n, .string t], .bool true]) (by simp [results, Tryz.results27, go_sem, e0, e1, e2]) rfl ?_
          rw [HN.out]
          exact ⟨rfl, HB.out _⟩
        | false =>
          have HN := Lib.hid (HA.out.trans (getL_miss (s := s) hx hbe))
          clear hx HA hcc
          go_wp2
          go_round
          case rel => exact ⟨k + 1, by omega, congrArg _ (wrap_s HS.out hlt), HN⟩
          case measure =>
            rw [wrap_s HS.out hlt]
            exact int_less hlt
      · obtain rfl : k = L.length := by omega
        have HE : Hid (r = none) := Lib.hid (by rw [HA.out, List.drop_length]; rfl)
        obtain ⟨e0, e1, e2⟩ := HC4.out (.int .i64 0) (.int .i64 0) (.string ⟨#[]⟩)
        go_wp2
        refine bodyPost_ret (v := .tuple #[.agg #[.int .i64 0, .int .i64 0, .string ⟨#[]⟩], .bool false]) (by simp [results, Tryz.results27, go_sem, e0, e1, e2]) rfl ?_
        rw [HE.out]
        exact ⟨rfl, HB.out _⟩
end Pq
end Go.Proofs.YtclmalaomofahaaGreatDoor
namespace Go.Proofs.YtclmalaomofahaaGreatDoor
namespace Pq
set_option linter.unusedVariables false
open Go Go.RowKit Go.Shelf Pl
set_option maxHeartbeats 1000000 in
set_option maxRecDepth 100000 in
theorem named_any (nm t s : ByteArray) (k n : Int) (g : Nat) (w : World) (h : w.heap[g]? = some (.cells #[.string s] 9 (0, 0))) :
    Calls Tryz.prog 49 #[.agg #[.string nm, .int .i64 k, .int .i64 n, .string t], .pointer (some ⟨g, 0, none⟩)] w fun e w' => e = .returned (.bool (nm.toList == s.toList)) ∧ Below w.heap.size w w' := by
  have hg : g < w.heap.size := (Array.getElem?_eq_some_iff.1 h).1
  have c0 : (w.alloc (.cells #[.string nm, .int .i64 k, .int .i64 n, .string t] 55)).cell? ⟨g, 0, none⟩ = some (.string s) := by
    rw [← heap_old w (.cells #[.string nm, .int .i64 k, .int .i64 n, .string t] 55) hg] at h
    rw [Lib.cell_of_heap h]; rfl
  obtain ⟨d0, d1, d2, d3⟩ := cells4_of (heap_last w (.cells #[.string nm, .int .i64 k, .int .i64 n, .string t] 55))
  go_enter Tryz.func49, Tryz.ntmps49
  go_wp2_with fail
  go_ret
  exact ⟨rfl, fresh_alloc _ _⟩
theorem named_enters : ∀ args w, (callFunc 49 args).run Tryz.prog w = .ok (.enter 49 args) w := enters_of Tryz.func49 (by kernel_rfl) rfl
/-- The place of the first field of a name, behind k; -1: there is none. -/
def idxL (L : List Fld) (s : Nm) (k : Nat) : Int :=
  match (L.drop k).findIdx? (fun x => x.name.toList == s.toList) with
    | some i => ((k + i : Nat) : Int)
    | none => -1
theorem idx_hit {L : List Fld} {k : Nat} {x : Fld} {s : Nm} (hx : L[k]? = some x) (e : (x.name.toList == s.toList) = true) : idxL L s k = k := by
  have hk : k < L.length := (List.getElem?_eq_some_iff.1 hx).1
  have e2 := (List.getElem?_eq_some_iff.1 hx).2
  unfold idxL
  rw [List.drop_eq_getElem_cons hk, e2, List.findIdx?_cons, e]
  rfl
theorem idx_miss {L : List Fld} {k : Nat} {x : Fld} {s : Nm} (hx : L[k]? = some x) (e : (x.name.toList == s.toList) = false) : idxL L s k = idxL L s (k + 1) := by
  have hk : k < L.length := (List.getElem?_eq_some_iff.1 hx).1
  have e2 := (List.getElem?_eq_some_iff.1 hx).2
  unfold idxL
  rw [List.drop_eq_getElem_cons hk, e2, List.findIdx?_cons, e]
  cases (L.drop (k + 1)).findIdx? (fun x => x.name.toList == s.toList) with
  | none => rfl
  | some i =>
    show ((k + (i + 1) : Nat) : Int) = ((k + 1 + i : Nat) : Int)
    omega
set_option maxHeartbeats 1000000 in
set_option maxRecDepth 100000 in
theorem index_any (L : List Fld) (v : Value) (s : Nm) (g : Nat) (w : World) (h : FldsAt w v L) (hl : FldsOk L) (hs : w.heap[g]? = some (.cells #[.string s] 9 (0, 0))) :
    Calls Tryz.prog 48 #[v, .func (.func 49) #[] #[.pointer (some ⟨g, 0, none⟩)]] w fun e w' => e = .returned (.int .i64 (idxL L s 0)) ∧ Below w.heap.size w w' := by
  have hg := named_enters
  have hgl : g < w.heap.size := (Array.getElem?_eq_some_iff.1 hs).1
  have HX := Lib.hid (fun nm t k n W (b : Below w.heap.size w W) => named_any nm t s k n g W ((b.block g hgl).trans hs))
  obtain ⟨r, hr⟩ : ∃ r, r = idxL L s 0 := ⟨_, rfl⟩
  rw [← hr]
  have HR := Lib.hid hr
  have HS := Lib.hid (room_len hl.1)
  clear hr hl hs
  rcases h with ⟨rfl, q, c, rfl⟩ | ⟨b, off, c, rfl, hb, hc⟩
  · go_enter Tryz.func48, Tryz.ntmps48
    go_wp2
    go_loop [8] (fun i => i = .int .i64 0) (fun _ => 0)
    case atStart => rfl
    case round =>
      subst hrel
      go_wp2
      go_ret
      rw [HR.out]
      exact ⟨rfl, Below.refl _ _⟩
  · have HC := Lib.hid hc
    have HB := Lib.hid hb
    clear hc hb
    go_enter Tryz.func48, Tryz.ntmps48
    go_wp2
    go_loopw [8] (fun i wr => ∃ k : Nat, k ≤ L.length ∧ i = .int .i64 k ∧ Below w.heap.size w wr ∧ Hid (r = idxL L s k)) (fun i _ => L.length - (intOf i).toNat)
    case atStart => exact ⟨0, Nat.zero_le _, rfl, Below.refl _ _, HR⟩
    case round =>
      obtain ⟨k, hk, rfl, hbw, HA⟩ := hrel
      have HBW := Lib.hid hbw
      clear hbw
      by_cases hlt : k < L.length
      · obtain ⟨c0, c1, c2, c3⟩ := HC.out wr (HBW.out.block b HB.out) k hlt
        have hx : L[k]? = some L[k] := List.getElem?_eq_getElem hlt
        generalize hcc : L[k] = x at hx c0 c1 c2 c3
        obtain ⟨nm, ⟨kd, n, t⟩⟩ := x
        simp only at c0 c1 c2 c3
        have HY := Lib.hid (HX.out nm t kd n wr HBW.out)
        cases hbe : nm.toList == s.toList with
        | true =>
          have HN := Lib.hid (HA.out.trans (idx_hit (s := s) hx hbe))
          rw [hbe] at HY
          clear hx HA hcc hbe
          go_wp2_with fail
          refine HY.out.mono ?_
          rintro e w2 ⟨rfl, b2⟩
          have HB2 := Lib.hid (HBW.out.trans (b2.mono HBW.out.size))
          clear b2 c0 c1 c2 c3
          go_wp2_with fail
          go_ret
          rw [HN.out]
          exact ⟨rfl, HB2.out⟩
        | false =>
          have HN := Lib.hid (HA.out.trans (idx_miss (s := s) hx hbe))
          rw [hbe] at HY
          clear hx HA hcc hbe
          go_wp2_with fail
          refine HY.out.mono ?_
          rintro e w2 ⟨rfl, b2⟩
          have HB2 := Lib.hid (HBW.out.trans (b2.mono HBW.out.size))
          clear b2 c0 c1 c2 c3
          go_wp2_with fail
          go_roundw
          case rel => exact ⟨k + 1, by omega, congrArg _ (wrap_s HS.out hlt), HB2.out, HN⟩
          case measure =>
            rw [wrap_s HS.out hlt]
            exact int_less hlt
      · obtain rfl : k = L.length := by omega
        have HE : Hid (r = -1) := Lib.hid (by rw [HA.out]; unfold idxL; rw [List.drop_length]; rfl)
        go_wp2_with fail
        go_ret
        rw [HE.out]
        exact ⟨rfl, HBW.out⟩
theorem setCell_at {w : World} {g k : Nat} {cs : Array Value} {t : TypeId} {m : Nat × Nat} (h : w.heap[g]? = some (.cells cs t m)) (v : Value) : (w.setCell ⟨g, k, none⟩ v).heap[g]? = some (.cells (cs.setIfInBounds k v) t m) := by
  simp [World.setCell, h, Array.getElem?_modify]
theorem set3 {w0 w : World} {g : Nat} {a b c : Value} {T : TypeId} (h : w.heap[g]? = some (.cells #[a, b, c] T (0, 0))) (hb : Below w0.heap.size w0 w) (hg : w0.heap.size ≤ g) (x y z : Value) :
    ((((w.setCell ⟨g, 0, none⟩ x).setCell ⟨g, 1, none⟩ y).setCell ⟨g, 2, none⟩ z).cell? ⟨g, 0, none⟩ = some x ∧ (((w.setCell ⟨g, 0, none⟩ x).setCell ⟨g, 1, none⟩ y).setCell ⟨g, 2, none⟩ z).cell? ⟨g, 1, none⟩ = some y ∧
      (((w.setCell ⟨g, 0, none⟩ x).setCell ⟨g, 1, none⟩ y).setCell ⟨g, 2, none⟩ z).cell? ⟨g, 2, none⟩ = some z) ∧ Below w0.heap.size w0 (((w.setCell ⟨g, 0, none⟩ x).setCell ⟨g, 1, none⟩ y).setCell ⟨g, 2, none⟩ z) :=
  ⟨cells3_of (setCell_at (setCell_at (setCell_at h x) y) z), ((hb.setCell (p := ⟨g, 0, none⟩) hg _).setCell (p := ⟨g, 1, none⟩) hg _).setCell (p := ⟨g, 2, none⟩) hg _⟩
theorem idx_get (L : List Fld) (s : Nm) : ∀ d k, k + d = L.length → (idxL L s k = -1 ∧ getL (L.drop k) s = none) ∨ ∃ (j : Nat) (h : j < L.length), idxL L s k = j ∧ getL (L.drop k) s = some (L[j]).val
  | 0, k, h => .inl ⟨by unfold idxL; rw [List.drop_of_length_le (by omega)]; rfl, by rw [List.drop_of_length_le (by omega)]; rfl⟩
  | d + 1, k, h => by
    have hk : k < L.length := by omega
    have hx : L[k]? = some L[k] := List.getElem?_eq_getElem hk
    cases hb : (L[k]).name.toList == s.toList with
    | true => exact .inr ⟨k, hk, idx_hit hx hb, getL_hit hx hb⟩
    | false =>
      rw [idx_miss hx hb, getL_miss hx hb]
      exact idx_get L s d (k + 1) (by omega)
set_option maxHeartbeats 1000000 in
set_option maxRecDepth 100000 in
theorem get_any (L : List Fld) (v : Value) (s : Nm) (w : World) (h : FldsAt w v L) (hl : FldsOk L) :
    Calls Tryz.prog 36 #[v, .string s] w fun e w' => e = .returned (gotV (getL L s)) ∧ Below w.heap.size w w' := by
  have hmf : ∀ (fn : Fn) (first cap : Array Value) (w : World), (Instr.makeFunc fn first cap).run Tryz.prog w = .ok (.func fn first cap) w := fun _ _ _ _ => rfl
  have HW : Hid (∃ W, (w.alloc (.cells #[.string s] 9)).alloc (.cells #[.int .i64 0, .int .i64 0, .string ⟨#[]⟩] 23) = W ∧ W.heap[w.heap.size]? = some (.cells #[.string s] 9 (0, 0)) ∧
      W.heap[w.heap.size + 1]? = some (.cells #[.int .i64 0, .int .i64 0, .string ⟨#[]⟩] 23 (0, 0)) ∧ W.heap.size = w.heap.size + 2 ∧ Below w.heap.size w W) := Lib.hid (by
    refine ⟨_, rfl, ?_, ?_, by simp, (fresh_alloc w _).alloc (by simp) _⟩
    · rw [heap_old _ _ (by simp)]; exact heap_last _ _
    · have h := heap_last (w.alloc (.cells #[.string s] 9)) (.cells #[.int .i64 0, .int .i64 0, .string ⟨#[]⟩] 23)
      rw [show (w.alloc (.cells #[.string s] 9)).heap.size = w.heap.size + 1 by simp] at h
      exact h)
  obtain ⟨r, hr⟩ : ∃ r, r = getL L s := ⟨_, rfl⟩
  rw [← hr]
  have HIG := Lib.hid (idx_get L s L.length 0 (by omega))
  rw [List.drop_zero, ← hr] at HIG
  have HI := Lib.hid (fun W (b : Below w.heap.size w W) (x : W.heap[w.heap.size]? = some (.cells #[.string s] 9 (0, 0))) => index_any L v s w.heap.size W (h.below b) hl x)
  have HH := Lib.hid h
  obtain ⟨p, c, rfl⟩ := h.form
  generalize idxL L s 0 = ix at *
  clear hr hl h
  go_enter Tryz.func36, Tryz.ntmps36
  go_wp2_with fail
  obtain ⟨W, eW, x0, x1, sW, bW⟩ := HW.out
  rw [eW]
  refine (HI.out W bW x0).mono ?_
  rintro e w2 ⟨rfl, b2⟩
  have HB2 := Lib.hid (bW.trans (b2.mono (by omega)))
  have X2 := Lib.hid ((b2.block (w.heap.size + 1) (by omega)).trans x1)
  clear eW x0 x1 sW bW b2
  obtain ⟨d0, d1, d2⟩ := cells3_of X2.out
  have k0 : w2.frozen? ⟨w.heap.size + 1, 0, none⟩ = false := Lib.frozen_of_heap X2.out 0
  have k1 : w2.frozen? ⟨w.heap.size + 1, 1, none⟩ = false := Lib.frozen_of_heap X2.out 1
  have k2 : w2.frozen? ⟨w.heap.size + 1, 2, none⟩ = false := Lib.frozen_of_heap X2.out 2
  rcases HIG.out with ⟨rfl, hrn⟩ | ⟨j, hj, rfl, hrs⟩
  · have HN := Lib.hid hrn
    clear hrn
    obtain ⟨⟨e0, e1, e2⟩, eb⟩ := set3 X2.out HB2.out (Nat.le_succ _) (.int .i64 0) (.int .i64 0) (.string ⟨#[]⟩)
    have EB := Lib.hid eb
    clear eb
    go_wp2_with fail
    refine bodyPost_ret (v := .tuple #[.agg #[.int .i64 0, .int .i64 0, .string ⟨#[]⟩], .bool false]) (by simp [results, Tryz.results36, go_sem, e0, e1, e2]) rfl ?_
    rw [HN.out]
    exact ⟨rfl, EB.out⟩
  · rcases HH.out with ⟨rfl, _⟩ | ⟨b, off, c', hsl, hb, hc⟩
    · exact absurd hj (by simp)
    · injection hsl with e1 e2 e3
      subst e1 e3
      obtain ⟨c0, c1, c2, c3⟩ := hc w2 (HB2.out.block b hb) j hj
      generalize L[j] = x at *
      obtain ⟨nm, ⟨kd, n, t⟩⟩ := x
      simp only at c0 c1 c2 c3 hrs
      have HN := Lib.hid hrs
      clear hrs hc hb e2
      obtain ⟨⟨e0, e1, e2⟩, eb⟩ := set3 X2.out HB2.out (Nat.le_succ _) (.int .i64 kd) (.int .i64 n) (.string t)
      have EB := Lib.hid eb
      clear eb
      go_wp2_with fail
      refine bodyPost_ret (v := .tuple #[.agg #[.int .i64 kd, .int .i64 n, .string t], .bool true]) (by simp [results, Tryz.results36, go_sem, e0, e1, e2]) rfl ?_
      rw [HN.out]
      exact ⟨rfl, EB.out⟩
end Pq
end Go.Proofs.YtclmalaomofahaaGreatDoor
namespace Go.Proofs.YtclmalaomofahaaGreatDoor
namespace Pq
set_option linter.unusedVariables false
open Go Go.RowKit Go.Shelf Pl
def lessT (a b : Nm) : Bool := Op.bytesLess a.toList b.toList
def eqT (a b : Nm) : Bool := a.toList == b.toList
def cmpV (a b : Val) : Int := if a.kind < b.kind then -1 else if b.kind < a.kind then 1 else if a.n < b.n then -1 else if b.n < a.n then 1 else if lessT a.text b.text = true then -1 else if eqT a.text b.text = true then 0 else 1
set_option maxHeartbeats 1000000 in
set_option maxRecDepth 100000 in
theorem rcompare_any (k n k' n' : Int) (t t' : ByteArray) (w : World) :
    Calls Tryz.prog 28 #[.agg #[.int .i64 k, .int .i64 n, .string t], .agg #[.int .i64 k', .int .i64 n', .string t']] w fun e w' => e = .returned (.int .i64 (cmpV ⟨k, n, t⟩ ⟨k', n', t'⟩)) ∧ Below w.heap.size w w' := by
  obtain ⟨r, hr⟩ : ∃ r, r = cmpV ⟨k, n, t⟩ ⟨k', n', t'⟩ := ⟨_, rfl⟩
  rw [← hr]
  unfold cmpV lessT eqT at hr
  simp only at hr
  have HR := Lib.hid hr
  clear hr
  have z := heap_last w (.cells #[.int .i64 k, .int .i64 n, .string t] 23)
  obtain ⟨a0, a1, a2⟩ := cells3_new z (.cells #[.int .i64 k', .int .i64 n', .string t'] 23)
  have z2 := heap_last (w.alloc (.cells #[.int .i64 k, .int .i64 n, .string t] 23)) (.cells #[.int .i64 k', .int .i64 n', .string t'] 23)
  rw [show (w.alloc (.cells #[.int .i64 k, .int .i64 n, .string t] 23)).heap.size = w.heap.size + 1 by simp] at z2
  obtain ⟨b0, b1, b2⟩ := cells3_of z2
  have HB := Lib.hid ((fresh_alloc w (.cells #[.int .i64 k, .int .i64 n, .string t] 23)).alloc (by simp) (.cells #[.int .i64 k', .int .i64 n', .string t'] 23))
  clear z z2
  go_enter Tryz.func28, Tryz.ntmps28
  rcases Int.lt_trichotomy k k' with h1 | h1 | h1
  · go_wp2_with fail
    go_ret
    exact ⟨by rw [HR.out, if_pos h1]; rfl, HB.out⟩
  · subst h1
    rcases Int.lt_trichotomy n n' with h2 | h2 | h2
    · go_wp2_with fail
      go_ret
      exact ⟨by rw [HR.out]; simp [h2], HB.out⟩
    · subst h2
      cases h3 : Op.bytesLess t.toList t'.toList with
      | true =>
        go_wp2_with fail
        go_ret
        exact ⟨by rw [HR.out]; simp [h3], HB.out⟩
      | false =>
        cases h4 : t.toList == t'.toList with
        | true =>
          go_wp2_with fail
          go_ret
          exact ⟨by rw [HR.out]; simp [h3, h4], HB.out⟩
        | false =>
          go_wp2_with fail
          go_ret
          exact ⟨by rw [HR.out]; simp [h3, h4], HB.out⟩
    · have h3 : ¬ n < n' := by omega
      go_wp2_with fail
      go_ret
      exact ⟨by rw [HR.out]; simp [h2]; omega, HB.out⟩
  · have h3 : ¬ k < k' := by omega
    go_wp2_with fail
    go_ret
    exact ⟨by rw [HR.out]; simp [h1]; omega, HB.out⟩
def orL : List Int → Int
  | [] => 0
  | x :: r => if x = 0 then orL r else x
theorem orL_at {L : List Int} {k : Nat} {n : Int} (h : L[k]? = some n) : orL (L.drop k) = if n = 0 then orL (L.drop (k + 1)) else n := by
  have hk : k < L.length := (List.getElem?_eq_some_iff.1 h).1
  have e := (List.getElem?_eq_some_iff.1 h).2
  rw [List.drop_eq_getElem_cons hk, e]
  rfl
set_option maxHeartbeats 1000000 in
theorem or_any (L : List Int) (g c : Nat) (w : World) (hc : ∀ j (h : j < L.length), w.cell? ⟨g, j, none⟩ = some (.int .i64 L[j])) (hl : L.length ≤ 1000) :
    Calls Tryz.prog 50 #[.slice (some ⟨g, 0, none⟩) L.length c] w fun e w' => e = .returned (.int .i64 (orL L)) ∧ w' = w := by
  obtain ⟨r, hr⟩ : ∃ r, r = orL L := ⟨_, rfl⟩
  rw [← hr]
  have HC := Lib.hid hc
  have HS : Hid (L.length ≤ maxLen) := Lib.hid (by unfold maxLen; omega)
  have HR := Lib.hid hr
  clear hc hl hr
  go_enter Tryz.func50, Tryz.ntmps50
  go_wp2
  go_loop [8] (fun i => ∃ k : Nat, k ≤ L.length ∧ i = .int .i64 k ∧ Hid (r = orL (L.drop k))) (fun i => L.length - (intOf i).toNat)
  case atStart => exact ⟨0, Nat.zero_le _, rfl, HR⟩
  case round =>
    obtain ⟨k, hk, rfl, HA⟩ := hrel
    by_cases hlt : k < L.length
    · have hcell := HC.out k hlt
      have hx : L[k]? = some L[k] := List.getElem?_eq_getElem hlt
      generalize hcc : L[k] = n at hx hcell
      have HA2 := Lib.hid (HA.out.trans (orL_at hx))
      clear hx HA hcc
      by_cases h0 : n = 0
      · subst h0
        have HN := Lib.hid (HA2.out.trans (if_pos rfl))
        go_wp2_with fail
        go_round
        case rel => exact ⟨k + 1, by omega, congrArg _ (wrap_s HS.out hlt), HN⟩
        case measure =>
          rw [wrap_s HS.out hlt]
          exact int_less hlt
      · have HN := Lib.hid (HA2.out.trans (if_neg h0))
        go_wp2_with fail
        go_ret
        rw [HN.out]
        exact ⟨rfl, rfl⟩
    · obtain rfl : k = L.length := by omega
      have HE : Hid (r = 0) := Lib.hid (by rw [HA.out, List.drop_length]; rfl)
      go_wp2_with fail
      go_ret
      rw [HE.out]
      exact ⟨rfl, rfl⟩
end Pq
end Go.Proofs.YtclmalaomofahaaGreatDoor
namespace Go.Proofs.YtclmalaomofahaaGreatDoor
namespace Pq
set_option linter.unusedVariables false
open Go Go.RowKit Go.Shelf Pl
set_option maxHeartbeats 4000000 in
set_option maxRecDepth 100000 in
theorem compare_any (k n k' n' : Int) (t t' : ByteArray) (w : World) :
    Calls Tryz.prog 37 #[.agg #[.int .i64 k, .int .i64 n, .string t], .agg #[.int .i64 k', .int .i64 n', .string t']] w fun e w' => e = .returned (.int .i64 (orL [Lib.compareInt k k', Lib.compareInt n n', Lib.compareBytes t.data.toList t'.data.toList])) ∧ Below w.heap.size w w' := by
  have z := heap_last w (.cells #[.int .i64 k, .int .i64 n, .string t] 23)
  obtain ⟨a0, a1, a2⟩ := cells3_new z (.cells #[.int .i64 k', .int .i64 n', .string t'] 23)
  have z2 := heap_last (w.alloc (.cells #[.int .i64 k, .int .i64 n, .string t] 23)) (.cells #[.int .i64 k', .int .i64 n', .string t'] 23)
  rw [show (w.alloc (.cells #[.int .i64 k, .int .i64 n, .string t] 23)).heap.size = w.heap.size + 1 by simp] at z2
  obtain ⟨b0, b1, b2⟩ := cells3_of z2
  have HB := Lib.hid ((fresh_alloc w (.cells #[.int .i64 k, .int .i64 n, .string t] 23)).alloc (by simp) (.cells #[.int .i64 k', .int .i64 n', .string t'] 23))
  obtain ⟨f, hf⟩ : ∃ f, f = Lib.compareInt := ⟨_, rfl⟩
  obtain ⟨r3, hr3⟩ : ∃ r, r = Lib.compareBytes t.data.toList t'.data.toList := ⟨_, rfl⟩
  have HT := Lib.hid (fun W => Tryz.strings_Compare t t' W)
  have H1 := Lib.hid (fun x y W => Tryz.cmp_Compare_int x y W)
  rw [← hf] at H1
  rw [← hr3] at HT
  rw [← hf, ← hr3]
  have HO := Lib.hid (fun g W hc => or_any [f k k', f n n', r3] g 3 W hc (by simp))
  clear z z2 hf hr3
  go_enter Tryz.func37, Tryz.ntmps37
  go_wp2_with fail
  have hbd := HB.out.drew
  have HOG := Lib.hid (fun (W : World) => HO.out W.heap.size (W.alloc (.cells #[.int .i64 (f k k'), .int .i64 (f n n'), .int .i64 r3] 3)).drew (by
    intro j hj
    have hh := heap_last W (.cells #[.int .i64 (f k k'), .int .i64 (f n n'), .int .i64 r3] 3)
    have hj3 : j < 3 := hj
    rw [Lib.cell_of_heap (w := (W.alloc (.cells #[.int .i64 (f k k'), .int .i64 (f n n'), .int .i64 r3] 3)).drew) hh]
    have : j = 0 ∨ j = 1 ∨ j = 2 := by omega
    rcases this with rfl | rfl | rfl <;> rfl))
  have HZ : Hid (w.heap.size + 2 ≤ ((w.alloc (.cells #[.int .i64 k, .int .i64 n, .string t] 23)).alloc (.cells #[.int .i64 k', .int .i64 n', .string t'] 23)).heap.size) := Lib.hid (by simp)
  generalize (w.alloc (.cells #[.int .i64 k, .int .i64 n, .string t] 23)).alloc (.cells #[.int .i64 k', .int .i64 n', .string t'] 23) = W0 at *
  clear HB HO
  have hS0 : W0.drew.cell? ⟨w.heap.size, 0, none⟩ = some (.int .i64 k) ∧ W0.drew.cell? ⟨w.heap.size, 1, none⟩ = some (.int .i64 n) ∧ W0.drew.cell? ⟨w.heap.size, 2, none⟩ = some (.string t) ∧ W0.drew.cell? ⟨w.heap.size + 1, 0, none⟩ = some (.int .i64 k') ∧ W0.drew.cell? ⟨w.heap.size + 1, 1, none⟩ = some (.int .i64 n') ∧ W0.drew.cell? ⟨w.heap.size + 1, 2, none⟩ = some (.string t') ∧ Below w.heap.size w W0.drew := ⟨a0, a1, a2, b0, b1, b2, hbd⟩
  have hz : w.heap.size + 2 ≤ W0.heap.size := HZ.out
  have old : ∀ g i v, g < W0.heap.size → W0.cell? ⟨g, i, none⟩ = v → (W0.alloc (.cells #[.int .i64 (f k k'), .int .i64 (f n n'), .int .i64 r3] 3)).drew.cell? ⟨g, i, none⟩ = v := fun g i v hg h => by
    rw [← h]
    exact World.cell?_of_block (w := W0) (heap_old W0 (.cells #[.int .i64 (f k k'), .int .i64 (f n n'), .int .i64 r3] 3) hg)
  have hS1 : (W0.alloc (.cells #[.int .i64 (f k k'), .int .i64 (f n n'), .int .i64 r3] 3)).drew.cell? ⟨w.heap.size, 0, none⟩ = some (.int .i64 k) ∧ (W0.alloc (.cells #[.int .i64 (f k k'), .int .i64 (f n n'), .int .i64 r3] 3)).drew.cell? ⟨w.heap.size, 1, none⟩ = some (.int .i64 n) ∧ (W0.alloc (.cells #[.int .i64 (f k k'), .int .i64 (f n n'), .int .i64 r3] 3)).drew.cell? ⟨w.heap.size, 2, none⟩ = some (.string t) ∧ (W0.alloc (.cells #[.int .i64 (f k k'), .int .i64 (f n n'), .int .i64 r3] 3)).drew.cell? ⟨w.heap.size + 1, 0, none⟩ = some (.int .i64 k') ∧ (W0.alloc (.cells #[.int .i64 (f k k'), .int .i64 (f n n'), .int .i64 r3] 3)).drew.cell? ⟨w.heap.size + 1, 1, none⟩ = some (.int .i64 n') ∧ (W0.alloc (.cells #[.int .i64 (f k k'), .int .i64 (f n n'), .int .i64 r3] 3)).drew.cell? ⟨w.heap.size + 1, 2, none⟩ = some (.string t') ∧ Below w.heap.size w (W0.alloc (.cells #[.int .i64 (f k k'), .int .i64 (f n n'), .int .i64 r3] 3)).drew :=
    ⟨old _ _ _ (by omega) a0, old _ _ _ (by omega) a1, old _ _ _ (by omega) a2, old _ _ _ (by omega) b0, old _ _ _ (by omega) b1, old _ _ _ (by omega) b2, (hbd.alloc (by show w.heap.size ≤ W0.heap.size; omega) _)⟩
  have HBZ := Lib.hid hS1.2.2.2.2.2.2
  clear a0 a1 a2 b0 b1 b2 hbd old hz
  go_region_held3 (fun x => x.cell? ⟨w.heap.size, 0, none⟩ = some (.int .i64 k) ∧ x.cell? ⟨w.heap.size, 1, none⟩ = some (.int .i64 n) ∧ x.cell? ⟨w.heap.size, 2, none⟩ = some (.string t) ∧ x.cell? ⟨w.heap.size + 1, 0, none⟩ = some (.int .i64 k') ∧ x.cell? ⟨w.heap.size + 1, 1, none⟩ = some (.int .i64 n') ∧ x.cell? ⟨w.heap.size + 1, 2, none⟩ = some (.string t') ∧ Below w.heap.size w x)
    (first | assumption | go_keep)
    (first
      | (go_at_call 51; refine (H1.out _ _ _).mono ?_; rintro e w1 ⟨rfl, rfl⟩)
      | (go_at_call 50; refine (HOG.out _).mono ?_; rintro e w1 ⟨rfl, rfl⟩)
      | (go_at_call 52; refine (HT.out _).mono ?_; rintro e w1 ⟨rfl, rfl⟩))
  go_wp2_with fail
  go_ret
  exact ⟨rfl, HBZ.out⟩
end Pq
end Go.Proofs.YtclmalaomofahaaGreatDoor
namespace Go.Proofs.YtclmalaomofahaaGreatDoor
namespace Pq
set_option linter.unusedVariables false
open Go Go.RowKit Go.Shelf Pl
theorem cmp_bytes : ∀ a b : List UInt8, Lib.compareBytes a b = if Op.bytesLess a b = true then -1 else if (a == b) = true then 0 else 1
  | [], [] => by simp [Lib.compareBytes, Op.bytesLess]
  | [], _ :: _ => by simp [Lib.compareBytes, Op.bytesLess]
  | _ :: _, [] => by simp [Lib.compareBytes, Op.bytesLess]
  | x :: a, y :: b => by
    have ih := cmp_bytes a b
    rw [Lib.compareBytes, Op.bytesLess, ih]
    by_cases h1 : x < y
    · simp [h1]
    · by_cases h2 : y < x
      · have h3 : ¬ x = y := fun e => by subst e; exact h1 h2
        simp [h1, h2, h3]
      · have h3 : x = y := UInt8.toNat_inj.1 (by rw [UInt8.lt_iff_toNat_lt] at h1 h2; omega)
        subst h3
        simp
theorem or_cmp (k n k' n' : Int) (t t' : Nm) : orL [Lib.compareInt k k', Lib.compareInt n n', Lib.compareBytes t.data.toList t'.data.toList] = cmpV ⟨k, n, t⟩ ⟨k', n', t'⟩ := by
  rw [cmp_bytes]
  unfold cmpV lessT eqT Lib.compareInt
  rw [Go.ByteArray.toList_eq, Go.ByteArray.toList_eq]
  simp only [orL]
  rcases Int.lt_trichotomy k k' with h | h | h
  · simp [h]
  · subst h
    rcases Int.lt_trichotomy n n' with h | h | h
    · simp [h]
    · subst h
      cases Op.bytesLess t.data.toList t'.data.toList <;> cases t.data.toList == t'.data.toList <;> simp
    · have h2 : ¬ n < n' := by omega
      simp [h, h2]
  · have h2 : ¬ k < k' := by omega
    simp [h, h2]
theorem compare_is (k n k' n' : Int) (t t' : ByteArray) (w : World) :
    Calls Tryz.prog 37 #[.agg #[.int .i64 k, .int .i64 n, .string t], .agg #[.int .i64 k', .int .i64 n', .string t']] w fun e w' => e = .returned (.int .i64 (cmpV ⟨k, n, t⟩ ⟨k', n', t'⟩)) ∧ Below w.heap.size w w' := by
  have h := compare_any k n k' n' t t' w
  rwa [or_cmp] at h
end Pq
end Go.Proofs.YtclmalaomofahaaGreatDoor
namespace Go.Proofs.YtclmalaomofahaaGreatDoor
namespace Pq
set_option linter.unusedVariables false
open Go Go.RowKit Go.Shelf Pl
theorem bytes_total : ∀ a b : List UInt8, a = b ∨ (Op.bytesLess a b = true ∧ Op.bytesLess b a = false) ∨ (Op.bytesLess a b = false ∧ Op.bytesLess b a = true)
  | [], [] => .inl rfl
  | [], _ :: _ => .inr (.inl ⟨rfl, rfl⟩)
  | _ :: _, [] => .inr (.inr ⟨rfl, rfl⟩)
  | x :: a, y :: b => by
    have ih := bytes_total a b
    simp only [Op.bytesLess]
    by_cases h1 : x < y
    · have h2 : ¬ y < x := by rw [UInt8.lt_iff_toNat_lt] at h1 ⊢; omega
      have h3 : ¬ y = x := fun e => by subst e; exact h2 h1
      right; left
      simp [h1, h2, h3]
    · by_cases h2 : y < x
      · have h3 : ¬ x = y := fun e => by subst e; exact h1 h2
        right; right
        simp [h1, h2, h3]
      · have h3 : x = y := UInt8.toNat_inj.1 (by rw [UInt8.lt_iff_toNat_lt] at h1 h2; omega)
        subst h3
        rcases ih with rfl | ih | ih
        · exact .inl rfl
        · right; left; simpa using ih
        · right; right; simpa using ih
theorem bytes_self (a : List UInt8) : Op.bytesLess a a = false := by
  rcases bytes_total a a with _ | h | h
  · induction a with
    | nil => rfl
    | cons x a ih => simp [Op.bytesLess, ih]
  · exact h.2
  · exact h.1
theorem cmpV_turned (a b : Val) : cmpV b a = -cmpV a b := by
  unfold cmpV lessT eqT
  rcases Int.lt_trichotomy a.kind b.kind with h | h | h
  · have h2 : ¬ b.kind < a.kind := by omega
    simp [h, h2]
  · rw [h]
    rcases Int.lt_trichotomy a.n b.n with h | h | h
    · have h2 : ¬ b.n < a.n := by omega
      simp [h, h2]
    · rw [h]
      rcases bytes_total a.text.toList b.text.toList with h | h | h
      · rw [h]; simp [bytes_self]
      · have hne : ¬ a.text.toList = b.text.toList := fun e => by rw [e, bytes_self] at h; cases h.1
        have hne' : ¬ b.text.toList = a.text.toList := fun e => hne e.symm
        simp [h.1, h.2, hne, hne']
      · have hne : ¬ a.text.toList = b.text.toList := fun e => by rw [e, bytes_self] at h; cases h.2
        have hne' : ¬ b.text.toList = a.text.toList := fun e => hne e.symm
        simp [h.1, h.2, hne, hne']
    · have h2 : ¬ a.n < b.n := by omega
      simp [h, h2]
  · have h2 : ¬ a.kind < b.kind := by omega
    simp [h, h2]
def eqV (a b : Val) : Bool := a.kind == b.kind && (a.n == b.n && eqT a.text b.text)
theorem cmpV_zero (a b : Val) : (cmpV a b == 0) = eqV a b := by
  unfold cmpV eqV lessT eqT
  rcases Int.lt_trichotomy a.kind b.kind with h | h | h
  · have h2 : ¬ a.kind = b.kind := by omega
    simp [h, h2]
  · rw [h]
    rcases Int.lt_trichotomy a.n b.n with h | h | h
    · have h2 : ¬ a.n = b.n := by omega
      simp [h, h2]
    · rw [h]
      rcases bytes_total a.text.toList b.text.toList with h | h | h
      · rw [h]; simp [bytes_self]
      · have hne : ¬ a.text.toList = b.text.toList := fun e => by rw [e, bytes_self] at h; cases h.1
        simp [h.1, hne]
      · have hne : ¬ a.text.toList = b.text.toList := fun e => by rw [e, bytes_self] at h; cases h.2
        simp [h.1, hne]
    · have h2 : ¬ a.n < b.n := by omega
      have h3 : ¬ a.n = b.n := by omega
      simp [h, h2, h3]
  · have h2 : ¬ a.kind < b.kind := by omega
    have h3 : ¬ a.kind = b.kind := by omega
    simp [h, h2, h3]
theorem cmpV_bd (a b : Val) : -1 ≤ cmpV a b ∧ cmpV a b ≤ 1 := by
  unfold cmpV
  repeat' split
  all_goals omega
/-- '==' of two values. -/
theorem eql_run (k n k' n' : Int) (t t' : Nm) (w : World) : (binOp .eql 23 (.agg #[.int .i64 k, .int .i64 n, .string t]) (.agg #[.int .i64 k', .int .i64 n', .string t'])).run Tryz.prog w = .ok (.bool (eqV ⟨k, n, t⟩ ⟨k', n', t'⟩)) w := by
  rw [run_eql_struct, run_equalIn_agg _ _ _ _ _ (by kernel_rfl) (by kernel_rfl)]
  simp only [Program.fieldsOf, Tryz.underlying23]
  have c1 : Tryz.prog.cellsOf 3 = 1 := by kernel_rfl
  have c2 : Tryz.prog.cellsOf 9 = 1 := by kernel_rfl
  have q1 := fun (a b : Int) (w : World) => run_equalIn_int (P := Tryz.prog) w 9998 3 .i64 .i64 a b Tryz.underlying3
  have q2 := fun (a b : Nm) (w : World) => run_equalIn_string (P := Tryz.prog) w 9998 9 a b Tryz.underlying9
  unfold eqV eqT
  by_cases h1 : k = k'
  · subst h1
    by_cases h2 : n = n'
    · subst h2
      cases h3 : t.toList == t'.toList <;> simp [Op.eqFields, go_sem, q1, q2, h3, Tryz.underlying3, Tryz.underlying9]
    · simp [Op.eqFields, go_sem, q1, q2, h2, Tryz.underlying3, Tryz.underlying9]
  · simp [Op.eqFields, go_sem, q1, q2, h1, Tryz.underlying3, Tryz.underlying9]
end Pq
end Go.Proofs.YtclmalaomofahaaGreatDoor
namespace Go.Proofs.YtclmalaomofahaaGreatDoor
namespace Pq
set_option linter.unusedVariables false
open Go Go.RowKit Go.Shelf Pl
/-- Is it so? -/
noncomputable def isB (p : Prop) : Bool := @decide p (Classical.propDecidable p)
theorem isB_yes {p : Prop} (h : p) : isB p = true := by unfold isB; exact @decide_eq_true p (Classical.propDecidable p) h
theorem isB_no {p : Prop} (h : ¬ p) : isB p = false := by unfold isB; exact @decide_eq_false p (Classical.propDecidable p) h
theorem isB_iff {p : Prop} : isB p = true ↔ p := by
  constructor
  · intro h; unfold isB at h; exact @of_decide_eq_true p (Classical.propDecidable p) h
  · exact isB_yes
theorem isB_of {p : Prop} {b : Bool} (h : b = true ↔ p) : isB p = b := by
  cases b with
  | true => exact isB_yes (h.mp rfl)
  | false => exact isB_no fun c => by have := h.mpr c; cases this
theorem nm_eq {a b : Nm} : (a.toList == b.toList) = true ↔ a = b := by
  rw [Go.ByteArray.toList_eq, Go.ByteArray.toList_eq]
  constructor
  · intro h
    have h2 : a.data.toList = b.data.toList := by simpa using h
    cases a; cases b
    simp only at h2
    rw [Array.toList_inj.mp h2]
  · rintro rfl; simp
theorem nm_eq' {a b : Nm} : a.toList = b.toList ↔ a = b := by rw [← nm_eq]; simp
theorem eqV_iff {a b : Val} : eqV a b = true ↔ a = b := by
  obtain ⟨k, n, t⟩ := a
  obtain ⟨k', n', t'⟩ := b
  simp only [eqV, eqT, Bool.and_eq_true, beq_iff_eq, nm_eq', Val.mk.injEq]
def eqF (f g : Fld) : Bool := (f.name.toList == g.name.toList) && eqV f.val g.val
theorem eqF_iff {f g : Fld} : eqF f g = true ↔ f = g := by
  obtain ⟨a, x⟩ := f
  obtain ⟨b, y⟩ := g
  simp only [eqF, Bool.and_eq_true, nm_eq, eqV_iff, Fld.mk.injEq]
set_option maxHeartbeats 1000000 in
/-- '!=' of two fields. -/
theorem neqF_run (a b : Nm) (k n k' n' : Int) (t t' : Nm) (w : World) : (binOp .neq 55 (.agg #[.string a, .int .i64 k, .int .i64 n, .string t]) (.agg #[.string b, .int .i64 k', .int .i64 n', .string t'])).run Tryz.prog w = .ok (.bool (!(eqF ⟨a, ⟨k, n, t⟩⟩ ⟨b, ⟨k', n', t'⟩⟩))) w := by
  rw [run_neq_struct, run_equalIn_agg _ _ _ _ _ (by kernel_rfl) (by kernel_rfl)]
  have c1 : Tryz.prog.cellsOf 3 = 1 := by kernel_rfl
  have c2 : Tryz.prog.cellsOf 9 = 1 := by kernel_rfl
  have c3 : Tryz.prog.cellsOf 23 = 3 := by kernel_rfl
  have q1 := fun (d : Nat) (a b : Int) (w : World) => run_equalIn_int (P := Tryz.prog) w d 3 .i64 .i64 a b Tryz.underlying3
  have q2 := fun (d : Nat) (a b : Nm) (w : World) => run_equalIn_string (P := Tryz.prog) w d 9 a b Tryz.underlying9
  have q3 := fun (d : Nat) (xs ys : Array Value) (w : World) => run_equalIn_agg (P := Tryz.prog) w d 23 xs ys (by kernel_rfl) (by kernel_rfl)
  simp only [Program.fieldsOf, Tryz.underlying55, Tryz.underlying23] at q3 ⊢
  unfold eqF eqV eqT
  cases h0 : a.toList == b.toList
  · simp [Op.eqFields, go_sem, q1, q2, q3, h0, Tryz.underlying3, Tryz.underlying9, Tryz.underlying23]
  · by_cases h1 : k = k'
    · subst h1
      by_cases h2 : n = n'
      · subst h2
        cases h3 : t.toList == t'.toList <;> simp [Op.eqFields, go_sem, q1, q2, q3, h0, h3, Tryz.underlying3, Tryz.underlying9, Tryz.underlying23]
      · simp [Op.eqFields, go_sem, q1, q2, q3, h0, h2, Tryz.underlying3, Tryz.underlying9, Tryz.underlying23]
    · simp [Op.eqFields, go_sem, q1, q2, q3, h0, h1, Tryz.underlying3, Tryz.underlying9, Tryz.underlying23]
/-- Only the tape has turned. -/
def Qt (w w' : World) : Prop := w'.heap = w.heap ∧ Below w.heap.size w w'
theorem Qt.refl (w : World) : Qt w w := ⟨rfl, Below.refl _ _⟩
theorem Qt.drewN {w w' : World} (h : Qt w w') (n : Nat) : Qt w (w'.drewN n) := ⟨h.1, h.2.trans ⟨rfl, rfl, rfl, Nat.le_refl _, fun _ _ => rfl⟩⟩
theorem Qt.block {w w' : World} (h : Qt w w') (g : Nat) : w'.heap[g]? = w.heap[g]? := by rw [h.1]
theorem take_next {α} {a b : List α} {k : Nat} {x y : α} (hx : a[k]? = some x) (hy : b[k]? = some y) (h : a.take k = b.take k) (e : x = y) : a.take (k + 1) = b.take (k + 1) := by
  rw [List.take_add_one, List.take_add_one, hx, hy, h, e]
theorem take_all {α} {a b : List α} (hl : a.length = b.length) (h : a.take a.length = b.take a.length) : a = b := by
  rw [List.take_length, hl, List.take_length] at h; exact h
end Pq
end Go.Proofs.YtclmalaomofahaaGreatDoor
namespace Go.Proofs.YtclmalaomofahaaGreatDoor
namespace Pq
set_option linter.unusedVariables false
open Go Go.RowKit Go.Shelf Pl
theorem two_cells {w : World} {g : Nat} {a b : Value} {T : TypeId} (h : w.heap[g]? = some (.cells #[a, b] T (0, 0))) : w.cell? ⟨g, 0, none⟩ = some a ∧ w.cell? ⟨g, 1, none⟩ = some b := by
  constructor <;> rw [Lib.cell_of_heap h] <;> rfl
theorem two_boxes (w : World) (a b c d : Value) (T : TypeId) :
    (((w.alloc (.cells #[a, b] T)).alloc (.cells #[c, d] T)).cell? ⟨w.heap.size, 0, none⟩ = some a ∧ ((w.alloc (.cells #[a, b] T)).alloc (.cells #[c, d] T)).cell? ⟨w.heap.size, 1, none⟩ = some b) ∧
    (((w.alloc (.cells #[a, b] T)).alloc (.cells #[c, d] T)).cell? ⟨w.heap.size + 1, 0, none⟩ = some c ∧ ((w.alloc (.cells #[a, b] T)).alloc (.cells #[c, d] T)).cell? ⟨w.heap.size + 1, 1, none⟩ = some d) ∧
    Below w.heap.size w ((w.alloc (.cells #[a, b] T)).alloc (.cells #[c, d] T)) := by
  have h1 := heap_last (w.alloc (.cells #[a, b] T)) (.cells #[c, d] T)
  rw [show (w.alloc (.cells #[a, b] T)).heap.size = w.heap.size + 1 by simp] at h1
  refine ⟨two_cells ((heap_old _ _ (by simp)).trans (heap_last _ _)), two_cells h1, (fresh_alloc w _).alloc (by simp) _⟩
end Pq
end Go.Proofs.YtclmalaomofahaaGreatDoor
namespace Go.Proofs.YtclmalaomofahaaGreatDoor
namespace Pq
set_option linter.unusedVariables false
open Go Go.RowKit Go.Shelf Pl
theorem pt_eq {a b : Pt} : a = b ↔ a.id = b.id ∧ a.vecs = b.vecs ∧ a.flds = b.flds := by
  obtain ⟨i, v, f⟩ := a
  obtain ⟨j, u, g⟩ := b
  simp only [Pt.mk.injEq]
theorem isB_pt (a b : Pt) : isB (a = b) = ((a.id == b.id) && (isB (a.vecs = b.vecs) && isB (a.flds = b.flds))) := isB_of (by rw [pt_eq]; simp only [Bool.and_eq_true, isB_iff, beq_iff_eq])
/-- A point that lies in a box. -/
theorem three_boxes (w : World) (a b c a' b' c' : Value) (T : TypeId) :
    (((w.alloc (.cells #[a, b, c] T)).alloc (.cells #[a', b', c'] T)).cell? ⟨w.heap.size, 0, none⟩ = some a ∧ ((w.alloc (.cells #[a, b, c] T)).alloc (.cells #[a', b', c'] T)).cell? ⟨w.heap.size, 1, none⟩ = some b ∧ ((w.alloc (.cells #[a, b, c] T)).alloc (.cells #[a', b', c'] T)).cell? ⟨w.heap.size, 2, none⟩ = some c) ∧
    (((w.alloc (.cells #[a, b, c] T)).alloc (.cells #[a', b', c'] T)).cell? ⟨w.heap.size + 1, 0, none⟩ = some a' ∧ ((w.alloc (.cells #[a, b, c] T)).alloc (.cells #[a', b', c'] T)).cell? ⟨w.heap.size + 1, 1, none⟩ = some b' ∧ ((w.alloc (.cells #[a, b, c] T)).alloc (.cells #[a', b', c'] T)).cell? ⟨w.heap.size + 1, 2, none⟩ = some c') ∧
    Below w.heap.size w ((w.alloc (.cells #[a, b, c] T)).alloc (.cells #[a', b', c'] T)) := by
  have h1 := heap_last (w.alloc (.cells #[a, b, c] T)) (.cells #[a', b', c'] T)
  rw [show (w.alloc (.cells #[a, b, c] T)).heap.size = w.heap.size + 1 by simp] at h1
  exact ⟨cells3_of ((heap_old _ _ (by simp)).trans (heap_last _ _)), cells3_of h1, (fresh_alloc w _).alloc (by simp) _⟩
theorem box_later {w W X : World} {g i : Nat} {v : Value} (h : W.cell? ⟨g, i, none⟩ = some v) (hb : Below W.heap.size W X) (hg : g < W.heap.size) : X.cell? ⟨g, i, none⟩ = some v := by
  rw [← h]; exact World.cell?_of_block (w := W) (hb.block g hg)
end Pq
end Go.Proofs.YtclmalaomofahaaGreatDoor
namespace Go.Proofs.YtclmalaomofahaaGreatDoor
namespace Pq
set_option linter.unusedVariables false
open Go Go.RowKit Go.Shelf Pl
def iCells (L : List Int) : List Value := L.map fun n => .int .i64 n
def fCells (L : List Fld) : List Value := L.flatMap fun f => [.string f.name, .int .i64 f.val.kind, .int .i64 f.val.n, .string f.val.text]
def vCells (L : List (Nm × Value)) : List Value := L.flatMap fun x => [.string x.1, x.2]
theorem iCells_len (L : List Int) : (iCells L).length = L.length := by simp [iCells]
theorem fCells_len (L : List Fld) : (fCells L).length = L.length * 4 := by
  induction L with
  | nil => rfl
  | cons p r ih => show (fCells r).length + 1 + 1 + 1 + 1 = _; rw [ih, List.length_cons]; omega
theorem vCells_len (L : List (Nm × Value)) : (vCells L).length = L.length * 2 := by
  induction L with
  | nil => rfl
  | cons p r ih => show (vCells r).length + 1 + 1 = _; rw [ih, List.length_cons]; omega
theorem fCells_at : ∀ (L : List Fld) (j : Nat) (h : j < L.length), (fCells L)[j * 4]? = some (.string (L[j]).name) ∧ (fCells L)[j * 4 + 1]? = some (.int .i64 (L[j]).val.kind) ∧ (fCells L)[j * 4 + 2]? = some (.int .i64 (L[j]).val.n) ∧ (fCells L)[j * 4 + 3]? = some (.string (L[j]).val.text)
  | x :: r, 0, _ => ⟨rfl, rfl, rfl, rfl⟩
  | x :: r, j + 1, h => by
    obtain ⟨h0, h1, h2, h3⟩ := fCells_at r j (by simpa using h)
    have e : fCells (x :: r) = [.string x.name, .int .i64 x.val.kind, .int .i64 x.val.n, .string x.val.text] ++ fCells r := rfl
    have g : ∀ i, ([Value.string x.name, .int .i64 x.val.kind, .int .i64 x.val.n, .string x.val.text] ++ fCells r)[(j + 1) * 4 + i]? = (fCells r)[j * 4 + i]? := fun i => by
      rw [List.getElem?_append_right (by simp; omega)]
      congr 1
      simp; omega
    rw [e]
    exact ⟨(g 0).trans h0, (g 1).trans h1, (g 2).trans h2, (g 3).trans h3⟩
theorem vCells_at : ∀ (L : List (Nm × Value)) (j : Nat) (h : j < L.length), (vCells L)[j * 2]? = some (.string (L[j]).1) ∧ (vCells L)[j * 2 + 1]? = some (L[j]).2
  | x :: r, 0, _ => ⟨rfl, rfl⟩
  | x :: r, j + 1, h => by
    obtain ⟨h0, h1⟩ := vCells_at r j (by simpa using h)
    have e : vCells (x :: r) = [.string x.1, x.2] ++ vCells r := rfl
    have g : ∀ i, ([Value.string x.1, x.2] ++ vCells r)[(j + 1) * 2 + i]? = (vCells r)[j * 2 + i]? := fun i => by
      rw [List.getElem?_append_right (by simp; omega)]
      congr 1
      simp; omega
    rw [e]
    exact ⟨(g 0).trans h0, (g 1).trans h1⟩
theorem infoF : (Tryz.prog.info? 55).map (fun i => (i.zero, i.size, i.bytes)) = some (some (.agg #[.string ⟨#[]⟩, .int .i64 0, .int .i64 0, .string ⟨#[]⟩]), 4, 48) := by kernel_rfl
theorem infoV : (Tryz.prog.info? 125).map (fun i => (i.zero, i.size, i.bytes)) = some (some (.agg #[.string ⟨#[]⟩, .slice none 0 0]), 2, 40) := by kernel_rfl
/-- What a row of one's own holds at a place. -/
theorem own_at {w : World} {base size n : Nat} {e : TypeId} {v : Value} {xs : List Value} (h : w.ownsRow base e size v n xs) (hn : 0 < n) :
    ∃ g cap, v = .slice (some ⟨g, 0, none⟩) n cap ∧ base ≤ g ∧ g < w.heap.size ∧ ∀ W : World, W.heap[g]? = w.heap[g]? → ∀ i u, i < n * size → xs[i]? = some u → W.cell? ⟨g, i, none⟩ = some u := by
  rcases h.2 with ⟨_, h0⟩ | ⟨g, cap, cur, rfl, hb, hg, h1, h2, h3, h4⟩
  · omega
  · refine ⟨g, cap, rfl, hb, ?_, fun W hW i u hi hu => ?_⟩
    · rcases Nat.lt_or_ge g w.heap.size with c | c
      · exact c
      · rw [Array.getElem?_eq_none c] at hg; cases hg
    · rw [Lib.cell_of_heap (hW.trans hg), ← hu, ← h4, List.getElem?_take, if_pos hi, Array.getElem?_toList]
theorem own_nil {w : World} {base size : Nat} {e : TypeId} {v : Value} {xs : List Value} (h : w.ownsRow base e size v 0 xs) : ∃ p c, v = .slice p 0 c := by
  rcases h.2 with ⟨rfl, _⟩ | ⟨g, cap, cur, rfl, _⟩
  · exact ⟨_, _, rfl⟩
  · exact ⟨_, _, rfl⟩
theorem own_ints {w : World} {base : Nat} {v : Value} {L : List Int} (h : w.ownsRow base 3 1 v L.length (iCells L)) : IntsAt w v L := by
  rcases Nat.eq_zero_or_pos L.length with h0 | h0
  · rw [h0] at h
    obtain ⟨p, c, rfl⟩ := own_nil h
    exact .inl ⟨List.length_eq_zero_iff.mp h0, p, c, rfl⟩
  · obtain ⟨g, cap, rfl, hb, hg, hc⟩ := own_at h h0
    exact .inr ⟨g, 0, cap, rfl, hg, fun W hW j hj => by rw [Nat.zero_add]; exact hc W hW j _ (by omega) (by simp [iCells, hj])⟩
theorem own_flds {w : World} {base : Nat} {v : Value} {L : List Fld} (h : w.ownsRow base 55 4 v L.length (fCells L)) : FldsAt w v L := by
  rcases Nat.eq_zero_or_pos L.length with h0 | h0
  · rw [h0] at h
    obtain ⟨p, c, rfl⟩ := own_nil h
    exact .inl ⟨List.length_eq_zero_iff.mp h0, p, c, rfl⟩
  · obtain ⟨g, cap, rfl, hb, hg, hc⟩ := own_at h h0
    refine .inr ⟨g, 0, cap, rfl, hg, fun W hW j hj => ?_⟩
    obtain ⟨c0, c1, c2, c3⟩ := fCells_at L j hj
    rw [Nat.zero_add]
    exact ⟨hc W hW _ _ (by omega) c0, hc W hW _ _ (by omega) c1, hc W hW _ _ (by omega) c2, hc W hW _ _ (by omega) c3⟩
/-- All of a row behind none. -/
theorem append_none {w : World} {base size bytes : Nat} {t e : TypeId} {z : Value} {xs : List Value} {n c : Nat} {q : Option Addr} (ht : Tryz.prog.underlying t = some (.slice e)) (hinfo : (Tryz.prog.info? e).map (fun i => (i.zero, i.size, i.bytes)) = some (some z, size, bytes)) (hzs : z.cells.size = size) (hsz : 0 < size)
    (hl : xs.length = n * size) (hs : (n = 0 ∧ q = none) ∨ ∃ ad, q = some ad ∧ ∀ j u, xs[j]? = some u → w.cell? (ad.add j) = some u) (h1 : ∀ u ∈ xs, u.oneCell' = true) (hb : n * bytes ≤ 140737488355328) (hm : n ≤ maxLen) (hbase : base ≤ w.heap.size) :
    ∃ v' w', (∀ ty, (Builtin.append_ #[t, t] ty #[.slice none 0 0, .slice q n c]).run Tryz.prog w = .ok v' w') ∧ w'.ownsRow base e size v' n xs ∧ w.grownBy w' none := by
  obtain ⟨i0, hi, hz0, hz1, hz2⟩ := info_parts hinfo
  rcases hs with ⟨rfl, rfl⟩ | ⟨ad, rfl, hc⟩
  · have hx : xs = [] := List.length_eq_zero_iff.mp (by rw [hl]; omega)
    subst hx
    refine ⟨.slice none 0 0, w, fun ty => ?_, World.ownsRow_nil _ _ _ _, ⟨rfl, rfl, rfl, Nat.le_refl _, fun _ _ _ => rfl⟩⟩
    simp [Builtin.append_, run_underlying ht, sizeOf, typeInfo, hi, Builtin.lenOf, Builtin.firstCells]
  · obtain ⟨v', w', hr, h2, h3, _⟩ := run_append_own_at (P := Tryz.prog) w base t t e i0 _ size bytes ht hi hz0 hz1 hz2 hzs hsz (.slice none 0 0) 0 [] (World.ownsRow_nil _ _ _ _) ad n c xs hl hc h1 (by rw [Nat.zero_add]; exact hm) (by rw [Nat.zero_add]; exact hb) hbase
    exact ⟨v', w', fun _ => hr, by simpa using h2, h3⟩
theorem addr_at (g off j : Nat) : (⟨g, off, none⟩ : Addr).add j = ⟨g, off + j, none⟩ := by unfold Addr.add; split <;> simp_all
theorem append_ints0 {w : World} {base : Nat} {L : List Int} {v : Value} (h : IntsAt w v L) (hl : L.length * 8 ≤ 140737488355328) (hbase : base ≤ w.heap.size) :
    ∃ v' w', (∀ ty, (Builtin.append_ #[38, 38] ty #[.slice none 0 0, v]).run Tryz.prog w = .ok v' w') ∧ w'.ownsRow base 3 1 v' L.length (iCells L) ∧ w.grownBy w' none := by
  have go := fun (q : Option Addr) (c : Nat) hs => append_none (w := w) (base := base) (c := c) (q := q) Tryz.underlying38 infoI rfl (by decide) (xs := iCells L) (n := L.length) (by rw [iCells_len]; omega) hs (fun u hu => by
    simp only [iCells, List.mem_map] at hu
    obtain ⟨n, _, rfl⟩ := hu
    rfl) hl (by unfold maxLen; omega) hbase
  rcases h with ⟨rfl, p, c, rfl⟩ | ⟨g, off, c, rfl, hg, hc⟩
  · cases p with
    | none => exact go none c (.inl ⟨rfl, rfl⟩)
    | some a => exact go (some a) c (.inr ⟨a, rfl, fun j u hj => by simp [iCells] at hj⟩)
  · refine go _ c (.inr ⟨_, rfl, fun j u hj => ?_⟩)
    have hjl : j < L.length := by
      rcases Nat.lt_or_ge j L.length with c | c
      · exact c
      · rw [List.getElem?_eq_none (by rw [iCells_len]; exact c)] at hj; cases hj
    rw [addr_at, hc w rfl j hjl]
    simp [iCells, hjl] at hj
    rw [hj]
theorem append_flds0 {w : World} {base : Nat} {L : List Fld} {v : Value} (h : FldsAt w v L) (hl : L.length * 48 ≤ 140737488355328) (hbase : base ≤ w.heap.size) :
    ∃ v' w', (∀ ty, (Builtin.append_ #[28, 28] ty #[.slice none 0 0, v]).run Tryz.prog w = .ok v' w') ∧ w'.ownsRow base 55 4 v' L.length (fCells L) ∧ w.grownBy w' none := by
  have go := fun (q : Option Addr) (c : Nat) hs => append_none (w := w) (base := base) (c := c) (q := q) Tryz.underlying28 infoF rfl (by decide) (xs := fCells L) (n := L.length) (by rw [fCells_len]) hs (fun u hu => by
    simp only [fCells, List.mem_flatMap] at hu
    obtain ⟨f, _, hf⟩ := hu
    simp at hf
    rcases hf with rfl | rfl | rfl | rfl <;> rfl) hl (by unfold maxLen; omega) hbase
  rcases h with ⟨rfl, p, c, rfl⟩ | ⟨g, off, c, rfl, hg, hc⟩
  · cases p with
    | none => exact go none c (.inl ⟨rfl, rfl⟩)
    | some a => exact go (some a) c (.inr ⟨a, rfl, fun j u hj => by simp [fCells] at hj⟩)
  · refine go _ c (.inr ⟨_, rfl, fun j u hj => ?_⟩)
    obtain ⟨q, r, hr, rfl⟩ : ∃ q r, r < 4 ∧ j = q * 4 + r := ⟨j / 4, j % 4, by omega, by omega⟩
    have hq : q < L.length := by
      rcases Nat.lt_or_ge (q * 4 + r) (L.length * 4) with c | c
      · omega
      · rw [List.getElem?_eq_none (by rw [fCells_len]; exact c)] at hj; cases hj
    obtain ⟨a0, a1, a2, a3⟩ := fCells_at L q hq
    obtain ⟨b0, b1, b2, b3⟩ := hc w rfl q hq
    rw [addr_at, ← Nat.add_assoc, ← hj]
    match r, hr with
    | 0, _ => exact b0.trans a0.symm
    | 1, _ => exact b1.trans a1.symm
    | 2, _ => exact b2.trans a2.symm
    | 3, _ => exact b3.trans a3.symm
/-- One more vector behind an own row: it lies in a new block of its own. -/
theorem append_vec {w : World} {base g : Nat} {v : Value} {A : List (Nm × Value)} {n : Nm} {s : Value} (hown : w.ownsRow base 125 2 v A.length (vCells A)) (hg : w.heap[g]? = some (.cells #[.string n, s] 125 (0, 0)))
    (hs1 : s.oneCell' = true) (hb : (A.length + 1) * 40 ≤ 140737488355328) (hbase : base ≤ w.heap.size) :
    ∃ v' w', (∀ ty, (Builtin.append_ #[27, 27] ty #[v, .slice (some ⟨g, 0, none⟩) 1 1]).run Tryz.prog w = .ok v' w') ∧ w'.ownsRow base 125 2 v' (A ++ [(n, s)]).length (vCells (A ++ [(n, s)])) ∧ w.grownBy w' v.ownBlock ∧ (v'.ownBlock = v.ownBlock ∨ v'.ownBlock = some w.heap.size) := by
  obtain ⟨i0, hi, hz0, hz1, hz2⟩ := info_parts infoV
  obtain ⟨c0, c1⟩ := two_cells hg
  obtain ⟨v', w', hr, h2, h3, _, h5⟩ := run_append_own_at (P := Tryz.prog) w base 27 27 125 i0 _ 2 40 Tryz.underlying27 hi hz0 hz1 hz2 rfl (by decide) v A.length (vCells A) hown ⟨g, 0, none⟩ 1 1 [.string n, s] rfl
    (fun j u hj => by
      rw [addr_at, Nat.zero_add]
      match j, hj with
      | 0, hj => rw [← Option.some.inj hj]; exact c0
      | 1, hj => rw [← Option.some.inj hj]; exact c1
      | j + 2, hj => simp at hj)
    (fun u hu => by
      simp at hu
      rcases hu with rfl | rfl
      · rfl
      · exact hs1) (by unfold maxLen; omega) hb hbase
  have e : vCells (A ++ [(n, s)]) = vCells A ++ [.string n, s] := by simp [vCells]
  exact ⟨v', w', fun _ => hr, by rw [e, List.length_append]; exact h2, h3, h5⟩
end Pq
end Go.Proofs.YtclmalaomofahaaGreatDoor
namespace Go.Proofs.YtclmalaomofahaaGreatDoor
namespace Pq
set_option linter.unusedVariables false
open Go Go.RowKit Go.Shelf Pl
def zP : Obj := .cells #[.int .i64 0, .slice none 0 0, .slice none 0 0] 30
/-- A row of fields in a block that may be written. -/
def FldsOwn (w : World) (v : Value) (L : List Fld) : Prop :=
  (L = [] ∧ ∃ p c, v = .slice p 0 c) ∨ ∃ (g c : Nat) (cs : Array Value) (t : TypeId), v = .slice (some ⟨g, 0, none⟩) L.length c ∧ g < w.heap.size ∧ w.heap[g]? = some (.cells cs t (0, 0)) ∧
    ∀ j (h : j < L.length), cs[j * 4]? = some (.string (L[j]).name) ∧ cs[j * 4 + 1]? = some (.int .i64 (L[j]).val.kind) ∧ cs[j * 4 + 2]? = some (.int .i64 (L[j]).val.n) ∧ cs[j * 4 + 3]? = some (.string (L[j]).val.text)
theorem FldsOwn.at {w : World} {v : Value} {L : List Fld} (h : FldsOwn w v L) : FldsAt w v L := by
  rcases h with h | ⟨g, c, cs, t, rfl, hg, hc, h1⟩
  · exact .inl h
  · refine .inr ⟨g, 0, c, rfl, hg, fun W hW j hj => ?_⟩
    have hw := hW.trans hc
    rw [Nat.zero_add, Lib.cell_of_heap hw, Lib.cell_of_heap hw, Lib.cell_of_heap hw, Lib.cell_of_heap hw]
    exact h1 j hj
theorem FldsOwn.form {w : World} {v : Value} {L : List Fld} (h : FldsOwn w v L) : ∃ p c, v = .slice p L.length c := h.at.form
/-- A point that is being made: its box, its fields. -/
def Made (V : World) (i : Int) (L : List Fld) (P : Nat) (f : Value) (wx : World) : Prop :=
  wx.heap[P]? = some (.cells #[.int .i64 i, .slice none 0 0, f] 30 (0, 0)) ∧ FldsOwn wx f L ∧ Below V.heap.size V wx ∧ V.heap.size ≤ P ∧ P < wx.heap.size ∧ ∀ g, f.ownBlock = some g → L ≠ [] → g ≠ P ∧ g < wx.heap.size ∧ V.heap.size ≤ g
theorem FldsAt.belowD {w w' : World} {v : Value} {L : List Fld} (h : FldsAt w v L) (hb : ∀ b, b < w.heap.size → w'.heap[b]? = w.heap[b]?) : FldsAt w' v L := by
  rcases h with h | ⟨b, off, c, rfl, hg, hc⟩
  · exact .inl h
  · have hlt : b < w'.heap.size := by
      have h1 := hb b hg
      rw [Array.getElem?_eq_getElem hg] at h1
      exact (Array.getElem?_eq_some_iff.1 h1).1
    exact .inr ⟨b, off, c, rfl, hlt, fun W hW => hc W (hW.trans (hb b hg))⟩
theorem FldsOwn.belowD {w w' : World} {v : Value} {L : List Fld} (h : FldsOwn w v L) (hb : ∀ b, b < w.heap.size → w'.heap[b]? = w.heap[b]?) : FldsOwn w' v L := by
  rcases h with h | ⟨g, c, cs, t, rfl, hg, hc, h1⟩
  · exact .inl h
  · have e := (hb g hg).trans hc
    exact .inr ⟨g, c, cs, t, rfl, (Array.getElem?_eq_some_iff.1 e).1, e, h1⟩
theorem own_fldsO {w : World} {base : Nat} {v : Value} {L : List Fld} (h : w.ownsRow base 55 4 v L.length (fCells L)) : FldsOwn w v L := by
  rcases h.2 with ⟨rfl, h0⟩ | ⟨g, cap, cur, rfl, hb, hc, _, _, _, htk⟩
  · exact .inl ⟨List.length_eq_zero_iff.mp h0, none, 0, rfl⟩
  · refine .inr ⟨g, cap, cur, _, rfl, (Array.getElem?_eq_some_iff.1 hc).1, hc, fun j hj => ?_⟩
    have hcell : ∀ i v, i < L.length * 4 → (fCells L)[i]? = some v → cur[i]? = some v := fun i v hi hv => by
      rw [← hv, ← htk, List.getElem?_take, if_pos hi, Array.getElem?_toList]
    obtain ⟨e0, e1, e2, e3⟩ := fCells_at L j hj
    exact ⟨hcell _ _ (by omega) e0, hcell _ _ (by omega) e1, hcell _ _ (by omega) e2, hcell _ _ (by omega) e3⟩
theorem own_slice {w : World} {base size n : Nat} {e : TypeId} {v : Value} {xs : List Value} (h : w.ownsRow base e size v n xs) : ∃ p c, v = .slice p n c := by
  rcases h.2 with ⟨rfl, rfl⟩ | ⟨g, cap, cur, rfl, _⟩
  · exact ⟨_, _, rfl⟩
  · exact ⟨_, _, rfl⟩
theorem own_other {w : World} {base size n g k : Nat} {e : TypeId} {v x : Value} {xs : List Value} (h : w.ownsRow base e size v n xs) (hg : g < base) : (w.setCell ⟨g, k, none⟩ x).ownsRow base e size v n xs := by
  refine ⟨h.1, ?_⟩
  rcases h.2 with h0 | ⟨g2, cap, cur, rfl, hb, hc, h1⟩
  · exact .inl h0
  · exact .inr ⟨g2, cap, cur, rfl, hb, (heap_setCell_other _ _ _ _ (by show g2 ≠ g; omega)).trans hc, h1⟩
theorem own_lt {w : World} {base size n g : Nat} {e : TypeId} {v : Value} {xs : List Value} (h : w.ownsRow base e size v n xs) (hg : v.ownBlock = some g) : base ≤ g ∧ g < w.heap.size := by
  rcases h.2 with ⟨rfl, _⟩ | ⟨g2, cap, cur, rfl, hb, hc, _⟩
  · cases hg
  · simp [Value.ownBlock] at hg; subst hg
    exact ⟨hb, (Array.getElem?_eq_some_iff.1 hc).1⟩
theorem made_new {V W1 : World} {i : Int} {L : List Fld} {f : Value} (h : W1.ownsRow V.heap.size 55 4 f L.length (fCells L)) (hb : Below V.heap.size V W1) :
    Made V i L W1.heap.size f (W1.alloc (.cells #[.int .i64 i, .slice none 0 0, f] 30)) :=
  ⟨heap_last _ _, (own_fldsO h).belowD fun b hb => heap_old W1 _ hb, hb.alloc hb.size _, hb.size, by simp, fun g hg _ => by have := own_lt h hg; simp; omega⟩
theorem made_set {V W2 : World} {i : Int} {L : List Fld} {f : Value} (h : W2.ownsRow (V.heap.size + 1) 55 4 f L.length (fCells L)) (hb : Below V.heap.size V W2)
    (he : W2.heap[V.heap.size]? = some (.cells #[.int .i64 0, .slice none 0 0, .slice none 0 0] 30 (0, 0))) :
    Made V i L V.heap.size f (((W2.setCell ⟨V.heap.size, 0, none⟩ (.int .i64 i)).setCell ⟨V.heap.size, 1, none⟩ (.slice none 0 0)).setCell ⟨V.heap.size, 2, none⟩ f) := by
  refine ⟨?_, own_fldsO (own_other (own_other (own_other h (Nat.lt_succ_self _)) (Nat.lt_succ_self _)) (Nat.lt_succ_self _)), ((hb.setCell (Nat.le_refl _) _).setCell (Nat.le_refl _) _).setCell (Nat.le_refl _) _, Nat.le_refl _, ?_, fun g hg _ => ?_⟩
  · have h1 := heap_setCell_same W2 V.heap.size 0 _ _ (.int .i64 i) he
    have h2 := heap_setCell_same _ V.heap.size 1 _ _ (.slice none 0 0) h1
    have h3 := heap_setCell_same _ V.heap.size 2 _ _ f h2
    exact h3
  · have hlt : V.heap.size < W2.heap.size := (Array.getElem?_eq_some_iff.1 he).1
    simpa [World.setCell] using hlt
  · have h1 := own_lt h hg
    refine ⟨by omega, ?_, by omega⟩
    simpa [World.setCell] using h1.2
theorem grown_below {B : Nat} {w w' : World} (h : w.grownBy w' none) (hB : B ≤ w.heap.size) : Below B w w' := (Below.refl _ _).grown h hB (fun k hk => by cases hk)
theorem grown_below3 {V W1 : World} (h : V.drew.grownBy W1 none) : Below V.heap.size V W1 :=
  ((Below.refl V.heap.size V).drew).grown h (Nat.le_refl _) (fun k hk => by cases hk)
theorem grown_below2 {V W2 : World} {o : Obj} (h : (V.alloc o).drew.grownBy W2 none) : Below V.heap.size V W2 :=
  ((fresh_alloc V o).drew).grown h (by show _ ≤ (V.alloc o).heap.size; simp) (fun k hk => by cases hk)
theorem own_same {w w' : World} {base size n : Nat} {e : TypeId} {v : Value} {xs : List Value} (h : w.ownsRow base e size v n xs) (hs : ∀ g, v.ownBlock = some g → w'.heap[g]? = w.heap[g]?) : w'.ownsRow base e size v n xs := by
  refine ⟨h.1, ?_⟩
  rcases h.2 with h0 | ⟨g2, cap, cur, rfl, hb, hc, h1⟩
  · exact .inl h0
  · exact .inr ⟨g2, cap, cur, rfl, hb, (hs g2 rfl).trans hc, h1⟩
/-- A row of numbers has room for what it holds. -/
def CapOk (v : Value) : Prop := ∀ p n c, v = .slice p n c → n ≤ c
/-- The copy as far as its k-th vector. -/
def Part (V wc : World) (a : Pt) (P : Nat) (f : Value) (k : Nat) (wx : World) : Prop :=
  ∃ (u : Value) (ss : List Value), wx.heap[P]? = some (.cells #[.int .i64 a.id, u, f] 30 (0, 0)) ∧ ss.length = k ∧
    wx.ownsRow wc.heap.size 125 2 u k (vCells (((a.vecs.take k).map (·.name)).zip ss)) ∧
    (∀ j (h : j < a.vecs.length) (h' : j < ss.length), IntsAt wx ss[j] (a.vecs[j]).v ∧ ((a.vecs[j]).v ≠ [] → ∀ g, (ss[j]).ownBlock = some g → wc.heap.size ≤ g ∧ u.ownBlock ≠ some g) ∧ CapOk ss[j]) ∧
    FldsOwn wx f a.flds ∧ (∀ g, f.ownBlock = some g → a.flds ≠ [] → g ≠ P ∧ g < wc.heap.size ∧ V.heap.size ≤ g) ∧ Below V.heap.size V wx ∧ V.heap.size ≤ P ∧ P < wc.heap.size ∧ wc.heap.size ≤ wx.heap.size
theorem part_zero {V wc : World} {a : Pt} {P : Nat} {f : Value} (h : Made V a.id a.flds P f wc) : Part V wc a P f 0 wc := by
  obtain ⟨h1, h2, h3, h4, h5, h6⟩ := h
  exact ⟨_, [], h1, rfl, by simpa [vCells] using World.ownsRow_nil _ _ _ _, (fun j _ h' => absurd h' (Nat.not_lt_zero _)), h2, h6, h3, h4, h5, Nat.le_refl _⟩
theorem IntsAt.moved {w w' : World} {v : Value} {L : List Int} (h : IntsAt w v L) (hs : w.heap.size ≤ w'.heap.size) (hb : L ≠ [] → ∀ g, v.ownBlock = some g → w'.heap[g]? = w.heap[g]?) : IntsAt w' v L := by
  rcases h with h | ⟨b, off, c, rfl, hg, hc⟩
  · exact .inl h
  · rcases Nat.eq_zero_or_pos L.length with h0 | h0
    · exact .inl ⟨List.length_eq_zero_iff.mp h0, _, _, by rw [h0]⟩
    · have e := hb (fun e => by rw [e] at h0; cases h0) b rfl
      exact .inr ⟨b, off, c, rfl, by omega, fun W hW => hc W (hW.trans e)⟩
theorem FldsAt.moved {w w' : World} {v : Value} {L : List Fld} (h : FldsAt w v L) (hs : w.heap.size ≤ w'.heap.size) (hb : L ≠ [] → ∀ g, v.ownBlock = some g → w'.heap[g]? = w.heap[g]?) : FldsAt w' v L := by
  rcases h with h | ⟨b, off, c, rfl, hg, hc⟩
  · exact .inl h
  · rcases Nat.eq_zero_or_pos L.length with h0 | h0
    · exact .inl ⟨List.length_eq_zero_iff.mp h0, _, _, by rw [h0]⟩
    · have e := hb (fun e => by rw [e] at h0; cases h0) b rfl
      exact .inr ⟨b, off, c, rfl, by omega, fun W hW => hc W (hW.trans e)⟩
theorem FldsOwn.moved {w w' : World} {v : Value} {L : List Fld} (h : FldsOwn w v L) (hs : w.heap.size ≤ w'.heap.size) (hb : L ≠ [] → ∀ g, v.ownBlock = some g → w'.heap[g]? = w.heap[g]?) : FldsOwn w' v L := by
  rcases h with h | ⟨g, c, cs, t, rfl, hg, hc, h1⟩
  · exact .inl h
  · rcases Nat.eq_zero_or_pos L.length with h0 | h0
    · exact .inl ⟨List.length_eq_zero_iff.mp h0, _, _, by rw [h0]⟩
    · exact .inr ⟨g, c, cs, t, rfl, by omega, (hb (fun e => by rw [e] at h0; cases h0) g rfl).trans hc, h1⟩
/-- A row of vectors in a block that may be written, made since a base. -/
def VecsOwn (w : World) (base : Nat) (v : Value) (L : List Vec) : Prop :=
  (L = [] ∧ ∃ p c, v = .slice p 0 c) ∨ ∃ (g c : Nat) (S : Nat → Value) (cs : Array Value) (t : TypeId), v = .slice (some ⟨g, 0, none⟩) L.length c ∧ base ≤ g ∧ g < w.heap.size ∧ w.heap[g]? = some (.cells cs t (0, 0)) ∧
    (∀ j (h : j < L.length), cs[j * 2]? = some (.string (L[j]).name) ∧ cs[j * 2 + 1]? = some (S j)) ∧ ∀ j (h : j < L.length), IntsAt w (S j) (L[j]).v ∧ ((L[j]).v ≠ [] → ∀ k, (S j).ownBlock = some k → base ≤ k ∧ k ≠ g) ∧ CapOk (S j)
theorem VecsOwn.kept {w w' : World} {b : Nat} {v : Value} {L : List Vec} (h : VecsOwn w b v L) (hs : w.heap.size ≤ w'.heap.size) (hb : ∀ g, b ≤ g → g < w.heap.size → w'.heap[g]? = w.heap[g]?) : VecsOwn w' b v L := by
  rcases h with h | ⟨g, c, S, cs, t, h1, h2, h3, h4, h5, h6⟩
  · exact .inl h
  · refine .inr ⟨g, c, S, cs, t, h1, h2, by omega, (hb g h2 h3).trans h4, h5, fun j hj => ?_⟩
    obtain ⟨i1, i2, i3⟩ := h6 j hj
    refine ⟨?_, i2, i3⟩
    refine i1.moved hs fun hn k hk => ?_
    have hd := i2 hn k hk
    have hlt : k < w.heap.size := by
      rcases i1 with ⟨h0, _⟩ | ⟨b2, off, cc, hss, hb2, _⟩
      · exact absurd h0 hn
      · rw [hss] at hk; simp [Value.ownBlock] at hk; omega
    exact hb k hd.1 hlt
theorem VecsOwn.at {w : World} {base : Nat} {v : Value} {L : List Vec} (h : VecsOwn w base v L) : VecsAt w v L := by
  rcases h with h | ⟨g, c, S, cs, t, rfl, hb, hg, hc, h1, h2⟩
  · exact .inl h
  · refine .inr ⟨g, 0, c, S, rfl, hg, fun W hW j hj => ?_, fun j hj => (h2 j hj).1⟩
    obtain ⟨e0, e1⟩ := h1 j hj
    have hw := hW.trans hc
    rw [Nat.zero_add, Lib.cell_of_heap hw, Lib.cell_of_heap hw]
    exact ⟨e0, e1⟩
/-- One vector more. -/
theorem part_next {V wc wq W1 W2 : World} {a : Pt} {P k : Nat} {f s u' : Value} {x : Vec} {u : Value} {ss : List Value} {o : Obj} (hx : a.vecs[k]? = some x)
    (h1 : wq.heap[P]? = some (.cells #[.int .i64 a.id, u, f] 30 (0, 0))) (h2 : ss.length = k) (hown : wq.ownsRow wc.heap.size 125 2 u k (vCells (((a.vecs.take k).map (·.name)).zip ss)))
    (hin : ∀ j (h : j < a.vecs.length) (h' : j < ss.length), IntsAt wq ss[j] (a.vecs[j]).v ∧ ((a.vecs[j]).v ≠ [] → ∀ g, (ss[j]).ownBlock = some g → wc.heap.size ≤ g ∧ u.ownBlock ≠ some g) ∧ CapOk ss[j])
    (hff : FldsOwn wq f a.flds) (hfb : ∀ g, f.ownBlock = some g → a.flds ≠ [] → g ≠ P ∧ g < wc.heap.size ∧ V.heap.size ≤ g) (hbe : Below V.heap.size V wq) (hP1 : V.heap.size ≤ P) (hP2 : P < wc.heap.size) (hP3 : wc.heap.size ≤ wq.heap.size)
    (g1 : wq.drew.grownBy W1 none) (own1 : W1.ownsRow wq.heap.size 3 1 s x.v.length (iCells x.v))
    (own2 : W2.ownsRow wc.heap.size 125 2 u' (((a.vecs.take k).map (·.name)).zip ss ++ [(x.name, s)]).length (vCells (((a.vecs.take k).map (·.name)).zip ss ++ [(x.name, s)])))
    (g2 : (W1.alloc o).grownBy W2 u.ownBlock) (hu' : u'.ownBlock = u.ownBlock ∨ u'.ownBlock = some (W1.alloc o).heap.size) :
    Part V wc a P f (k + 1) (W2.setCell ⟨P, 1, none⟩ u') := by
  have hk : k < a.vecs.length := (List.getElem?_eq_some_iff.1 hx).1
  have hkx : a.vecs[k] = x := (List.getElem?_eq_some_iff.1 hx).2
  have s1 : wq.heap.size ≤ W1.heap.size := g1.size
  have s2 : W1.heap.size + 1 ≤ W2.heap.size := by have := g2.size; simpa using this
  have hub : ∀ g, u.ownBlock = some g → wc.heap.size ≤ g ∧ g < wq.heap.size := fun g hg => by
    rcases hown.2 with ⟨rfl, _⟩ | ⟨g2, cap, cur, rfl, hb, hc, _⟩
    · cases hg
    · simp [Value.ownBlock] at hg; subst hg
      exact ⟨hb, (Array.getElem?_eq_some_iff.1 hc).1⟩
  have keep : ∀ g, g < wq.heap.size → u.ownBlock ≠ some g → W2.heap[g]? = wq.heap[g]? := fun g hg hne => by
    rw [g2.block g (by simp; omega) (fun e => hne e.symm), heap_old W1 o (by omega), g1.block g hg (by simp)]
    rfl
  have keepS : ∀ g, g ≠ P → (W2.setCell ⟨P, 1, none⟩ u').heap[g]? = W2.heap[g]? := fun g hg => heap_setCell_other _ _ _ _ hg
  have hPu : u.ownBlock ≠ some P := fun e => by have := (hub P e).1; omega
  have hsz : (W2.setCell ⟨P, 1, none⟩ u').heap.size = W2.heap.size := by simp [World.setCell]
  have hlen : (((a.vecs.take k).map (·.name)).zip ss ++ [(x.name, s)]).length = k + 1 := by simp [h2]; omega
  have hzip : ((a.vecs.take (k + 1)).map (·.name)).zip (ss ++ [s]) = ((a.vecs.take k).map (·.name)).zip ss ++ [(x.name, s)] := by
    rw [List.take_add_one, hx, List.map_append, List.zip_append (by simp [h2]; omega)]
    rfl
  refine ⟨u', ss ++ [s], ?_, by simp [h2], ?_, ?_, ?_, hfb, ?_, hP1, hP2, by rw [hsz]; omega⟩
  · have := heap_setCell_same W2 P 1 _ _ u' ((keep P (by omega) hPu).trans h1)
    exact this
  · rw [hlen] at own2
    rw [hzip]
    exact own_other own2 hP2
  · intro j hj hj'
    rcases Nat.lt_or_ge j k with c | c
    · have hjs : j < ss.length := by omega
      have e : (ss ++ [s])[j] = ss[j] := List.getElem_append_left hjs
      rw [e]
      obtain ⟨i1, i2, i3⟩ := hin j hj hjs
      refine ⟨i1.moved (by rw [hsz]; omega) (fun hn g hg => ?_), fun hn g hg => ?_, i3⟩
      · have hd := i2 hn g hg
        have hlt : g < wq.heap.size := by
          rcases i1 with ⟨h0, _⟩ | ⟨b, off, cc, hs, hb, _⟩
          · exact absurd h0 hn
          · rw [hs] at hg; simp [Value.ownBlock] at hg; omega
        rw [keepS g (by omega)]
        exact keep g hlt hd.2
      · have hd := i2 hn g hg
        have hlt : g < wq.heap.size := by
          rcases i1 with ⟨h0, _⟩ | ⟨b, off, cc, hs, hb, _⟩
          · exact absurd h0 hn
          · rw [hs] at hg; simp [Value.ownBlock] at hg; omega
        refine ⟨hd.1, ?_⟩
        rcases hu' with e | e
        · rw [e]; exact hd.2
        · rw [e]; intro h; injection h with h; simp at h; omega
    · have hjk : j = k := by simp [h2] at hj'; omega
      subst hjk
      have e : (ss ++ [s])[j] = s := by rw [List.getElem_append_right (by omega)]; simp [h2]
      rw [e, hkx]
      have hi := own_ints own1
      have hsb : ∀ g, s.ownBlock = some g → wq.heap.size ≤ g ∧ g < W1.heap.size := fun g hg => by
        rcases own1.2 with ⟨rfl, _⟩ | ⟨g2, cap, cur, rfl, hb, hc, _⟩
        · cases hg
        · simp [Value.ownBlock] at hg; subst hg
          exact ⟨hb, (Array.getElem?_eq_some_iff.1 hc).1⟩
      have hcap : CapOk s := fun p n c e => by
        rcases own1.2 with ⟨e1, e2⟩ | ⟨g2, cap, cur, e1, hb, hc, hcp, _⟩
        · rw [e1] at e; injection e with _ e3 e4; omega
        · rw [e1] at e; injection e with _ e3 e4; omega
      refine ⟨hi.moved (by rw [hsz]; omega) (fun hn g hg => ?_), fun hn g hg => ?_, hcap⟩
      · have hd := hsb g hg
        rw [keepS g (by omega), g2.block g (by simp; omega) (fun e => by have := (hub g e.symm).2; omega)]
        exact heap_old W1 o hd.2
      · have hd := hsb g hg
        refine ⟨by omega, ?_⟩
        rcases hu' with e | e
        · rw [e]; intro h; have := (hub g h).2; omega
        · rw [e]; intro h; injection h with h; simp at h; omega
  · refine hff.moved (by rw [hsz]; omega) (fun hn g hg => ?_)
    have hd := hfb g hg hn
    rw [keepS g hd.1]
    exact keep g (by omega) (fun e => by have := (hub g e).1; omega)
  · have b1 : Below V.heap.size V W1 := (hbe.drew).grown g1 hbe.size (fun k hk => by cases hk)
    have b2 : Below V.heap.size V (W1.alloc o) := b1.alloc b1.size _
    exact (b2.grown g2 b2.size (fun g hg => by have := (hub g hg).1; omega)).setCell hP1 _
theorem part_all {V wc wq : World} {a : Pt} {P B : Nat} {f u : Value} {ss : List Value} {x y z : Value} (h2 : ss.length = a.vecs.length)
    (hown : wq.ownsRow wc.heap.size 125 2 u a.vecs.length (vCells (((a.vecs.take a.vecs.length).map (·.name)).zip ss)))
    (hin : ∀ j (h : j < a.vecs.length) (h' : j < ss.length), IntsAt wq ss[j] (a.vecs[j]).v ∧ ((a.vecs[j]).v ≠ [] → ∀ g, (ss[j]).ownBlock = some g → wc.heap.size ≤ g ∧ u.ownBlock ≠ some g) ∧ CapOk ss[j])
    (hff : FldsOwn wq f a.flds) (hfb : ∀ g, f.ownBlock = some g → a.flds ≠ [] → g ≠ P ∧ g < wc.heap.size ∧ V.heap.size ≤ g) (hB : B < V.heap.size) (hV : V.heap.size ≤ wc.heap.size) :
    VecsOwn (((wq.setCell ⟨B, 0, none⟩ x).setCell ⟨B, 1, none⟩ y).setCell ⟨B, 2, none⟩ z) wc.heap.size u a.vecs ∧ FldsOwn (((wq.setCell ⟨B, 0, none⟩ x).setCell ⟨B, 1, none⟩ y).setCell ⟨B, 2, none⟩ z) f a.flds := by
  have hsz : (((wq.setCell ⟨B, 0, none⟩ x).setCell ⟨B, 1, none⟩ y).setCell ⟨B, 2, none⟩ z).heap.size = wq.heap.size := by simp [World.setCell]
  have keep : ∀ g, g ≠ B → (((wq.setCell ⟨B, 0, none⟩ x).setCell ⟨B, 1, none⟩ y).setCell ⟨B, 2, none⟩ z).heap[g]? = wq.heap[g]? := fun g hg => by
    rw [heap_setCell_other _ _ _ _ hg, heap_setCell_other _ _ _ _ hg, heap_setCell_other _ _ _ _ hg]
  refine ⟨?_, hff.moved (by rw [hsz]; omega) fun hn g hg => keep g (by have := hfb g hg hn; omega)⟩
  rw [List.take_length] at hown
  rcases Nat.eq_zero_or_pos a.vecs.length with h0 | h0
  · rw [h0] at hown
    obtain ⟨p, c, rfl⟩ := own_nil hown
    exact .inl ⟨List.length_eq_zero_iff.mp h0, p, c, rfl⟩
  · rcases hown.2 with ⟨_, h00⟩ | ⟨g, cap, cur, rfl, hb, hg, hcap, hmax, -, htk⟩
    · omega
    have hlt : g < wq.heap.size := (Array.getElem?_eq_some_iff.1 hg).1
    have hl : ((a.vecs.map (·.name)).zip ss).length = a.vecs.length := by simp [h2]
    have hcell : ∀ i v, i < a.vecs.length * 2 → (vCells ((a.vecs.map (·.name)).zip ss))[i]? = some v → cur[i]? = some v := fun i v hi hv => by
      rw [← hv, ← htk, List.getElem?_take, if_pos hi, Array.getElem?_toList]
    refine .inr ⟨g, cap, fun j => (ss[j]?).getD .nilIface, cur, _, rfl, by omega, by rw [hsz]; exact hlt, (keep g (by omega)).trans hg, fun j hj => ?_, fun j hj => ?_⟩
    · obtain ⟨e0, e1⟩ := vCells_at ((a.vecs.map (·.name)).zip ss) j (by rw [hl]; exact hj)
      have hjs : j < ss.length := by omega
      have hz : ((a.vecs.map (·.name)).zip ss)[j]'(by rw [hl]; exact hj) = ((a.vecs[j]).name, ss[j]) := by simp
      rw [hz] at e0 e1
      exact ⟨hcell _ _ (by omega) e0, by simp only [List.getElem?_eq_getElem hjs, Option.getD_some]; exact hcell _ _ (by omega) e1⟩
    · have hjs : j < ss.length := by omega
      obtain ⟨i1, i2, i3⟩ := hin j hj hjs
      simp only [List.getElem?_eq_getElem hjs, Option.getD_some]
      refine ⟨i1.moved (by rw [hsz]; omega) fun hn g hg => keep g (by have := (i2 hn g hg).1; omega), ?_, i3⟩
      exact fun hn k hk => ⟨(i2 hn k hk).1, fun e => by subst e; exact (i2 hn k hk).2 rfl⟩
end Pq
end Go.Proofs.YtclmalaomofahaaGreatDoor
namespace Go.Proofs.YtclmalaomofahaaGreatDoor
namespace Pq
set_option linter.unusedVariables false
open Go
section
variable {P : Program} {md : Region.Mode} {ops : Array Oper} {Q : Exit → Act → World → Prop} {S : World → Prop} {last : Nat}
/-- Whatever order is picked, and S holds behind every operation but the last. -/
def wpAnyL (P : Program) (md : Region.Mode) (ops : Array Oper) (Q : Exit → Act → World → Prop) (S : World → Prop) (last : Nat) : Nat → Array Bool → Act → World → Prop
  | 0, l, a, w => Region.ready md ops l = [] ∧ Q .normal a w
  | n + 1, l, a, w => (Region.ready md ops l = [] → Q .normal a w) ∧
    ∀ i ∈ Region.ready md ops l, wpOp P ops Q i (fun a' w' => (i ≠ last → S w') ∧ wpAnyL P md ops Q S last n (l.setIfInBounds i true) a' w') a w
theorem wpAny_of_L : ∀ (n : Nat) (l : Array Bool) (a : Act) (w : World), wpAnyL P md ops Q S last n l a w → wpAny P md ops Q n l a w
  | 0, _, _, _, h => h
  | n + 1, _, _, _, h => ⟨h.1, fun i hi => wpOp_mono (fun a' w' k => wpAny_of_L n _ a' w' k.2) (h.2 i hi)⟩
theorem L_first {i : Nat} {oi : Oper} {v : Value} (hi : ops[i]? = some oi) (hsel : ∀ (j : Nat) (o : Oper) cs b, ops[j]? = some o → o.op ≠ .select cs b)
    (hQ : ∀ c a w, Q (.panic c) (a.put oi.dst v) w → Q (.panic c) a w) (hl : ∀ o, ops[last]? = some o → ∃ e ∈ o.after, Region.binds md e = true ∧ e.on = i) :
    ∀ (n : Nat) (l : Array Bool) (a : Act) (w : World),
      (∀ j oj, ops[j]? = some oj → j ≠ i → l.getD j true = false → (∀ e ∈ oj.after, Region.binds md e = true → e.on ≠ i) → oi.apart ops oj = true) →
      i ∈ Region.ready md ops l → YieldsIf P ops S oi v a → S w →
      wpAnyL P md ops Q S last n (l.setIfInBounds i true) (a.put oi.dst v) w → wpAnyL P md ops Q S last (n + 1) l a w := by
  intro n
  induction n with
  | zero =>
    intro l a w _ hr hy hS H
    refine ⟨fun h => (by rw [h] at hr; cases hr), fun j hj => ?_⟩
    by_cases hji : j = i
    · subst hji; exact hy.wpOp hi hS ⟨fun _ => hS, H⟩
    · have h0 := ready_mono hj hji
      rw [H.1] at h0
      cases h0
  | succ n ih =>
    intro l a w hfree hr hy hS H
    refine ⟨fun h => (by rw [h] at hr; cases hr), fun j hj => ?_⟩
    by_cases hji : j = i
    · subst hji; exact hy.wpOp hi hS ⟨fun _ => hS, H⟩
    · have h1 := H.2 j (ready_mono hj hji)
      obtain ⟨hjun, oj, hoj, hall⟩ := mem_ready.1 hj
      have hnot : ∀ e ∈ oj.after, Region.binds md e = true → e.on ≠ i := fun e he hb heq => by
        have h1 := hall e he hb
        have h0 := (mem_ready.1 hr).1
        rw [heq] at h1
        rcases Nat.lt_or_ge i l.size with h' | h'
        · simp [h'] at h0 h1; rw [h0] at h1; cases h1
        · simp [Array.getElem?_eq_none h'] at h1
      have hjl : j ≠ last := fun e => by
        subst e
        obtain ⟨e, he, hb, ho⟩ := hl oj hoj
        exact hnot e he hb ho
      have h2 := wpOp_putIf hoj (hfree j oj hoj hji hjun hnot) (fun cs b => hsel i oi cs b hi) (fun cs b => hsel j oj cs b hoj) hQ hy h1
      have hfree' : ∀ k ok, ops[k]? = some ok → k ≠ i → (l.setIfInBounds j true).getD k true = false →
          (∀ e ∈ ok.after, Region.binds md e = true → e.on ≠ i) → oi.apart ops ok = true := fun k ok hk hki hun hno => by
        refine hfree k ok hk hki ?_ hno
        by_cases hjk : j = k
        · subst hjk; exact hjun
        · rw [getD_set_ne true hjk] at hun; exact hun
      refine wpOp_mono (fun a' w' h3 => ⟨h3.2.1, ih (l.setIfInBounds j true) a' w' hfree' (ready_mono hr (Ne.symm hji)) h3.1 (h3.2.1 hjl) ?_⟩) h2
      rw [Array.setIfInBounds_comm _ _ hji]
      exact h3.2.2
/-- Does the last wait for i? -/
def waitsB (md : Region.Mode) (ops : Array Oper) (last i : Nat) : Bool := match ops[last]? with
  | some o => o.after.any fun e => Region.binds md e && e.on == i
  | none => true
theorem waits_of {i : Nat} (h : waitsB md ops last i = true) : ∀ o, ops[last]? = some o → ∃ e ∈ o.after, Region.binds md e = true ∧ e.on = i := fun o ho => by
  unfold waitsB at h
  rw [ho] at h
  simp only [Array.any_eq_true', Bool.and_eq_true, beq_iff_eq] at h
  obtain ⟨e, he, h1, h2⟩ := h
  exact ⟨e, he, h1, h2⟩
theorem L_take {i : Nat} {oi : Oper} {v : Value} {n : Nat} {l : Array Bool} {a : Act} {w : World} (hi : ops[i]? = some oi)
    (hs : Region.noSelect ops = true) (hf : Region.free md ops l i = true) (hr : (Region.ready md ops l).contains i = true) (hw : waitsB md ops last i = true)
    (hQ : ∀ c a w, Q (.panic c) (a.put oi.dst v) w → Q (.panic c) a w) (hy : YieldsIf P ops S oi v a) (hS : S w)
    (h : wpAnyL P md ops Q S last n (l.setIfInBounds i true) (a.put oi.dst v) w) : wpAnyL P md ops Q S last (n + 1) l a w :=
  L_first hi (Region.noSelect_spec hs) hQ (waits_of hw) n l a w (Region.free_spec hi hf) (by simpa using hr) hy hS h
theorem L_one {i : Nat} {o : Oper} {n : Nat} {l : Array Bool} {a : Act} {w : World} (hr : Region.ready md ops l = [i]) (hi : ops[i]? = some o)
    (h : ∀ K : Act → World → Prop, (∀ a' w', (i ≠ last → S w') → wpAnyL P md ops Q S last n (l.setIfInBounds i true) a' w' → K a' w') →
      if Region.wanted o (yielded ops a.tmps) = true then Oper.wp P o a w K Q else K (a.put o.dst undef) w) : wpAnyL P md ops Q S last (n + 1) l a w := by
  refine ⟨fun h0 => (by rw [h0] at hr; cases hr), fun j hj => ?_⟩
  rw [hr] at hj
  obtain rfl : j = i := by simpa using hj
  exact wpOp_step hi (fun K' hK => h K' fun a w p q => hK a w ⟨p, q⟩)
theorem L_one' {i : Nat} {o : Oper} {rest : List Oper} {n : Nat} {l : Array Bool} {a : Act} {w : World} (hd : ops.toList.drop i = o :: rest) (hr : Region.ready md ops l = [i])
    (h : ∀ K : Act → World → Prop, (∀ a' w', (i ≠ last → S w') → wpAnyL P md ops Q S last n (l.setIfInBounds i true) a' w' → K a' w') →
      if Region.wanted o (yielded ops a.tmps) = true then Oper.wp P o a w K Q else K (a.put o.dst undef) w) : wpAnyL P md ops Q S last (n + 1) l a w := by
  refine L_one (o := o) hr ?_ h
  have e : (ops.toList.drop i)[0]? = some o := by rw [hd]; rfl
  rw [List.getElem?_drop, Nat.add_zero, Array.getElem?_toList] at e
  exact e
theorem L_take' {i : Nat} {oi : Oper} {rest : List Oper} {v : Value} {n : Nat} {l : Array Bool} {a : Act} {w : World} (hd : ops.toList.drop i = oi :: rest)
    (hs : Region.noSelect ops = true) (hf : Region.free md ops l i = true) (hr : (Region.ready md ops l).contains i = true) (hw : waitsB md ops last i = true)
    (hQ : ∀ c a w, Q (.panic c) (a.put oi.dst v) w → Q (.panic c) a w) (hy : YieldsIf P ops S oi v a) (hS : S w)
    (h : wpAnyL P md ops Q S last n (l.setIfInBounds i true) (a.put oi.dst v) w) : wpAnyL P md ops Q S last (n + 1) l a w := by
  refine L_take (oi := oi) ?_ hs hf hr hw hQ hy hS h
  have e : (ops.toList.drop i)[0]? = some oi := by rw [hd]; rfl
  rw [List.getElem?_drop, Nat.add_zero, Array.getElem?_toList] at e
  exact e
theorem L_done {l : Array Bool} {a : Act} {w : World} (hr : Region.ready md ops l = []) (h : Q .normal a w) : ∀ n, wpAnyL P md ops Q S last n l a w
  | 0 => ⟨hr, h⟩
  | _ + 1 => ⟨fun _ => h, by rw [hr]; simp⟩
theorem wp_region_L {id : Nat} {a : Act} {w : World} (last : Nat) (S : World → Prop) (hm : P.follows .mixedOrders = true) (hS : S w.drew)
    (h : S w.drew → wpAnyL P .any ops Q S last ops.size (Array.replicate ops.size false) a w.drew) : (Code.region id ops true).wp P Q a w :=
  wp_region_any hm (wpAny_of_L _ _ _ _ (h hS))
end
end Pq
end Go.Proofs.YtclmalaomofahaaGreatDoor
