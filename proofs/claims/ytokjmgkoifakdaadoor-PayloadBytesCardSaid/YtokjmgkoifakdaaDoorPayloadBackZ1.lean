/- Texts that the proof of PayloadBack stands on, one behind the other: PlPlain, PlA, PlW, NumPlain, Fx, PlN, PlG, PlV, PlB, PlF, PlR, PlS, PlO, PlM, PlBy, PlEn, PlAw, PlLd, PlArgs, PlArgsP, PlRu, Tx, PlRw, PlC, PlD, PlCv, PlGt. Conditions: those that each theorem names. -/
import Derived.Test.YtokjmgkoifakdaaDoorProg
import Derived.Lib.Hide
import Derived.Test.YtokjmgkoifakdaaDoorShelf
import Derived.WalkKit
import Derived.Lib.LaidU8
import Derived.Lib.Builder
import Derived.Lib.AppendStr
import Derived.Lib.UnsafeStr
import Derived.Lib.OthersKept
import Derived.Lib.Walk
import Derived.Laws.Externs
import Derived.Shelf.RegionOpenPlain
import Derived.Laws.Bits64
import Derived.Laws.BitsAllLaws
import Derived.IntWalk
import Derived.Lib.BitFns
import Derived.Test.YtokjmgkoifakdaaDoorRows
import Derived.WalkSpells
import Derived.WalkLawsBesides
import Derived.Laws.Rows
import Derived.Laws.BytesString
import Derived.Laws.IdiomStrings
import Derived.Lib.SmallJoins
import Derived.Shelf.Unicode.ValidAny
import Derived.Lib.ConvBytes
import Derived.Lib.AtoiErrMem
import Derived.Ground.NamesProg
import Derived.Shelf.Lay
import Derived.Lib.LaidTab
import Derived.Lib.LaidU8T
import Derived.Stop.LaidErr
import Derived.MakeChecks
import Derived.PinnedBridge
import Derived.OpenShut
import Derived.SizedLaws
import Derived.ChangeOld
import Derived.ChangeSlices
import Derived.ChangeSame
import Derived.Deep.Strs
import Derived.Lib.ValidLaws
import Derived.Deep.RegionHeld3
namespace Go.Proofs.YtokjmgkoifakdaaDoor
set_option linter.unusedVariables false
open Go
namespace Pl
abbrev Nm := ByteArray
structure Val where
  kind : Int
  n : Int
  text : Nm
structure Fld where
  name : Nm
  val : Val
structure Vec where
  name : Nm
  v : List Int
structure Pt where
  id : Int
  vecs : List Vec
  flds : List Fld
def digitB (c : UInt8) : Bool := decide ((48 : Int) ≤ c.toNat) && decide ((c.toNat : Int) ≤ 57)
def nameB (c : UInt8) : Bool := (decide ((97 : Int) ≤ c.toNat) && decide ((c.toNat : Int) ≤ 122)) || ((decide ((65 : Int) ≤ c.toNat) && decide ((c.toNat : Int) ≤ 90)) || (digitB c || decide ((c.toNat : Int) = 95)))
def isName (s : Nm) : Bool := match s.data.toList with
  | [] => false
  | c :: _ => decide (s.size ≤ 32) && (!digitB c && s.data.toList.all nameB)
def partB (n : Int) : Bool := decide ((-32768 : Int) ≤ n) && decide (n ≤ 32767)
def zeroB (n : Int) : Bool := decide (n = 0)
def metricB (n : Int) : Bool := decide (n = 1) || (decide (n = 2) || decide (n = 3))
end Pl
end Go.Proofs.YtokjmgkoifakdaaDoor
namespace Go.Proofs.YtokjmgkoifakdaaDoor
set_option linter.unusedVariables false
open Go Go.RowKit Go.Shelf Pl
theorem wrap_s {n k : Nat} (h : n ≤ maxLen) (hk : k < n) : wrap64 ((k : Int) + 1) = ((k + 1 : Nat) : Int) := by
  unfold maxLen at h; unfold wrap64; omega
theorem int_less {n k : Nat} (h : k < n) : n - (intOf (.int .i64 ((k + 1 : Nat) : Int))).toNat < n - (intOf (.int .i64 (k : Int))).toNat := by
  simp only [intOf, Int.toNat_natCast]; omega
theorem digit_any (c : UInt8) (w : World) :
    Calls Tryd.prog 128 #[.int .u8 c.toNat] w fun e w' => e = .returned (.bool (digitB c)) ∧ w' = w := by
  unfold digitB
  generalize (c.toNat : Int) = z
  go_enter Tryd.func128, Tryd.ntmps128
  by_cases h1 : (48 : Int) ≤ z
  · by_cases h2 : z ≤ 57
    · go_wp2_with fail
      go_ret
      exact ⟨by simp [h1, h2], rfl⟩
    · go_wp2_with fail
      go_ret
      exact ⟨by simp [h1, h2], rfl⟩
  · go_wp2_with fail
    go_ret
    exact ⟨by simp; omega, rfl⟩
theorem part_any (n : Int) (w : World) :
    Calls Tryd.prog 99 #[.int .i64 n] w fun e w' => e = .returned (.bool (partB n)) ∧ w' = w := by
  unfold partB
  go_enter Tryd.func99, Tryd.ntmps99
  by_cases h1 : (-32768 : Int) ≤ n
  · by_cases h2 : n ≤ 32767
    · go_wp2_with fail
      go_ret
      exact ⟨by simp [h1, h2], rfl⟩
    · go_wp2_with fail
      go_ret
      exact ⟨by simp [h1, h2], rfl⟩
  · go_wp2_with fail
    go_ret
    exact ⟨by simp; omega, rfl⟩
theorem zero_any (n : Int) (w : World) :
    Calls Tryd.prog 100 #[.int .i64 n] w fun e w' => e = .returned (.bool (zeroB n)) ∧ w' = w := by
  unfold zeroB
  go_enter Tryd.func100, Tryd.ntmps100
  go_wp2_with fail
  go_ret
  exact ⟨by by_cases h : n = 0 <;> simp [h], rfl⟩
set_option maxHeartbeats 1000000 in
theorem inname_any (c : UInt8) (w : World) :
    Calls Tryd.prog 130 #[.int .u8 c.toNat] w fun e w' => e = .returned (.bool (nameB c)) ∧ w' = w := by
  have HD := Lib.hid (digit_any c)
  unfold nameB
  generalize digitB c = d at *
  generalize (c.toNat : Int) = z at *
  go_enter Tryd.func130, Tryd.ntmps130
  rcases (by omega : (97 ≤ z ∧ z ≤ 122) ∨ (97 ≤ z ∧ 122 < z) ∨ (z < 97 ∧ 65 ≤ z ∧ z ≤ 90) ∨ (z < 97 ∧ 65 ≤ z ∧ 90 < z ∧ z ≠ 95) ∨ (z = 95) ∨ (z < 97 ∧ z < 65)) with ⟨h1, h2⟩ | ⟨h1, h2⟩ | ⟨h1, h2, h3⟩ | ⟨h1, h2, h3, h4⟩ | h1 | ⟨h1, h2⟩
  · go_wp2_with fail
    go_ret
    exact ⟨by simp [h1, h2], rfl⟩
  · go_wp2_with fail
    refine (HD.out w).mono ?_
    rintro e w' ⟨rfl, rfl⟩
    cases d with
    | true =>
      go_wp2_with fail
      go_ret
      exact ⟨by simp, rfl⟩
    | false =>
      have h3 : ¬ z = 95 := by omega
      go_wp2_with fail
      go_ret
      exact ⟨by simp [show ¬ z ≤ 122 by omega, show ¬ z ≤ 90 by omega, h3], rfl⟩
  · go_wp2_with fail
    go_ret
    exact ⟨by simp [h2, h3], rfl⟩
  · go_wp2_with fail
    refine (HD.out w).mono ?_
    rintro e w' ⟨rfl, rfl⟩
    cases d with
    | true =>
      go_wp2_with fail
      go_ret
      exact ⟨by simp, rfl⟩
    | false =>
      go_wp2_with fail
      go_ret
      exact ⟨by simp [show ¬ 97 ≤ z by omega, show ¬ z ≤ 90 by omega, h4], rfl⟩
  · subst h1
    go_wp2_with fail
    refine (HD.out w).mono ?_
    rintro e w' ⟨rfl, rfl⟩
    cases d with
    | true =>
      go_wp2_with fail
      go_ret
      exact ⟨by simp, rfl⟩
    | false =>
      go_wp2_with fail
      go_ret
      exact ⟨by simp, rfl⟩
  · go_wp2_with fail
    refine (HD.out w).mono ?_
    rintro e w' ⟨rfl, rfl⟩
    cases d with
    | true =>
      go_wp2_with fail
      go_ret
      exact ⟨by simp, rfl⟩
    | false =>
      have h3 : ¬ z = 95 := by omega
      go_wp2_with fail
      go_ret
      exact ⟨by simp [show ¬ 97 ≤ z by omega, show ¬ 65 ≤ z by omega, h3], rfl⟩
/-- A function value that tells p of a byte, of a whole number. -/
def TellsB (g : Nat) (p : UInt8 → Bool) : Prop := (∀ args w, (callFunc g args).run Tryd.prog w = .ok (.enter g args) w) ∧ ∀ (c : UInt8) (w : World), Calls Tryd.prog g #[.int .u8 c.toNat] w fun e w' => e = .returned (.bool (p c)) ∧ w' = w
def TellsI (g : Nat) (p : Int → Bool) : Prop := (∀ args w, (callFunc g args).run Tryd.prog w = .ok (.enter g args) w) ∧ ∀ (n : Int) (w : World), Calls Tryd.prog g #[.int .i64 n] w fun e w' => e = .returned (.bool (p n)) ∧ w' = w
theorem tells_part : TellsI 99 partB := ⟨enters_of Tryd.func99 (by kernel_rfl) rfl, part_any⟩
theorem tells_zero : TellsI 100 zeroB := ⟨enters_of Tryd.func100 (by kernel_rfl) rfl, zero_any⟩
theorem tells_name : TellsB 130 nameB := ⟨enters_of Tryd.func130 (by kernel_rfl) rfl, inname_any⟩
/-- A row of whole numbers. -/
def IntsAt (w : World) (v : Value) (L : List Int) : Prop :=
  (L = [] ∧ ∃ p c, v = .slice p 0 c) ∨ ∃ g off c, v = .slice (some ⟨g, off, none⟩) L.length c ∧ g < w.heap.size ∧
    ∀ W : World, W.heap[g]? = w.heap[g]? → ∀ j (h : j < L.length), W.cell? ⟨g, off + j, none⟩ = some (.int .i64 L[j])
theorem IntsAt.kept {w w' : World} {v : Value} {L : List Int} (h : IntsAt w v L) (hb : ∀ g, v.ownBlock = some g → w'.heap[g]? = w.heap[g]?) (hs : w.heap.size ≤ w'.heap.size) : IntsAt w' v L := by
  rcases h with h | ⟨g, off, c, rfl, hg, hc⟩
  · exact .inl h
  · have e := hb g rfl
    exact .inr ⟨g, off, c, rfl, by omega, fun W hW => hc W (hW.trans e)⟩
theorem all_no' {α} {L : List α} {p : α → Bool} {k : Nat} {c : α} (h : L[k]? = some c) (hp : p c = false) : L.all p = false := by
  rw [← Bool.not_eq_true, List.all_eq_true]
  intro h'
  rw [h' c (List.mem_of_getElem? h)] at hp
  cases hp
theorem all_next' {α} {L : List α} {p : α → Bool} {k : Nat} {c : α} (h : L[k]? = some c) (ha : (L.take k).all p = true) (hp : p c = true) : (L.take (k + 1)).all p = true := by
  rw [List.take_add_one, h, List.all_append, ha]; simp [hp]
set_option maxHeartbeats 1000000 in
theorem allInts_any (g : Nat) (p : Int → Bool) (hp : TellsI g p) (L : List Int) (v : Value) (w : World) (h : IntsAt w v L) (hl : L.length ≤ maxLen) :
    Calls Tryd.prog 98 #[v, .func (.func g) #[] #[]] w fun e w' => e = .returned (.bool (L.all p)) ∧ w' = w := by
  obtain ⟨hg, hq⟩ := hp
  have HQ := Lib.hid hq
  have HS := Lib.hid hl
  clear hq hl
  rcases h with ⟨rfl, q, c, rfl⟩ | ⟨b, off, c, rfl, hb, hc⟩
  · go_enter Tryd.func98, Tryd.ntmps98
    go_wp2
    go_loop [9] (fun i => i = .int .i64 0) (fun _ => 0)
    case atStart => rfl
    case round =>
      subst hrel
      go_wp2
      go_ret
      exact ⟨rfl, rfl⟩
  · go_enter Tryd.func98, Tryd.ntmps98
    have HC := Lib.hid hc
    clear hc
    go_wp2
    go_loop [9] (fun i => ∃ k : Nat, k ≤ L.length ∧ i = .int .i64 k ∧ Hid ((L.take k).all p = true)) (fun i => L.length - (intOf i).toNat)
    case atStart => exact ⟨0, Nat.zero_le _, rfl, Lib.hid (by simp)⟩
    case round =>
      obtain ⟨k, hk, rfl, HA⟩ := hrel
      by_cases hlt : k < L.length
      · have hcell := HC.out w rfl k hlt
        have HX := HQ.out L[k]
        have hx : L[k]? = some L[k] := List.getElem?_eq_getElem hlt
        generalize hcc : L[k] = n at HX hx hcell
        have HX2 := Lib.hid HX
        have HXX := Lib.hid hx
        cases hpc : p n with
        | true =>
          rw [hpc] at HX2
          have HN := Lib.hid (all_next' hx HA.out hpc)
          clear HX hx HA hpc hcc
          go_wp2_with fail
          refine (HX2.out w).mono ?_
          rintro e w' ⟨rfl, rfl⟩
          go_wp2_with fail
          go_round
          case rel => exact ⟨k + 1, by omega, congrArg _ (wrap_s HS.out hlt), HN⟩
          case measure =>
            rw [wrap_s HS.out hlt]
            exact int_less hlt
        | false =>
          rw [hpc] at HX2
          have HN : Hid (L.all p = false) := Lib.hid (all_no' hx hpc)
          clear HX hx HA hpc hcc
          go_wp2_with fail
          refine (HX2.out w).mono ?_
          rintro e w' ⟨rfl, rfl⟩
          go_wp2_with fail
          go_ret
          rw [HN.out]
          exact ⟨rfl, rfl⟩
      · obtain rfl : k = L.length := by omega
        have hx : L.all p = true := by have := HA.out; rwa [List.take_length] at this
        have HE := Lib.hid hx
        clear hx
        go_wp2_with fail
        go_ret
        rw [HE.out]
        exact ⟨rfl, rfl⟩
end Go.Proofs.YtokjmgkoifakdaaDoor
namespace Go.Proofs.YtokjmgkoifakdaaDoor
set_option linter.unusedVariables false
open Go Go.RowKit Go.Shelf Pl
/-- The writer at block b, used or new, holds the bytes bs. -/
def WrAt (B b : Nat) (bs : List Value) (w : World) : Prop := Lib.IsBuilder 106 5 B b bs w
/-- The frame of a write: what lay below B, and each block but the writer's and rows of bytes, is as it was. -/
structure Kw (B b : Nat) (w w' : World) : Prop where
  below : Below B w w'
  others : Lib.OthersKept 5 (some b) w w'
theorem Kw.refl (B b : Nat) (w : World) : Kw B b w w := ⟨Below.refl _ _, Lib.OthersKept.refl _ _ _⟩
theorem Kw.trans {B b : Nat} {w w' w2 : World} (h : Kw B b w w') (k : Kw B b w' w2) : Kw B b w w2 := ⟨h.below.trans k.below, h.others.trans k.others⟩
theorem Kw.alloc {B b : Nat} {w w' : World} (h : Kw B b w w') (hb : B ≤ w'.heap.size) (o : Obj) : Kw B b w (w'.alloc o) := ⟨h.below.alloc hb o, h.others.alloc o⟩
theorem Kw.of_below {B b : Nat} {w w' : World} (h : Below w.heap.size w w') (hB : B ≤ w.heap.size) : Kw B b w w' :=
  ⟨h.mono hB, fun k o hk _ _ => (h.block k (Array.getElem?_eq_some_iff.1 hk).1).trans hk⟩
theorem Kw.size {B b : Nat} {w w' : World} (h : Kw B b w w') : w.heap.size ≤ w'.heap.size := h.below.size
theorem Kw.block {B b K : Nat} {w w' : World} {cs : Array Value} {T : TypeId} {m : Nat × Nat} (h : Kw B b w w') (hk : w.heap[K]? = some (.cells cs T m)) (hb : K ≠ b) (hT : T ≠ 5) : w'.heap[K]? = some (.cells cs T m) :=
  h.others K _ hk (fun e => hb (Option.some.inj e)) (fun c fz e => hT (by injection e))
theorem _root_.Go.World.ownsRow.same {w w' : World} {base n size : Nat} {e : TypeId} {v : Value} {xs : List Value} (h : w.ownsRow base e size v n xs) (hb : ∀ g, v.ownBlock = some g → w'.heap[g]? = w.heap[g]?) : w'.ownsRow base e size v n xs := by
  refine ⟨h.1, ?_⟩
  rcases h.2 with hn | ⟨g, cap, cur, rfl, h1, h2, rest⟩
  · exact .inl hn
  · exact .inr ⟨g, cap, cur, rfl, h1, (hb g rfl).trans h2, rest⟩
theorem WrAt.below {B b : Nat} {bs : List Value} {w w' : World} (h : WrAt B b bs w) (g : Below w.heap.size w w') : WrAt B b bs w' := by
  have key : ∀ p, Lib.BuilderAt 106 5 B b p bs w → Lib.BuilderAt 106 5 B b p bs w' := by
    intro p k
    have hlt := k.lt
    obtain ⟨hB, v, hb, hown, hne⟩ := k
    refine ⟨hB, v, (g.block b hlt).trans hb, ?_, hne⟩
    exact hown.same fun k hk => g.block k (hown.lt k hk).2
  exact h.imp (key _) (key _)
theorem bld_size : (Tryd.prog.info? 104).map (·.size) = some 2 := by kernel_rfl
theorem bld_lies : liesAt Tryd.prog Tryd.prog.depth 106 (2 / Tryd.prog.cellsOf 106) 0 104 1 = true := by kernel_rfl
set_option maxHeartbeats 1000000 in
set_option maxRecDepth 100000 in
theorem copy_used (b : Nat) (w : World) (h0 : w.cell? ⟨b, 0, none⟩ = some (.pointer (some ⟨b, 0, none⟩))) :
    Calls Tryd.prog 134 #[.pointer (some ⟨b, 0, none⟩)] w fun e w' => e = .returned (.tuple #[]) ∧ w' = w := by
  obtain ⟨j, hj, _⟩ := Option.map_eq_some_iff.1 bld_size
  go_enter Tryd.func134, Tryd.ntmps134
  go_wp2
  rw [Lib.run_neq_ptr_same w _ Tryd.underlying102 hj]
  go_wp2
  go_end0
  exact ⟨rfl, rfl⟩
set_option maxHeartbeats 1000000 in
set_option maxRecDepth 100000 in
theorem copy_fresh (b : Nat) (w : World) (h0 : w.cell? ⟨b, 0, none⟩ = some (.pointer none)) (hsh : w.shape? b = some (106, 2)) (hfz : w.frozen? ⟨b, 0, none⟩ = false) :
    Calls Tryd.prog 134 #[.pointer (some ⟨b, 0, none⟩)] w fun e w' => e = .returned (.tuple #[]) ∧ w' = w.setCell ⟨b, 0, none⟩ (.pointer (some ⟨b, 0, none⟩)) := by
  obtain ⟨j, hj, hjs⟩ := Option.map_eq_some_iff.1 bld_size
  go_enter Tryd.func134, Tryd.ntmps134
  go_wp2
  rw [Lib.run_to_unsafe w ⟨b, 0, none⟩ Tryd.underlying102 Tryd.underlying199 hj (by rw [hjs]; decide) hsh (Nat.zero_lt_succ 1)]
  simp only [Result.andThen]
  rw [Oper.upon_value]
  go_wp2
  rw [run_callFunc_extern Tryd.func142 (by kernel_rfl) (by kernel_rfl) (by kernel_rfl) (e := Extern.AbiNoEscape.same) (by kernel_rfl)]
  rw [Lib.run_noEscape]
  simp only [Result.andThen]
  rw [Oper.upon_value]
  go_wp2
  rw [Lib.run_from_unsafe w ⟨b, 0, none⟩ Tryd.underlying199 Tryd.underlying102 hj hsh bld_lies]
  simp only [Result.andThen]
  rw [Oper.upon_value]
  go_wp2
  go_end0
  exact ⟨rfl, rfl⟩
theorem copy_any (B b : Nat) (bs : List Value) (w : World) (h : WrAt B b bs w) :
    Calls Tryd.prog 134 #[.pointer (some ⟨b, 0, none⟩)] w fun e w' => e = .returned (.tuple #[]) ∧ (Lib.BuilderAt 106 5 B b (.pointer (some ⟨b, 0, none⟩)) bs w' ∧ Kw B b w w') := by
  rcases h with h | h
  · refine (copy_fresh b w h.cell0 h.shape h.frozen0).mono ?_
    rintro e w' ⟨rfl, rfl⟩
    exact ⟨rfl, h.used _, (Below.refl B w).setCell (p := ⟨b, 0, none⟩) h.1 _, (Lib.OthersKept.refl _ _ w).setCell ⟨b, 0, none⟩ rfl _⟩
  · refine (copy_used b w h.cell0).mono ?_
    rintro e w' ⟨rfl, rfl⟩
    exact ⟨rfl, h, Kw.refl B b _⟩
theorem byte_info : (Tryd.prog.info? 5).map (fun i => (i.zero, i.size, i.bytes)) = some (some (.int .u8 0), 1, 1) := by kernel_rfl
theorem byte_cells : Tryd.prog.cellsOf 5 = 1 := by kernel_rfl
set_option maxHeartbeats 2000000 in
set_option maxRecDepth 100000 in
/-- What is written stands behind what stood there. -/
theorem wstring_any (B b : Nat) (bs : List Value) (s : ByteArray) (w : World) (h : WrAt B b bs w) (hlen : bs.length + s.size ≤ 16777215) (hBw : B ≤ w.heap.size) :
    Calls Tryd.prog 106 #[.pointer (some ⟨b, 0, none⟩), .string s] w fun e w' => e = .returned (.tuple #[.int .i64 s.size, .nilIface]) ∧ (WrAt B b (bs ++ Lib.strCells s) w' ∧ Kw B b w w') := by
  obtain ⟨i0, hi, hz0, hz1, hz2⟩ := info_parts byte_info
  have HC := Lib.hid (copy_any B b bs w h)
  go_enter Tryd.func106, Tryd.ntmps106
  go_wp2_with fail
  refine HC.out.mono ?_
  rintro e w1 ⟨rfl, h1, hb1⟩
  obtain ⟨hB, v, hbk, hown, hne⟩ := h1
  have c0 : w1.cell? ⟨b, 0, none⟩ = some (.pointer (some ⟨b, 0, none⟩)) := by rw [Lib.cell_of_heap hbk]; rfl
  have c1 : w1.cell? ⟨b, 1, none⟩ = some v := by rw [Lib.cell_of_heap hbk]; rfl
  go_wp2_with (at_builtin; refine Lib.wpList_append_own_string _ rfl _ _ 74 9 rfl B 5 i0 Tryd.underlying74 Tryd.underlying9 hi hz0 hz1 hz2 _ _ _ rfl hown s rfl ?c3 ?c4 ?c5 ?_)
  case c3 => unfold maxLen; omega
  case c4 => omega
  case c5 => have := hb1.below.size; omega
  intro v' w2 hown' hgrow _
  have hlt : b < w1.heap.size := by
    rcases Nat.lt_or_ge b w1.heap.size with h' | h'
    · exact h'
    · simp [Array.getElem?_eq_none h'] at hbk
  have hb2 : w2.heap[b]? = some (.cells #[.pointer (some ⟨b, 0, none⟩), v] 106 (0, 0)) := by
    rw [hgrow.block b hlt (fun e => hne e.symm)]
    exact hbk
  have d0 : w2.cell? ⟨b, 0, none⟩ = some (.pointer (some ⟨b, 0, none⟩)) := by rw [Lib.cell_of_heap hb2]; rfl
  have d1 : w2.cell? ⟨b, 1, none⟩ = some v := by rw [Lib.cell_of_heap hb2]; rfl
  have f1 : w2.frozen? ⟨b, 1, none⟩ = false := Lib.frozen_of_heap hb2 1
  obtain ⟨ao, n', cap, rfl⟩ : ∃ ao n' cap, v' = .slice ao n' cap := by
    rcases hown'.2 with ⟨hv, _⟩ | ⟨g, cap, cur, hv, _⟩
    · exact ⟨_, _, _, hv⟩
    · exact ⟨_, _, _, hv⟩
  go_wp2
  go_ret2
  refine ⟨rfl, .inr ?_, ?_⟩
  · exact Lib.BuilderAt.put (T := 106) (e := 5) hB hb2 (bs' := bs ++ Lib.strCells s) (by simpa [Lib.strCells_length] using hown') (by decide)
  · refine ⟨(hb1.below.grown hgrow (by have := hb1.below.size; omega) (fun k hk => (hown.lt k hk).1)).setCell (p := ⟨b, 1, none⟩) hB _, (hb1.others.grown hgrow ?_).setCell ⟨b, 1, none⟩ rfl _⟩
    intro g hg
    rcases hown.2 with ⟨hv, _⟩ | ⟨g', cap', cur, hv, _, hgg, _⟩
    · rw [hv] at hg; simp [Value.ownBlock] at hg
    · rw [hv] at hg
      simp [Value.ownBlock] at hg
      subst hg
      exact ⟨cur, _, hgg⟩
set_option maxHeartbeats 1000000 in
set_option maxRecDepth 100000 in
/-- What the writer holds, as a text. -/
theorem wlaid_any (B b : Nat) (l : List UInt8) (w : World) (h : WrAt B b (Lib.byteCells l) w) (h0 : l ≠ []) :
    Calls Tryd.prog 59 #[.pointer (some ⟨b, 0, none⟩)] w fun e w' => e = .returned (.string ⟨l.toArray⟩) ∧ Below B w w' := by
  obtain ⟨p, hB, v, hbk, hown, hne⟩ : ∃ p, Lib.BuilderAt 106 5 B b p (Lib.byteCells l) w := by
    rcases h with h | h
    · exact ⟨_, h⟩
    · exact ⟨_, h⟩
  have hl0 : l.length ≠ 0 := by simpa using h0
  rw [Lib.byteCells_length] at hown
  obtain ⟨g, cap, cur, rfl, hbg, hg, hnc, hcm, hcs, htake⟩ : ∃ g cap cur, v = .slice (some ⟨g, 0, none⟩) l.length cap ∧ B ≤ g ∧ w.heap[g]? = some (.cells cur 5 (0, 0)) ∧ l.length ≤ cap ∧ cap ≤ maxLen ∧ cur.size = cap * 1 ∧ cur.toList.take (l.length * 1) = Lib.byteCells l := by
    rcases hown.2 with ⟨_, hz⟩ | ⟨g, cap, cur, hv, r⟩
    · exact absurd hz hl0
    · exact ⟨g, cap, cur, hv, r⟩
  have c1 : w.drew.cell? ⟨b, 1, none⟩ = some (.slice (some ⟨g, 0, none⟩) l.length cap) := by
    have : w.drew.heap[b]? = some (.cells #[p, .slice (some ⟨g, 0, none⟩) l.length cap] 106 (0, 0)) := hbk
    rw [Lib.cell_of_heap this]; rfl
  have hSD : (Builtin.unsafeSliceData_ #[74] 162 #[.slice (some ⟨g, 0, none⟩) l.length cap]).run Tryd.prog w.drew = .ok (.pointer (some ⟨g, 0, none⟩)) w.drew :=
    Lib.run_unsafeSliceData_row _ _ _ _ _ _ (by omega)
  have hUS : (Builtin.unsafeString_ #[162, 3] 9 #[.pointer (some ⟨g, 0, none⟩), .int .i64 l.length]).run Tryd.prog w.drew = .ok (.string ⟨l.toArray⟩) (w.drew.freeze ⟨g, 0, none⟩ l.length) := by
    refine Lib.run_unsafeString_row w.drew 162 3 9 5 Tryd.underlying162 byte_cells g cur.size (by have hg' : w.drew.heap[g]? = some (.cells cur 5 (0, 0)) := hg; simp [World.shape?, hg']) l h0 (by omega) (by unfold maxLen at hcm; omega) ?_
    intro j x hx
    exact hown.cells (g := g) rfl j (.int .u8 x.toNat) (by simp [Lib.byteCells, hx])
  have hbl : Below B w (w.drew.freeze ⟨g, 0, none⟩ l.length) := Lib.below_freeze (Below.drew (Below.refl B w)) (p := ⟨g, 0, none⟩) hbg _
  have HB := Lib.hid hbl
  clear hbl hown htake hcs hcm hnc hg hbk
  go_enter Tryd.func59, Tryd.ntmps59
  go_wp2
  go_region
  all_goals (go_wp2; go_ret; exact ⟨rfl, HB.out⟩)
end Go.Proofs.YtokjmgkoifakdaaDoor
namespace Go.Proofs.YtokjmgkoifakdaaDoor
open Go.RowKit

/-! ### draws -/
def dN (a : Int) : Int := IntKind.u64.wrap (a + 11400714819323198485)
def dA (x : Int) : Int := IntKind.u64.wrap (bits .xor .u64 x (x / 1073741824) * 13787848793156543929)
def dB (x : Int) : Int := IntKind.u64.wrap (bits .xor .u64 x (x / 134217728) * 10723151780598845931)
def dC (x : Int) : Int := bits .xor .u64 x (x / 2147483648)
def dZ (a : Int) : Int := dC (dB (dA (dN a)))

theorem u64_bd (x : Int) : 0 ≤ IntKind.u64.wrap x ∧ IntKind.u64.wrap x ≤ 18446744073709551615 := by
  rw [IntKind.wrap_u64]; omega
theorem dN_bd (a : Int) : 0 ≤ dN a ∧ dN a ≤ 18446744073709551615 := u64_bd _
theorem dA_bd (a : Int) : 0 ≤ dA a ∧ dA a ≤ 18446744073709551615 := u64_bd _
theorem dB_bd (a : Int) : 0 ≤ dB a ∧ dB a ≤ 18446744073709551615 := u64_bd _
theorem bits_u64_bd (op : BinOp) (x y : Int) : 0 ≤ bits op .u64 x y ∧ bits op .u64 x y ≤ 18446744073709551615 := by
  unfold bits; split <;> first | exact u64_bd _ | (constructor <;> simp)
theorem dC_bd (a : Int) : 0 ≤ dC a ∧ dC a ≤ 18446744073709551615 := bits_u64_bd _ _ _
theorem dZ_bd (a : Int) : 0 ≤ dZ a ∧ dZ a ≤ 18446744073709551615 := dC_bd _

theorem dN_inj (a b : Int) (ha : 0 ≤ a) (ha' : a ≤ 18446744073709551615) (hb : 0 ≤ b) (hb' : b ≤ 18446744073709551615) (h : dN a = dN b) : a = b := by
  unfold dN at h; rw [IntKind.wrap_u64, IntKind.wrap_u64] at h; omega
theorem xor_zero {x y : Nat} (h : x ^^^ y = 0) : x = y := by
  have e : x ^^^ y ^^^ y = 0 ^^^ y := by rw [h]
  simpa [Nat.xor_assoc] using e
theorem xshift_inj (x y s : Nat) (hs : 2 ≤ s) (hp : ∃ k, s = 2 ^ k) (h : x ^^^ x / s = y ^^^ y / s) : x = y := by
  obtain ⟨k, rfl⟩ := hp
  have h1 : x ^^^ y = x / 2 ^ k ^^^ y / 2 ^ k := by
    have e : (x ^^^ x / 2 ^ k) ^^^ (y ^^^ y / 2 ^ k) = 0 := by rw [h]; simp
    have e2 : (x ^^^ y) ^^^ (x / 2 ^ k ^^^ y / 2 ^ k) = 0 := by
      rw [← e]; ac_rfl
    exact xor_zero e2
  have h2 : x / 2 ^ k ^^^ y / 2 ^ k = (x ^^^ y) / 2 ^ k := by
    rw [← Nat.shiftRight_eq_div_pow, ← Nat.shiftRight_eq_div_pow, ← Nat.shiftRight_eq_div_pow, Nat.shiftRight_xor_distrib]
  rw [h2] at h1
  by_cases z : x ^^^ y = 0
  · exact xor_zero z
  · have := Nat.div_lt_self (Nat.pos_of_ne_zero z) (by omega : 1 < 2 ^ k)
    omega
theorem dC_inj (a b : Int) (ha : 0 ≤ a) (ha' : a ≤ 18446744073709551615) (hb : 0 ≤ b) (hb' : b ≤ 18446744073709551615) (h : dC a = dC b) : a = b := by
  obtain ⟨x, rfl⟩ := Int.eq_ofNat_of_zero_le ha
  obtain ⟨y, rfl⟩ := Int.eq_ofNat_of_zero_le hb
  unfold dC at h
  have e1 : bits .xor .u64 (x : Int) ((x : Int) / 2147483648) = ((x ^^^ x / 2147483648 : Nat) : Int) := xorShift_u64 x 2147483648 (by omega)
  have e2 : bits .xor .u64 (y : Int) ((y : Int) / 2147483648) = ((y ^^^ y / 2147483648 : Nat) : Int) := xorShift_u64 y 2147483648 (by omega)
  rw [e1, e2] at h
  exact congrArg Int.ofNat (xshift_inj x y 2147483648 (by decide) ⟨31, rfl⟩ (Int.natCast_inj.1 h))
theorem mix_inj (x y s C D : Nat) (hx : x < 18446744073709551616) (hy : y < 18446744073709551616) (hs : 2 ≤ s) (hp : ∃ k, s = 2 ^ k) (hD : C * D % 18446744073709551616 = 1)
    (h : (x ^^^ x / s) * C % 18446744073709551616 = (y ^^^ y / s) * C % 18446744073709551616) : x = y := by
  apply xshift_inj x y s hs hp
  have bx : x ^^^ x / s < 2 ^ 64 := Nat.xor_lt_two_pow (by omega) (Nat.lt_of_le_of_lt (Nat.div_le_self _ _) (by omega))
  have bY : y ^^^ y / s < 2 ^ 64 := Nat.xor_lt_two_pow (by omega) (Nat.lt_of_le_of_lt (Nat.div_le_self _ _) (by omega))
  generalize x ^^^ x / s = u at *
  generalize y ^^^ y / s = v at *
  have h2 : u * C % 18446744073709551616 * D % 18446744073709551616 = v * C % 18446744073709551616 * D % 18446744073709551616 := by rw [h]
  rw [Nat.mod_mul_mod, Nat.mod_mul_mod, Nat.mul_assoc, Nat.mul_assoc, Nat.mul_mod, hD, Nat.mul_mod v, hD] at h2
  omega
theorem mixA (x : Nat) (hx : x < 18446744073709551616) : IntKind.u64.wrap (bits .xor .u64 (x : Int) ((x : Int) / 1073741824) * 13787848793156543929) = (((x ^^^ x / 1073741824) * 13787848793156543929 % 18446744073709551616 : Nat) : Int) := by
  have := mixStep_u64 x 1073741824 13787848793156543929 hx
  have e1 : ((1073741824 : Nat) : Int) = 1073741824 := rfl
  have e2 : ((13787848793156543929 : Nat) : Int) = 13787848793156543929 := rfl
  rw [e1, e2] at this
  exact this
theorem mixB (x : Nat) (hx : x < 18446744073709551616) : IntKind.u64.wrap (bits .xor .u64 (x : Int) ((x : Int) / 134217728) * 10723151780598845931) = (((x ^^^ x / 134217728) * 10723151780598845931 % 18446744073709551616 : Nat) : Int) := by
  have := mixStep_u64 x 134217728 10723151780598845931 hx
  have e1 : ((134217728 : Nat) : Int) = 134217728 := rfl
  have e2 : ((10723151780598845931 : Nat) : Int) = 10723151780598845931 := rfl
  rw [e1, e2] at this
  exact this
theorem dA_inj (a b : Int) (ha : 0 ≤ a) (ha' : a ≤ 18446744073709551615) (hb : 0 ≤ b) (hb' : b ≤ 18446744073709551615) (h : dA a = dA b) : a = b := by
  obtain ⟨x, rfl⟩ := Int.eq_ofNat_of_zero_le ha
  obtain ⟨y, rfl⟩ := Int.eq_ofNat_of_zero_le hb
  unfold dA at h
  have hx : x < 18446744073709551616 := by omega
  have hy : y < 18446744073709551616 := by omega
  have e1 := mixA x hx
  have e2 := mixA y hy
  rw [e1, e2] at h
  exact congrArg Int.ofNat (mix_inj x y 1073741824 13787848793156543929 10871156337175269513 hx hy (by decide) ⟨30, rfl⟩ (by decide) (Int.natCast_inj.1 h))
theorem dB_inj (a b : Int) (ha : 0 ≤ a) (ha' : a ≤ 18446744073709551615) (hb : 0 ≤ b) (hb' : b ≤ 18446744073709551615) (h : dB a = dB b) : a = b := by
  obtain ⟨x, rfl⟩ := Int.eq_ofNat_of_zero_le ha
  obtain ⟨y, rfl⟩ := Int.eq_ofNat_of_zero_le hb
  unfold dB at h
  have hx : x < 18446744073709551616 := by omega
  have hy : y < 18446744073709551616 := by omega
  have e1 := mixB x hx
  have e2 := mixB y hy
  rw [e1, e2] at h
  exact congrArg Int.ofNat (mix_inj x y 134217728 10723151780598845931 3573116690164977347 hx hy (by decide) ⟨27, rfl⟩ (by decide) (Int.natCast_inj.1 h))
theorem dZ_inj (a b : Int) (ha : 0 ≤ a) (ha' : a ≤ 18446744073709551615) (hb : 0 ≤ b) (hb' : b ≤ 18446744073709551615) (h : dZ a = dZ b) : a = b :=
  dN_inj a b ha ha' hb hb' (dA_inj _ _ (dN_bd _).1 (dN_bd _).2 (dN_bd _).1 (dN_bd _).2 (dB_inj _ _ (dA_bd _).1 (dA_bd _).2 (dA_bd _).1 (dA_bd _).2 (dC_inj _ _ (dB_bd _).1 (dB_bd _).2 (dB_bd _).1 (dB_bd _).2 h)))

/-! ### quotients -/
theorem fdiv_same (a b : Int) (h : a.tmod b = 0) : a.fdiv b = a.tdiv b := by
  rw [Int.fdiv_eq_tdiv, if_pos (Int.dvd_of_tmod_eq_zero h)]; omega
theorem fdiv_part (a b : Int) (hb : b ≠ 0) (h : a.tmod b ≠ 0) : a.fdiv b = a.tdiv b - if (a < 0) ↔ (b < 0) then 0 else 1 := by
  have hd : ¬ b ∣ a := fun hd => h (Int.tmod_eq_zero_of_dvd hd)
  rw [Int.fdiv_eq_tdiv, if_neg hd]
  by_cases ha : 0 ≤ a <;> by_cases hb' : 0 ≤ b
  · rw [if_pos ha, if_pos hb', if_pos (by omega)]
  · rw [if_pos ha, if_neg hb', if_neg (by omega)]
  · rw [if_neg ha, if_pos hb', if_neg (by omega), Int.sign_eq_one_of_pos (by omega)]
  · rw [if_neg ha, if_neg hb', if_pos (by omega), Int.sign_eq_neg_one_of_neg (by omega)]; omega
theorem fdiv_left_pos (a b : Int) (hb : 0 < b) : 0 ≤ a - a.fdiv b * b ∧ a - a.fdiv b * b < b := by
  have h1 := Int.fdiv_mul_add_fmod a b
  have h2 := Int.fmod_lt_of_pos a hb
  have h3 := Int.fmod_nonneg_of_pos a hb
  omega
theorem fdiv_left_neg (a b : Int) (hb : b < 0) : a - a.fdiv b * b ≤ 0 ∧ b < a - a.fdiv b * b := by
  have h1 := Int.fdiv_mul_add_fmod (-a) (-b)
  have h2 := Int.fmod_lt_of_pos (-a) (by omega : 0 < -b)
  have h3 := Int.fmod_nonneg_of_pos (-a) (by omega : 0 < -b)
  rw [Int.neg_fdiv_neg, Int.mul_neg] at h1
  omega
theorem tdiv_bd (a b : Int) (ha : -9223372036854775808 ≤ a) (ha' : a ≤ 9223372036854775807) (h : ¬ (a = -9223372036854775808 ∧ b = -1)) :
    -9223372036854775808 ≤ a.tdiv b ∧ a.tdiv b ≤ 9223372036854775807 := by
  have h1 := Int.natAbs_tdiv a b
  have h2 : a.natAbs.div b.natAbs ≤ a.natAbs := Nat.div_le_self _ _
  by_cases hm : a = -9223372036854775808
  · subst hm
    have hb : b ≠ -1 := fun e => h ⟨rfl, e⟩
    by_cases b1 : b = 1
    · subst b1; simp
    · by_cases b0 : b = 0
      · subst b0; simp
      · have h3 : (Int.natAbs (-9223372036854775808)).div b.natAbs ≤ (Int.natAbs (-9223372036854775808)).div 2 := Nat.div_le_div_left (by omega) (by omega)
        have h4 : (Int.natAbs (-9223372036854775808)).div 2 = 4611686018427387904 := by decide
        omega
  · omega
/-- Where a quotient of whole numbers, not 0, meets its product again, nothing was cut off. -/
theorem mul_back (a b : Int) (hb : b ≠ 0) : (a * b).tdiv b = a := Int.mul_tdiv_cancel _ hb
theorem wrap64_bd (x : Int) : -9223372036854775808 ≤ wrap64 x ∧ wrap64 x ≤ 9223372036854775807 := by unfold wrap64; omega
theorem wrap64_near (x : Int) : ∃ k : Int, wrap64 x = x + 18446744073709551616 * k := by
  refine ⟨-((x + 9223372036854775808) / 18446744073709551616), ?_⟩; unfold wrap64; omega
theorem mul_over_back (a b : Int) (hb0 : b ≠ 0) (hb : -9223372036854775808 ≤ b) (hb' : b ≤ 9223372036854775807)
    (hn : ¬ (a = -9223372036854775808 ∧ b = -1)) (h : ¬ (-9223372036854775808 ≤ a * b ∧ a * b ≤ 9223372036854775807)) : wrap64 ((wrap64 (a * b)).tdiv b) ≠ a := by
  intro e
  have hp := wrap64_bd (a * b)
  obtain ⟨k, hk⟩ := wrap64_near (a * b)
  obtain ⟨p, hpe⟩ : ∃ p, wrap64 (a * b) = p := ⟨_, rfl⟩
  rw [hpe] at e hp hk
  clear hpe
  by_cases hm : p = -9223372036854775808 ∧ b = -1
  · obtain ⟨rfl, rfl⟩ := hm
    apply hn
    refine ⟨?_, rfl⟩
    have e2 : (-9223372036854775808 : Int).tdiv (-1) = 9223372036854775808 := by simp
    rw [e2] at e; unfold wrap64 at e; omega
  · have ht := tdiv_bd p b hp.1 hp.2 hm
    have hw : wrap64 (p.tdiv b) = p.tdiv b := by unfold wrap64; omega
    rw [hw] at e
    have h1 := Int.mul_tdiv_add_tmod p b
    rw [e, Int.mul_comm] at h1
    have h2 : (p.tmod b).natAbs < b.natAbs := by
      rw [Int.natAbs_tmod]; exact Nat.mod_lt _ (by omega)
    have : k = 0 := by omega
    subst this
    omega

/-! ### roots -/
def rootN : Nat → Nat
  | 0 => 0
  | n + 1 => if (rootN n + 1) * (rootN n + 1) ≤ n + 1 then rootN n + 1 else rootN n
theorem rootN_spec : ∀ n, rootN n * rootN n ≤ n ∧ n < (rootN n + 1) * (rootN n + 1)
  | 0 => ⟨Nat.le_refl _, by decide⟩
  | n + 1 => by
    obtain ⟨h1, h2⟩ := rootN_spec n
    unfold rootN
    split
    · rename_i h
      refine ⟨h, ?_⟩
      have e : (rootN n + 1 + 1) * (rootN n + 1 + 1) = (rootN n + 1) * (rootN n + 1) + 2 * rootN n + 3 := by
        generalize rootN n = r; rw [Nat.mul_add, Nat.add_mul, Nat.add_mul]; omega
      omega
    · omega
theorem sq_lt {a b : Nat} (h : a * a < b * b) : a < b := by
  rcases Nat.lt_or_ge a b with h1 | h1
  · exact h1
  · have := Nat.mul_le_mul h1 h1; omega
theorem rootN_is (n r : Nat) (h1 : r * r ≤ n) (h2 : n < (r + 1) * (r + 1)) : r = rootN n := by
  obtain ⟨h3, h4⟩ := rootN_spec n
  have a := sq_lt (Nat.lt_of_le_of_lt h1 h4)
  have b := sq_lt (Nat.lt_of_le_of_lt h3 h2)
  omega
theorem four_le (x y : Nat) : 4 * (x * y) ≤ (x + y) * (x + y) := by
  rcases Nat.le_total x y with h | h
  · obtain ⟨d, rfl⟩ := Nat.exists_eq_add_of_le h
    have : (x + (x + d)) * (x + (x + d)) = 4 * (x * (x + d)) + d * d := by
      simp only [Nat.mul_add, Nat.add_mul]; rw [Nat.mul_comm d x]; omega
    omega
  · obtain ⟨d, rfl⟩ := Nat.exists_eq_add_of_le h
    have : (y + d + y) * (y + d + y) = 4 * ((y + d) * y) + d * d := by
      simp only [Nat.mul_add, Nat.add_mul]; rw [Nat.mul_comm d y]; omega
    omega
/-- A step of Newton's stays at the root or above it. -/
theorem newton_above (n r : Nat) (hr : 0 < r) : n < ((r + n / r) / 2 + 1) * ((r + n / r) / 2 + 1) := by
  have h1 : n < r * (n / r + 1) := Nat.lt_mul_div_succ n hr
  have h2 := four_le r (n / r + 1)
  have h3 : r + (n / r + 1) ≤ 2 * ((r + n / r) / 2 + 1) := by omega
  have h4 := Nat.mul_le_mul h3 h3
  have e : 2 * ((r + n / r) / 2 + 1) * (2 * ((r + n / r) / 2 + 1)) = 4 * (((r + n / r) / 2 + 1) * ((r + n / r) / 2 + 1)) := by
    generalize (r + n / r) / 2 + 1 = z; rw [Nat.mul_mul_mul_comm]
  omega
theorem newton_stands (n r : Nat) (hr : 0 < r) (h : r ≤ (r + n / r) / 2) : r * r ≤ n := by
  have h1 : r ≤ n / r := by omega
  have := (Nat.le_div_iff_mul_le hr).1 h1
  exact this
theorem root_most (n r : Nat) (h : r * r ≤ n) (hn : n ≤ 9223372036854775807) : r ≤ 3037000499 := by
  have : r < 3037000500 := sq_lt (by omega)
  omega
theorem newton_quot (n r : Nat) (_ : 0 < r) (h : n < (r + 1) * (r + 1)) : n / r ≤ r + 2 := by
  have e : (r + 1) * (r + 1) = r * (r + 2) + 1 := by simp only [Nat.add_mul, Nat.mul_add]; omega
  exact Nat.div_le_of_le_mul (by omega)
theorem newton_pos (n r : Nat) (hn : 1 ≤ n) (hr : 0 < r) : 1 ≤ (r + n / r) / 2 := by
  by_cases e : r = 1
  · subst e; simp; omega
  · have : 2 ≤ r + n / r := by have := Nat.zero_le (n / r); omega
    omega
theorem bitLenAux_above : ∀ f x, x < 2 ^ f → x < 2 ^ Lib.bitLenAux f x
  | 0, x, h => h
  | f + 1, x, h => by
    unfold Lib.bitLenAux
    by_cases e : x = 0
    · subst e; simp
    · rw [if_neg e, Nat.add_comm, Nat.pow_succ]
      have := bitLenAux_above f (x / 2) (by rw [Nat.pow_succ] at h; omega)
      omega
/-- The power of two from which Newton's steps fall. -/
theorem newton_start (n : Nat) (h : n < 2 ^ 64) : n < 2 ^ ((Lib.bitLen n + 1) / 2) * 2 ^ ((Lib.bitLen n + 1) / 2) := by
  have h1 : n < 2 ^ Lib.bitLen n := bitLenAux_above 64 n h
  rw [← Nat.pow_add]
  exact Nat.lt_of_lt_of_le h1 (Nat.pow_le_pow_right (by omega) (by omega))
theorem rootN_pos (n : Nat) (h : 1 ≤ n) : 1 ≤ rootN n := by
  have := (rootN_spec n).2
  rcases Nat.eq_zero_or_pos (rootN n) with e | e
  · rw [e] at this; omega
  · exact e

/-! ### numbers in bytes -/
def fixL : Nat → Nat → List UInt8
  | 0, _ => []
  | w + 1, n => UInt8.ofNat (n % 256) :: fixL w (n / 256)
def unfL : List UInt8 → Nat
  | [] => 0
  | c :: l => c.toNat + 256 * unfL l
theorem fixL_length : ∀ w n, (fixL w n).length = w
  | 0, _ => rfl
  | w + 1, n => by simp [fixL, fixL_length w]
theorem unfL_fixL : ∀ w n, n < 256 ^ w → unfL (fixL w n) = n
  | 0, n, h => by simp at h; subst h; rfl
  | w + 1, n, h => by
    have e : n / 256 < 256 ^ w := by rw [Nat.pow_succ] at h; exact Nat.div_lt_of_lt_mul (by omega)
    simp only [fixL, unfL, unfL_fixL w _ e, UInt8.toNat_ofNat']
    omega
theorem unfL_lt : ∀ l : List UInt8, unfL l < 256 ^ l.length
  | [] => by decide
  | c :: l => by
    have h := unfL_lt l
    have hc := c.toNat_lt
    simp only [unfL, List.length_cons, Nat.pow_succ]
    omega
theorem unfL_snoc : ∀ (l : List UInt8) (c : UInt8), unfL (l ++ [c]) = unfL l + 256 ^ l.length * c.toNat
  | [], c => by simp [unfL]
  | d :: l, c => by
    simp only [List.cons_append, unfL, unfL_snoc l c, List.length_cons, Nat.pow_succ]
    rw [Nat.mul_add, ← Nat.mul_assoc, Nat.mul_comm 256 (256 ^ l.length)]; omega

theorem fixL_get : ∀ w n i (h : i < (fixL w n).length), (fixL w n)[i] = UInt8.ofNat (n / 256 ^ i % 256)
  | 0, _, i, h => by simp [fixL] at h
  | w + 1, n, 0, _ => by simp [fixL]
  | w + 1, n, i + 1, h => by
    simp only [fixL, List.getElem_cons_succ]
    rw [fixL_get w (n / 256) i, Nat.div_div_eq_div_mul, Nat.pow_succ, Nat.mul_comm 256]
theorem pow_256 (k : Nat) : 2 ^ (8 * k) = 256 ^ k := by rw [Nat.pow_mul]
theorem unfL_or (l : List UInt8) (c : UInt8) (h : l.length < 8) :
    bits .or .u64 (unfL l : Int) (IntKind.u64.wrap (IntKind.u64.wrap (c.toNat : Int) * 2 ^ (8 * l.length))) = (unfL (l ++ [c]) : Int) := by
  have hc := c.toNat_lt
  have hl := unfL_lt l
  have hp : 256 ^ l.length * 256 ≤ 18446744073709551616 := by
    rw [← Nat.pow_succ]; exact Nat.pow_le_pow_right (n := 256) (by decide) (by omega : l.length + 1 ≤ 8)
  have hm : 256 ^ l.length * c.toNat ≤ 256 ^ l.length * 255 := Nat.mul_le_mul_left _ (by omega)
  have e1 : IntKind.u64.wrap (c.toNat : Int) = (c.toNat : Int) := IntWalk.u64_in _ (by omega)
  have e2 : (c.toNat : Int) * 2 ^ (8 * l.length) = ((256 ^ l.length * c.toNat : Nat) : Int) := by
    rw [Int.natCast_mul, ← pow_256, Int.mul_comm]; simp
  rw [e1, e2, IntWalk.u64_in _ (by omega), u64_or_nat _ _ (by omega) (by omega), unfL_snoc, ← pow_256, Nat.or_comm]
  rw [← pow_256] at hl
  rw [← Nat.two_pow_add_eq_or_of_lt hl, Nat.add_comm]

/-! ### the check sum -/
def nStep (c : Nat) : Nat := (c / 2) ^^^ (c % 2 * 3988292384)
def nAt : Nat → Nat → Nat
  | 0, c => c
  | k + 1, c => nAt k (nStep c)
theorem nAt_succ : ∀ k c, nAt (k + 1) c = nStep (nAt k c)
  | 0, _ => rfl
  | k + 1, c => nAt_succ k (nStep c)
theorem nStep_lt (c : Nat) (h : c < 4294967296) : nStep c < 4294967296 := by
  unfold nStep
  have e32 : (2 : Nat) ^ 32 = 4294967296 := by decide
  have h1 : c / 2 < 2 ^ 32 := by omega
  have h2 : c % 2 * 3988292384 < 2 ^ 32 := by omega
  have := Nat.xor_lt_two_pow h1 h2
  omega
theorem xor_mod2 (a b : Nat) : (a ^^^ b) % 2 = (a % 2) ^^^ (b % 2) := by
  have := @Nat.xor_mod_two_pow a b 1
  simpa using this
theorem xor_cancel {a b c : Nat} (h : a ^^^ c = b ^^^ c) : a = b := by
  have := congrArg (· ^^^ c) h
  simpa [Nat.xor_assoc] using this
theorem nAt_lt : ∀ k c, c < 4294967296 → nAt k c < 4294967296
  | 0, _, h => h
  | k + 1, c, h => nAt_lt k _ (nStep_lt c h)
theorem nStep_xor (a b : Nat) : nStep (a ^^^ b) = nStep a ^^^ nStep b := by
  have h1 : (a ^^^ b) / 2 = a / 2 ^^^ b / 2 := Nat.xor_div_two
  have h2 : (a ^^^ b) % 2 * 3988292384 = (a % 2 * 3988292384) ^^^ (b % 2 * 3988292384) := by
    rw [xor_mod2]
    rcases Nat.mod_two_eq_zero_or_one a with e | e <;> rcases Nat.mod_two_eq_zero_or_one b with f | f <;> simp [e, f]
  unfold nStep
  rw [h1, h2]
  ac_rfl
theorem nAt_xor : ∀ k a b, nAt k (a ^^^ b) = nAt k a ^^^ nAt k b
  | 0, _, _ => rfl
  | k + 1, a, b => by simp only [nAt, nStep_xor, nAt_xor k]
/-- What k bits do to a sum hangs on these bits alone: the rest is shifted. -/
theorem nAt_low : ∀ k c, nAt k c = c / 2 ^ k ^^^ nAt k (c % 2 ^ k)
  | 0, c => by simp [nAt, Nat.mod_one]
  | k + 1, c => by
    have e1 : c / 2 / 2 ^ k = c / 2 ^ (k + 1) := by rw [Nat.div_div_eq_div_mul, Nat.pow_succ, Nat.mul_comm]
    have e2 : c % 2 ^ (k + 1) / 2 = c / 2 % 2 ^ k := by rw [Nat.pow_succ, Nat.mul_comm, Nat.mod_mul_right_div_self]
    have e3 : c % 2 ^ (k + 1) % 2 = c % 2 := Nat.mod_mod_of_dvd _ ⟨2 ^ k, by rw [Nat.pow_succ, Nat.mul_comm]⟩
    have h1 : nAt (k + 1) c = nAt k (c / 2) ^^^ nAt k (c % 2 * 3988292384) := by
      show nAt k (nStep c) = _
      unfold nStep; rw [nAt_xor]
    have h2 : nAt (k + 1) (c % 2 ^ (k + 1)) = nAt k (c / 2 % 2 ^ k) ^^^ nAt k (c % 2 * 3988292384) := by
      show nAt k (nStep _) = _
      unfold nStep; rw [nAt_xor, e2, e3]
    rw [h1, h2, nAt_low k (c / 2), e1]
    ac_rfl
theorem nStep_inj (a b : Nat) (ha : a < 4294967296) (hb : b < 4294967296) (h : nStep a = nStep b) : a = b := by
  unfold nStep at h
  have key : ∀ x y : Nat, x < 2147483648 → y < 2147483648 → x ^^^ 3988292384 ≠ y := by
    intro x y hx hy e
    have : x ^^^ y = 3988292384 := by rw [← e, ← Nat.xor_assoc, Nat.xor_self, Nat.zero_xor]
    have : x ^^^ y < 2 ^ 31 := Nat.xor_lt_two_pow hx hy
    omega
  rcases Nat.mod_two_eq_zero_or_one a with e | e <;> rcases Nat.mod_two_eq_zero_or_one b with f | f <;> rw [e, f] at h
  · simp at h; omega
  · simp at h; exact absurd h.symm (key _ _ (by omega) (by omega))
  · simp at h; exact absurd h (key _ _ (by omega) (by omega))
  · have := xor_cancel h; omega
theorem nAt_inj : ∀ k a b, a < 4294967296 → b < 4294967296 → nAt k a = nAt k b → a = b
  | 0, _, _, _, _, h => h
  | k + 1, a, b, ha, hb, h => nStep_inj a b ha hb (nAt_inj k _ _ (nStep_lt a ha) (nStep_lt b hb) h)
/-- The sum over the first k bytes, not yet turned at the end. -/
def byN (s : ByteArray) (k : Nat) : Nat := if h : k < s.size then (s[k]'h).toNat else 0
theorem byN_lt (s : ByteArray) (k : Nat) : byN s k < 256 := by
  unfold byN; split
  · exact UInt8.toNat_lt _
  · omega
theorem byN_get (s : ByteArray) (k : Nat) (h : k < s.size) : ((s[k]'h).toNat : Int) = (byN s k : Int) := by unfold byN; rw [dif_pos h]
def sumN (s : ByteArray) : Nat → Nat
  | 0 => 4294967295
  | k + 1 => nAt 8 (sumN s k ^^^ byN s k)
theorem xor_byte_lt (c b : Nat) (hc : c < 4294967296) (hb : b < 256) : c ^^^ b < 4294967296 := by
  have e32 : (2 : Nat) ^ 32 = 4294967296 := by decide
  have := Nat.xor_lt_two_pow (n := 32) (x := c) (y := b) (by omega) (by omega)
  omega
theorem sumN_lt (s : ByteArray) : ∀ k, sumN s k < 4294967296
  | 0 => by unfold sumN; omega
  | k + 1 => nAt_lt 8 _ (xor_byte_lt _ _ (sumN_lt s k) (byN_lt s k))
theorem nAt_add : ∀ i j c, nAt (i + j) c = nAt i (nAt j c)
  | _, 0, _ => rfl
  | i, j + 1, c => nAt_add i j (nStep c)
/-- The step in the walk's own form. -/
def cStep (c : Int) : Int := bits .xor .u32 (c / 2) (IntKind.u32.wrap (bits .and .u32 c 1 * 3988292384))
def cAt (i : Int) : Nat → Int
  | 0 => i
  | k + 1 => cStep (cAt i k)
theorem and_one (c : Nat) : c &&& 1 = c % 2 := Nat.and_two_pow_sub_one_eq_mod c 1
theorem and_fifteen (c : Nat) : c &&& 15 = c % 16 := Nat.and_two_pow_sub_one_eq_mod c 4
theorem cStep_nat (c : Nat) (h : c < 4294967296) : cStep (c : Int) = (nStep c : Int) := by
  unfold cStep nStep
  have e1 : bits .and .u32 (c : Int) 1 = ((c % 2 : Nat) : Int) := by
    have := u32_and_nat c 1 h (by decide); rw [and_one] at this; exact this
  have e2 : IntKind.u32.wrap (((c % 2 : Nat) : Int) * 3988292384) = ((c % 2 * 3988292384 : Nat) : Int) := by
    rw [IntWalk.u32_in _ (by omega)]; omega
  have e3 : (c : Int) / 2 = ((c / 2 : Nat) : Int) := by omega
  rw [e1, e2, e3]
  exact u32_xor_nat _ _ (by omega) (by omega)
theorem cAt_nat (c : Nat) (h : c < 4294967296) : ∀ k, cAt (c : Int) k = (nAt k c : Int)
  | 0 => rfl
  | k + 1 => by rw [nAt_succ]; show cStep (cAt _ k) = _; rw [cAt_nat c h k, cStep_nat _ (nAt_lt k c h)]
/-- Four steps at once, out of the table's row. -/
theorem four_steps (x : Nat) (h : x < 4294967296) : bits .xor .u32 ((x : Int) / 16) (cAt ((x % 16 : Nat) : Int) 4) = (nAt 4 x : Int) := by
  rw [cAt_nat _ (by omega), nAt_low 4 x]
  have e3 : (x : Int) / 16 = ((x / 2 ^ 4 : Nat) : Int) := by
    have : (2 : Nat) ^ 4 = 16 := by decide
    omega
  rw [e3]
  have hp : (2 : Nat) ^ 4 = 16 := by decide
  exact u32_xor_nat _ _ (by omega) (nAt_lt 4 _ (by omega))
theorem and15 (x : Nat) (h : x < 4294967296) : bits .and .u32 (x : Int) 15 = ((x % 16 : Nat) : Int) := by
  have := u32_and_nat x 15 h (by decide); rw [and_fifteen] at this; exact this
def crcN (s : ByteArray) : Nat := sumN s s.size ^^^ 4294967295
theorem crc_max (s : ByteArray) : bits .xor .u32 IntKind.u32.max (sumN s s.size : Int) = (crcN s : Int) := by
  have e : IntKind.u32.max = ((4294967295 : Nat) : Int) := by decide
  rw [e, u32_xor_nat _ _ (by decide) (sumN_lt s _), Nat.xor_comm]; rfl
theorem crc_right (s : ByteArray) : bits .xor .u32 (sumN s s.size : Int) 4294967295 = (crcN s : Int) := by
  have := u32_xor_nat (sumN s s.size) 4294967295 (sumN_lt s _) (by decide)
  exact this
theorem crcN_lt (s : ByteArray) : crcN s < 4294967296 := by
  have e32 : (2 : Nat) ^ 32 = 4294967296 := by decide
  have h := sumN_lt s s.size
  have := Nat.xor_lt_two_pow (n := 32) (x := sumN s s.size) (y := 4294967295) (by omega) (by omega)
  unfold crcN; omega
/-- Two texts that part in one byte have other sums. -/
theorem sumN_same (s t : ByteArray) : ∀ k, (∀ i, i < k → byN s i = byN t i) → sumN s k = sumN t k
  | 0, _ => rfl
  | k + 1, h => by
    show nAt 8 _ = nAt 8 _
    rw [sumN_same s t k (fun i hi => h i (by omega)), h k (by omega)]
theorem sumN_other (s t : ByteArray) (j : Nat) (hj : byN s j ≠ byN t j) (hs : ∀ i, i ≠ j → byN s i = byN t i) : ∀ k, j < k → sumN s k ≠ sumN t k
  | 0, h => by omega
  | k + 1, h => by
    intro e
    have e2 := nAt_inj 8 _ _ (xor_byte_lt _ _ (sumN_lt s k) (byN_lt s k)) (xor_byte_lt _ _ (sumN_lt t k) (byN_lt t k)) e
    rcases Nat.lt_or_ge j k with h1 | h1
    · rw [hs k (by omega)] at e2
      exact sumN_other s t j hj hs k h1 (xor_cancel e2)
    · obtain rfl : k = j := by omega
      rw [sumN_same s t k (fun i hi => hs i (by omega)), Nat.xor_comm, Nat.xor_comm (sumN t k)] at e2
      exact hj (xor_cancel e2)

/-! ### the hash -/
def hStep (h c : Int) : Int := IntKind.u64.wrap (bits .xor .u64 h c * 1099511628211)
def hAt (s : ByteArray) : Nat → Int
  | 0 => 14695981039346656037
  | k + 1 => hStep (hAt s k) (byN s k)
theorem hAt_bd (s : ByteArray) : ∀ k, 0 ≤ hAt s k ∧ hAt s k ≤ 18446744073709551615
  | 0 => by unfold hAt; omega
  | _ + 1 => u64_bd _
end Go.Proofs.YtokjmgkoifakdaaDoor
namespace Go.Proofs.YtokjmgkoifakdaaDoor
open Go.RowKit
theorem ret_int {k : IntKind} {a b : Int} (h : a = b) : Ending.returned (.int k a) = .returned (.int k b) := by rw [h]
theorem ret_int2 {k l : IntKind} {a b c d : Int} (h : a = b) (h' : c = d) : Ending.returned (.tuple #[.int k a, .int l c]) = .returned (.tuple #[.int k b, .int l d]) := by rw [h, h']
set_option maxHeartbeats 400000 in
theorem fix_wrong (N : Nat) (k : Int) (w : World) (h : k < 1 ∨ 8 < k) :
    Calls Tryd.prog 105 #[.int .u64 (N : Int), .int .i64 k] w fun e w' => e = .returned (.tuple #[.string ⟨#[]⟩, .int .i64 11]) ∧ w = w' := by
  go_enter Tryd.func105, Tryd.ntmps105
  go_wp2
  all_goals go_ret2
  all_goals exact ⟨rfl, rfl⟩
set_option maxHeartbeats 400000 in
theorem fix_over (N K : Nat) (w : World) (h : 1 ≤ K) (h' : K ≤ 8) (ho : 256 ^ K ≤ N) :
    Calls Tryd.prog 105 #[.int .u64 (N : Int), .int .i64 (K : Int)] w fun e w' => e = .returned (.tuple #[.string ⟨#[]⟩, .int .i64 11]) ∧ w = w' := by
  have ht : ((N : Int) / 2 ^ (8 * K) != 0) = true := by
    have h1 : 0 < N / 2 ^ (8 * K) := by rw [pow_256]; exact Nat.div_pos ho (Nat.pow_pos (by decide))
    have h2 : (N : Int) / 2 ^ (8 * K) = ((N / 2 ^ (8 * K) : Nat) : Int) := by simp
    rw [h2]; simp only [bne_iff_ne, ne_eq]; omega
  clear ho
  go_enter Tryd.func105, Tryd.ntmps105
  go_wp2
  all_goals go_ret2
  all_goals exact ⟨rfl, rfl⟩
def fixC (N k : Nat) : Array Value := Array.ofFn (n := 8) fun i => Value.int .u8 (if i.val < k then ((N / 256 ^ i.val % 256 : Nat) : Int) else 0)
theorem fixC_zero (N : Nat) : fixC N 0 = #[.int .u8 0, .int .u8 0, .int .u8 0, .int .u8 0, .int .u8 0, .int .u8 0, .int .u8 0, .int .u8 0] := by rfl
theorem fixC_get (N k i : Nat) (h : i < 8) : (fixC N k)[i]? = some (.int .u8 (if i < k then ((N / 256 ^ i % 256 : Nat) : Int) else 0)) := by simp [fixC, h]
theorem fixC_set (N k : Nat) (_ : k < 8) : (fixC N k).setIfInBounds k (.int .u8 ((N : Int) / 2 ^ (8 * k) % 256)) = fixC N (k + 1) := by
  have hv : (N : Int) / 2 ^ (8 * k) % 256 = ((N / 256 ^ k % 256 : Nat) : Int) := by
    have h2 : (N : Int) / 2 ^ (8 * k) = ((N / 2 ^ (8 * k) : Nat) : Int) := by simp
    rw [h2, pow_256]; omega
  rw [hv]
  unfold fixC
  apply Array.ext_getElem?
  intro i
  rw [Array.getElem?_setIfInBounds, Array.getElem?_ofFn, Array.getElem?_ofFn]
  by_cases e : k = i
  · subst e; simp [*]
  · have h3 : (i < k + 1) = (i < k) := by simp only [eq_iff_iff]; omega
    simp [e, h3]
set_option maxHeartbeats 400000 in
theorem fix_fits (N K : Nat) (w : World) (h : 1 ≤ K) (h' : K ≤ 8) (ho : N < 256 ^ K) :
    Calls Tryd.prog 105 #[.int .u64 (N : Int), .int .i64 (K : Int)] w fun e w' => e = .returned (.tuple #[.string ⟨(fixL K N).toArray⟩, .int .i64 0]) ∧ Below w.heap.size w w' := by
  have ht : ((N : Int) / 2 ^ (8 * K) != 0) = false := by
    have h2 : (N : Int) / 2 ^ (8 * K) = ((N / 2 ^ (8 * K) : Nat) : Int) := by simp
    rw [h2, pow_256, Nat.div_eq_of_lt ho]; rfl
  clear ho
  go_enter Tryd.func105, Tryd.ntmps105
  go_wp2
  go_loopw [22] (fun i wr => ∃ k : Nat, k ≤ K ∧ i = .int .i64 k ∧ wr.heap[w.heap.size]? = some (.cells (fixC N k) 188 (0, 0)) ∧ Below w.heap.size w wr) (fun i _ => K - (intOf i).toNat)
  case atStart => exact ⟨0, by omega, rfl, by rw [fixC_zero]; exact heap_alloc_new _ _, (Below.refl _ _).alloc (Nat.le_refl _) _⟩
  case round =>
    obtain ⟨k, hk, rfl, hrow, hbel⟩ := hrel
    by_cases hlt : k < K
    · have hcell : wr.cell? ⟨w.heap.size, k, none⟩ = some (.int .u8 (if k < k then ((N / 256 ^ k % 256 : Nat) : Int) else 0)) := by rw [cell_of_row _ _ _ _ _ _ hrow, fixC_get _ _ _ (by omega)]
      have hfz : wr.frozen? ⟨w.heap.size, k, none⟩ = false := frozen_of_row _ _ _ _ _ hrow
      have HR := Lib.hid hrow
      clear hrow
      go_wp2
      go_roundw
      case rel => exact ⟨k + 1, by omega, by go_num, by rw [heap_setCell_same _ _ _ _ _ _ HR.out, fixC_set _ _ (by omega)], hbel.setCell (by simp) _⟩
      case measure => simp [intOf]; omega
    · obtain rfl : k = K := by omega
      have hcv := run_convert_bytes_back (P := Tryd.prog) wr 74 9 5 ⟨w.heap.size, 0, none⟩ 8 (fixL k N) Tryd.underlying74 Tryd.underlying5 Tryd.underlying9
        (fun j hj => by
          have hj' : j < k := by rw [fixL_length] at hj; exact hj
          have ha : (⟨w.heap.size, 0, none⟩ : Addr).add j = ⟨w.heap.size, j, none⟩ := by unfold Addr.add; split <;> simp_all
          rw [ha, cell_of_row _ _ _ _ _ _ hrow, fixC_get _ _ _ (by omega), if_pos hj', fixL_get]
          simp only [UInt8.toNat_ofNat']
          congr 2; omega)
      rw [fixL_length] at hcv
      clear hrow
      go_wp2
      go_ret2
      exact ⟨rfl, hbel⟩
set_option maxHeartbeats 400000 in
theorem unfix_wrong (s : ByteArray) (w : World) (h : s.size < 1 ∨ 8 < s.size) (hs : s.size ≤ maxLen) :
    Calls Tryd.prog 108 #[.string s] w fun e w' => e = .returned (.tuple #[.int .u64 0, .int .i64 11]) ∧ w = w' := by
  unfold maxLen at hs
  go_enter Tryd.func108, Tryd.ntmps108
  go_wp2
  all_goals go_ret2
  all_goals exact ⟨rfl, rfl⟩
set_option maxHeartbeats 400000 in
theorem unfix_any (s : ByteArray) (w : World) (h : 1 ≤ s.size) (h' : s.size ≤ 8) :
    Calls Tryd.prog 108 #[.string s] w fun e w' => e = .returned (.tuple #[.int .u64 (unfL s.data.toList), .int .i64 0]) ∧ w = w' := by
  go_enter Tryd.func108, Tryd.ntmps108
  go_wp2
  go_loop [4, 16] (fun c i => ∃ k : Nat, k ≤ s.size ∧ i = .int .i64 k ∧ c = .int .u64 (unfL (s.data.toList.take k))) (fun _ i => s.size - (intOf i).toNat)
  case atStart => exact ⟨0, Nat.zero_le _, rfl, rfl⟩
  case round =>
    obtain ⟨k, hk, rfl, rfl⟩ := hrel
    by_cases hlt : k < s.size
    · have ho := Lib.hid (unfL_or (s.data.toList.take k) (s[k]'hlt) (by simp; omega))
      go_wp2
      go_round
      case rel =>
        have ho := ho.out
        have hl : (s.data.toList.take k).length = k := by simp; omega
        rw [hl] at ho
        refine ⟨k + 1, by omega, by go_num, ?_⟩
        rw [ho, List.take_succ_eq_append_getElem (by simpa using hlt)]
        rfl
      case measure => simp [intOf]; omega
    · obtain rfl : k = s.size := by omega
      go_wp2
      go_ret2
      exact ⟨ret_int2 (by rw [List.take_of_length_le (by simp)]) rfl, rfl⟩

/-! ### the document's first examples -/
end Go.Proofs.YtokjmgkoifakdaaDoor
namespace Go.Proofs.YtokjmgkoifakdaaDoor
set_option linter.unusedVariables false
open Go Go.RowKit Go.Shelf Pl
theorem cells_app (l : List UInt8) (r : List UInt8) : Lib.byteCells l ++ Lib.strCells ⟨r.toArray⟩ = Lib.byteCells (l ++ r) := by
  rw [Lib.byteCells_append]; rfl
theorem fix_size (k N : Nat) : (⟨(fixL k N).toArray⟩ : ByteArray).size = k := by
  show (fixL k N).toArray.size = k
  simp [fixL_length]
set_option maxHeartbeats 1000000 in
set_option maxRecDepth 100000 in
theorem number_any (B b : Nat) (l : List UInt8) (n : Int) (N K : Nat) (w : World) (h : WrAt B b (Lib.byteCells l) w) (h1 : 1 ≤ K) (h8 : K ≤ 8) (ho : N < 256 ^ K) (hn : IntKind.u64.wrap n = (N : Int)) (hl : l.length ≤ 1048576) (hB : B ≤ w.heap.size) :
    Calls Tryd.prog 56 #[.pointer (some ⟨b, 0, none⟩), .int .i64 n, .int .i64 K] w fun e w' => e = .returned (.tuple #[]) ∧ (WrAt B b (Lib.byteCells (l ++ fixL K N)) w' ∧ Kw B b w w') := by
  have HF := Lib.hid (fix_fits N K w h1 h8 ho)
  have HH := Lib.hid h
  have HS := Lib.hid (fun w (h : WrAt B b (Lib.byteCells l) w) hB => wstring_any B b (Lib.byteCells l) ⟨(fixL K N).toArray⟩ w h (by rw [Lib.byteCells_length, fix_size]; omega) hB)
  rw [cells_app] at HS
  generalize Lib.byteCells (l ++ fixL K N) = bs' at *
  generalize (⟨(fixL K N).toArray⟩ : ByteArray) = s at *
  clear h ho
  go_enter Tryd.func56, Tryd.ntmps56
  go_wp2_with fail
  refine (HF.out).mono ?_
  rintro e w1 ⟨rfl, b1⟩
  have k1 : Kw B b w w1 := Kw.of_below b1 hB
  have HW := Lib.hid (HS.out w1 (HH.out.below b1) (Nat.le_trans hB b1.size))
  go_wp2_with fail
  refine HW.out.mono ?_
  rintro e w2 ⟨rfl, h2, k2⟩
  go_wp2_with fail
  go_end0
  exact ⟨rfl, h2, k1.trans k2⟩
set_option maxHeartbeats 1000000 in
set_option maxRecDepth 100000 in
theorem text_any (B b : Nat) (l : List UInt8) (s : ByteArray) (K : Nat) (w : World) (h : WrAt B b (Lib.byteCells l) w) (h1 : 1 ≤ K) (h8 : K ≤ 8) (ho : s.size < 256 ^ K) (hs : s.size ≤ 1048576) (hl : l.length ≤ 1048576) (hB : B ≤ w.heap.size) :
    Calls Tryd.prog 57 #[.pointer (some ⟨b, 0, none⟩), .string s, .int .i64 K] w fun e w' => e = .returned (.tuple #[]) ∧ (WrAt B b (Lib.byteCells (l ++ fixL K s.size ++ s.data.toList)) w' ∧ Kw B b w w') := by
  have HF := Lib.hid (number_any B b l s.size s.size K w h h1 h8 ho (by show (s.size : Int) % 18446744073709551616 = s.size; omega) hl hB)
  have HS := Lib.hid (fun w (h : WrAt B b (Lib.byteCells (l ++ fixL K s.size)) w) hB => wstring_any B b (Lib.byteCells (l ++ fixL K s.size)) s w h (by rw [Lib.byteCells_length, List.length_append, fixL_length]; omega) hB)
  rw [Lib.strCells_eq, ← Lib.byteCells_append] at HS
  generalize Lib.byteCells (l ++ fixL K s.size ++ s.data.toList) = bs' at *
  generalize Lib.byteCells (l ++ fixL K s.size) = bs1 at *
  clear h ho
  go_enter Tryd.func57, Tryd.ntmps57
  go_wp2_with fail
  refine (HF.out).mono ?_
  rintro e w1 ⟨rfl, hw1, k1⟩
  have HW := Lib.hid (HS.out w1 hw1 (Nat.le_trans hB k1.size))
  go_wp2_with fail
  refine HW.out.mono ?_
  rintro e w2 ⟨rfl, h2, k2⟩
  go_wp2_with fail
  go_end0
  exact ⟨rfl, h2, k1.trans k2⟩
end Go.Proofs.YtokjmgkoifakdaaDoor
namespace Go.Proofs.YtokjmgkoifakdaaDoor
set_option linter.unusedVariables false
open Go Go.RowKit Go.Shelf Pl

noncomputable def gN : Nat := Tryd.prog.globals.size
def Same8 (w W : World) : Prop := ∀ b, b < gN → W.heap[b]? = w.heap[b]?
/-- Of a kind: how many bytes its number has, its least and greatest number, how long its text is at most. -/
def szT : Nat → Int × Int × Int × Int
  | 1 => (8, -4503599627370496, 4503599627370496, 0)
  | 2 => (2, 0, 0, 256)
  | 3 => (1, 0, 1, 0)
  | _ => (0, 0, 0, 0)
structure Gp (w : World) : Prop where
  size : gN ≤ w.heap.size
  tab : ∀ W, Same8 w W → ∀ k, k < 4 → W.cell? ⟨0, k * 4, none⟩ = some (.int .i64 (szT k).1) ∧ W.cell? ⟨0, k * 4 + 1, none⟩ = some (.int .i64 (szT k).2.1) ∧
    W.cell? ⟨0, k * 4 + 2, none⟩ = some (.int .i64 (szT k).2.2.1) ∧ W.cell? ⟨0, k * 4 + 3, none⟩ = some (.int .i64 (szT k).2.2.2)
  utf : ∀ W, Same8 w W → Lib.Utf8Tabs 1 2 W
theorem Gp.keep {w w' : World} (h : Gp w) (hs : w.heap.size ≤ w'.heap.size) (hb : Same8 w w') : Gp w' := by
  obtain ⟨h0, h1, h2⟩ := h
  exact ⟨Nat.le_trans h0 hs, fun W hW => h1 W fun b hb' => (hW b hb').trans (hb b hb'), fun W hW => h2 W fun b hb' => (hW b hb').trans (hb b hb')⟩
theorem Gp.below {B : Nat} {w w' : World} (h : Gp w) (g : Below B w w') (hB : gN ≤ B) : Gp w' := h.keep g.size fun b hb => g.block b (Nat.lt_of_lt_of_le hb hB)
theorem Gp.fresh {w w' : World} (h : Gp w) (g : Below w.heap.size w w') : Gp w' := h.below g h.size
theorem Gp.drewN {w : World} (h : Gp w) (n : Nat) : Gp (w.drewN n) := h.keep (Nat.le_refl _) fun _ _ => rfl
theorem Gp.alloc {w : World} (h : Gp w) (o : Obj) : Gp (w.alloc o) := h.keep (by simp) fun b hb => Below.heap_alloc _ _ _ (Nat.lt_of_lt_of_le hb h.size)
theorem g_lt : 0 < gN := of_decide_eq_true (by kernel_rfl)
theorem heap_last (w : World) (o : Obj) : (w.alloc o).heap[w.heap.size]? = some o := by show (w.heap.push o)[w.heap.size]? = some o; simp
theorem cells4 (w : World) (a b c d : Value) (T : TypeId) : (w.alloc (.cells #[a, b, c, d] T)).cell? ⟨w.heap.size, 0, none⟩ = some a ∧ (w.alloc (.cells #[a, b, c, d] T)).cell? ⟨w.heap.size, 1, none⟩ = some b ∧
    (w.alloc (.cells #[a, b, c, d] T)).cell? ⟨w.heap.size, 2, none⟩ = some c ∧ (w.alloc (.cells #[a, b, c, d] T)).cell? ⟨w.heap.size, 3, none⟩ = some d := by
  have h := heap_last w (.cells #[a, b, c, d] T)
  refine ⟨?_, ?_, ?_, ?_⟩ <;> rw [Lib.cell_of_heap h] <;> rfl
set_option maxHeartbeats 1000000 in
set_option maxRecDepth 100000 in
theorem size_kind (k : Nat) (h1 : 1 ≤ k) (h3 : k < 4) (w : World) (G : Gp w) :
    Calls Tryd.prog 90 #[.int .i64 k] w fun e w' => e = .returned (.tuple #[.agg #[.int .i64 (szT k).1, .int .i64 (szT k).2.1, .int .i64 (szT k).2.2.1, .int .i64 (szT k).2.2.2], .bool true]) ∧ Below w.heap.size w w' := by
  have hc : ∀ o, _ := fun o => (G.alloc o).tab (w.alloc o) (fun _ _ => rfl) k h3
  generalize szT k = q at *
  obtain ⟨a, b, c, d⟩ := q
  have c0 : ∀ o, _ := fun o => (hc o).1
  have c1 : ∀ o, _ := fun o => (hc o).2.1
  have c2 : ∀ o, _ := fun o => (hc o).2.2.1
  have c3 : ∀ o, _ := fun o => (hc o).2.2.2
  clear hc
  have g1 := Nat.lt_of_lt_of_le g_lt G.size
  go_enter Tryd.func90, Tryd.ntmps90
  go_wp2_with fail
  obtain ⟨e0, e1, e2, e3⟩ := cells4 w (.int .i64 a) (.int .i64 b) (.int .i64 c) (.int .i64 d) 146
  refine bodyPost_ret (v := .tuple #[.agg #[.int .i64 a, .int .i64 b, .int .i64 c, .int .i64 d], .bool true]) (by simp [results, Tryd.results90, go_sem, e0, e1, e2, e3]) rfl ?_
  exact ⟨rfl, Below.alloc (Below.refl _ w) (Nat.le_refl _) _⟩
set_option maxHeartbeats 1000000 in
set_option maxRecDepth 100000 in
theorem size_none (k : Int) (h : k < 1 ∨ 4 ≤ k) (w : World) :
    Calls Tryd.prog 90 #[.int .i64 k] w fun e w' => e = .returned (.tuple #[.agg #[.int .i64 0, .int .i64 0, .int .i64 0, .int .i64 0], .bool false]) ∧ Below w.heap.size w w' := by
  obtain ⟨e0, e1, e2, e3⟩ := cells4 w (.int .i64 0) (.int .i64 0) (.int .i64 0) (.int .i64 0) 146
  rcases h with h | h
  all_goals
    go_enter Tryd.func90, Tryd.ntmps90
    go_wp2_with fail
    refine bodyPost_ret (v := .tuple #[.agg #[.int .i64 0, .int .i64 0, .int .i64 0, .int .i64 0], .bool false]) (by simp [results, Tryd.results90, go_sem, e0, e1, e2, e3]) rfl ?_
    exact ⟨rfl, Below.alloc (Below.refl _ w) (Nat.le_refl _) _⟩
end Go.Proofs.YtokjmgkoifakdaaDoor
namespace Go.Proofs.YtokjmgkoifakdaaDoor
set_option linter.unusedVariables false
open Go Go.RowKit Go.Shelf Pl
theorem WrAt.lt {B b : Nat} {bs : List Value} {w : World} (h : WrAt B b bs w) : b < w.heap.size := by
  rcases h with h | h <;> exact h.lt
theorem heap_old (w : World) (o : Obj) {k : Nat} (hk : k < w.heap.size) : (w.alloc o).heap[k]? = w.heap[k]? := Below.heap_alloc _ _ _ hk
theorem cells3_new {w : World} {g : Nat} {a b c : Value} {T : TypeId} (h : w.heap[g]? = some (.cells #[a, b, c] T (0, 0))) (o : Obj) :
    (w.alloc o).cell? ⟨g, 0, none⟩ = some a ∧ (w.alloc o).cell? ⟨g, 1, none⟩ = some b ∧ (w.alloc o).cell? ⟨g, 2, none⟩ = some c := by
  have hk : g < w.heap.size := (Array.getElem?_eq_some_iff.1 h).1
  rw [← heap_old w o hk] at h
  refine ⟨?_, ?_, ?_⟩ <;> rw [Lib.cell_of_heap h] <;> rfl
theorem cells3_of {w : World} {g : Nat} {a b c : Value} {T : TypeId} (h : w.heap[g]? = some (.cells #[a, b, c] T (0, 0))) :
    w.cell? ⟨g, 0, none⟩ = some a ∧ w.cell? ⟨g, 1, none⟩ = some b ∧ w.cell? ⟨g, 2, none⟩ = some c := by
  refine ⟨?_, ?_, ?_⟩ <;> rw [Lib.cell_of_heap h] <;> rfl
theorem cells4_of {w : World} {g : Nat} {a b c d : Value} {T : TypeId} (h : w.heap[g]? = some (.cells #[a, b, c, d] T (0, 0))) :
    w.cell? ⟨g, 0, none⟩ = some a ∧ w.cell? ⟨g, 1, none⟩ = some b ∧ w.cell? ⟨g, 2, none⟩ = some c ∧ w.cell? ⟨g, 3, none⟩ = some d := by
  refine ⟨?_, ?_, ?_, ?_⟩ <;> rw [Lib.cell_of_heap h] <;> rfl
set_option maxHeartbeats 1000000 in
set_option maxRecDepth 100000 in
theorem value_num (B b : Nat) (l : List UInt8) (k K N : Nat) (n : Int) (t : ByteArray) (w : World) (G : Gp w) (h : WrAt B b (Lib.byteCells l) w) (h1 : 1 ≤ k) (h3 : k < 4) (hk : k ≠ 2) (hK : (szT k).1 = (K : Int)) (hK1 : 1 ≤ K) (hK8 : K ≤ 8)
    (hN : N < 256 ^ K) (hn : IntKind.u64.wrap n = (N : Int)) (hl : l.length ≤ 65535) (hB : B ≤ w.heap.size) :
    Calls Tryd.prog 58 #[.pointer (some ⟨b, 0, none⟩), .agg #[.int .i64 k, .int .i64 n, .string t]] w fun e w' => e = .returned (.tuple #[]) ∧ (WrAt B b (Lib.byteCells (l ++ fixL 1 k ++ fixL K N)) w' ∧ Kw B b w w') := by
  have HZ := Lib.hid (fun W (G : Gp W) => size_kind k h1 h3 W G)
  rw [hK] at HZ
  generalize (szT k).2.1 = lo at *
  generalize (szT k).2.2.1 = hi at *
  generalize (szT k).2.2.2 = tx at *
  have HN1 := Lib.hid (fun W (h : WrAt B b (Lib.byteCells l) W) hB => number_any B b l k k 1 W h (by omega) (by omega) (by omega) (by show (k : Int) % 18446744073709551616 = k; omega) (by omega) hB)
  have HN2 := Lib.hid (fun W (h : WrAt B b (Lib.byteCells (l ++ fixL 1 k)) W) hB => number_any B b (l ++ fixL 1 k) n N K W h hK1 hK8 hN hn (by rw [List.length_append, fixL_length]; omega) hB)
  generalize Lib.byteCells (l ++ fixL 1 k ++ fixL K N) = bs2 at *
  generalize Lib.byteCells (l ++ fixL 1 k) = bs1 at *
  generalize Lib.byteCells l = bs0 at *
  have HH := Lib.hid h
  have HLT := Lib.hid h.lt
  have HK2 : ¬ (k : Int) = 2 := by omega
  clear hN hn h hK
  have hx := Lib.hid (heap_last w (.cells #[.int .i64 (k : Int), .int .i64 n, .string t] 54))
  obtain ⟨a0, a1, a2⟩ := cells3_of hx.out
  go_enter Tryd.func58, Tryd.ntmps58
  go_wp2_with fail
  refine (HZ.out _ (G.alloc _)).mono ?_
  rintro e w2 ⟨rfl, b2⟩
  have x2 : w2.heap[w.heap.size]? = some (.cells #[.int .i64 (k : Int), .int .i64 n, .string t] 54 (0, 0)) := (b2.block _ (by simp)).trans hx.out
  have hs2 : w.heap.size < w2.heap.size := Nat.lt_of_lt_of_le (by simp) b2.size
  have hbb : Below w.heap.size w w2 := (Below.alloc (Below.refl _ w) (Nat.le_refl _) _).trans (b2.mono (by simp))
  obtain ⟨w3, hw3⟩ : ∃ w3, w3 = w2.alloc (.cells #[.int .i64 (K : Int), .int .i64 lo, .int .i64 hi, .int .i64 tx] 146) := ⟨_, rfl⟩
  have x3 : w3.heap[w.heap.size]? = some (.cells #[.int .i64 (k : Int), .int .i64 n, .string t] 54 (0, 0)) := by rw [hw3, heap_old _ _ hs2]; exact x2
  have y3 : w3.heap[w2.heap.size]? = some (.cells #[.int .i64 (K : Int), .int .i64 lo, .int .i64 hi, .int .i64 tx] 146 (0, 0)) := by rw [hw3]; exact heap_last _ _
  have b3 : Below w.heap.size w w3 := by rw [hw3]; exact hbb.alloc (by omega) _
  have c0 := fun o => (cells3_new x2 o).1
  have X3 := Lib.hid x3
  have Y3 := Lib.hid y3
  have B3 := Lib.hid b3
  have S2 := Lib.hid hs2
  have W3 := Lib.hid hw3
  clear x3 y3 b3 hbb x2 hs2
  go_wp2_with fail
  rw [← W3.out]
  have k3 : Kw B b w w3 := Kw.of_below B3.out hB
  refine (HN1.out w3 (HH.out.below B3.out) (Nat.le_trans hB k3.size)).mono ?_
  rintro e w4 ⟨rfl, h4, k4⟩
  have x4 := k4.block X3.out (by have := HLT.out; omega) (by decide)
  have y4 := k4.block Y3.out (by have := HLT.out; have := S2.out; omega) (by decide)
  obtain ⟨d0, d1, d2⟩ := cells3_of x4
  obtain ⟨f0, f1, f2, f3⟩ := cells4_of y4
  clear x4 y4 hw3 c0
  go_wp2_with fail
  refine (HN2.out w4 h4 (Nat.le_trans hB (k3.trans k4).size)).mono ?_
  rintro e w5 ⟨rfl, h5, k5⟩
  go_wp2_with fail
  go_end0
  exact ⟨rfl, h5, (k3.trans k4).trans k5⟩
set_option maxHeartbeats 1000000 in
set_option maxRecDepth 100000 in
theorem value_word (B b : Nat) (l : List UInt8) (n : Int) (t : ByteArray) (w : World) (G : Gp w) (h : WrAt B b (Lib.byteCells l) w) (ht : t.size ≤ 256) (hl : l.length ≤ 65535) (hB : B ≤ w.heap.size) :
    Calls Tryd.prog 58 #[.pointer (some ⟨b, 0, none⟩), .agg #[.int .i64 2, .int .i64 n, .string t]] w fun e w' => e = .returned (.tuple #[]) ∧ (WrAt B b (Lib.byteCells (l ++ fixL 1 2 ++ fixL 2 t.size ++ t.data.toList)) w' ∧ Kw B b w w') := by
  have HZ := Lib.hid (fun W (G : Gp W) => size_kind 2 (by omega) (by omega) W G)
  rw [show (szT 2).1 = 2 from rfl] at HZ
  generalize (szT 2).2.1 = lo at *
  generalize (szT 2).2.2.1 = hi at *
  generalize (szT 2).2.2.2 = tx at *
  have HN1 := Lib.hid (fun W (h : WrAt B b (Lib.byteCells l) W) hB => number_any B b l 2 2 1 W h (by omega) (by omega) (by omega) (by rfl) (by omega) hB)
  have HN2 := Lib.hid (fun W (h : WrAt B b (Lib.byteCells (l ++ fixL 1 2)) W) hB => text_any B b (l ++ fixL 1 2) t 2 W h (by omega) (by omega) (by omega) (by omega) (by rw [List.length_append, fixL_length]; omega) hB)
  generalize Lib.byteCells (l ++ fixL 1 2 ++ fixL 2 t.size ++ t.data.toList) = bs2 at *
  generalize Lib.byteCells (l ++ fixL 1 2) = bs1 at *
  generalize Lib.byteCells l = bs0 at *
  have HH := Lib.hid h
  have HLT := Lib.hid h.lt
  clear h
  have hx := Lib.hid (heap_last w (.cells #[.int .i64 2, .int .i64 n, .string t] 54))
  obtain ⟨a0, a1, a2⟩ := cells3_of hx.out
  go_enter Tryd.func58, Tryd.ntmps58
  go_wp2_with fail
  refine (HZ.out _ (G.alloc _)).mono ?_
  rintro e w2 ⟨rfl, b2⟩
  have x2 : w2.heap[w.heap.size]? = some (.cells #[.int .i64 2, .int .i64 n, .string t] 54 (0, 0)) := (b2.block _ (by simp)).trans hx.out
  have hs2 : w.heap.size < w2.heap.size := Nat.lt_of_lt_of_le (by simp) b2.size
  have hbb : Below w.heap.size w w2 := (Below.alloc (Below.refl _ w) (Nat.le_refl _) _).trans (b2.mono (by simp))
  obtain ⟨w3, hw3⟩ : ∃ w3, w3 = w2.alloc (.cells #[.int .i64 2, .int .i64 lo, .int .i64 hi, .int .i64 tx] 146) := ⟨_, rfl⟩
  have x3 : w3.heap[w.heap.size]? = some (.cells #[.int .i64 2, .int .i64 n, .string t] 54 (0, 0)) := by rw [hw3, heap_old _ _ hs2]; exact x2
  have y3 : w3.heap[w2.heap.size]? = some (.cells #[.int .i64 2, .int .i64 lo, .int .i64 hi, .int .i64 tx] 146 (0, 0)) := by rw [hw3]; exact heap_last _ _
  have b3 : Below w.heap.size w w3 := by rw [hw3]; exact hbb.alloc (by omega) _
  have c0 := fun o => (cells3_new x2 o).1
  have X3 := Lib.hid x3
  have Y3 := Lib.hid y3
  have B3 := Lib.hid b3
  have S2 := Lib.hid hs2
  have W3 := Lib.hid hw3
  clear x3 y3 b3 hbb x2 hs2
  go_wp2_with fail
  rw [← W3.out]
  have k3 : Kw B b w w3 := Kw.of_below B3.out hB
  refine (HN1.out w3 (HH.out.below B3.out) (Nat.le_trans hB k3.size)).mono ?_
  rintro e w4 ⟨rfl, h4, k4⟩
  have x4 := k4.block X3.out (by have := HLT.out; omega) (by decide)
  have y4 := k4.block Y3.out (by have := HLT.out; have := S2.out; omega) (by decide)
  obtain ⟨d0, d1, d2⟩ := cells3_of x4
  obtain ⟨f0, f1, f2, f3⟩ := cells4_of y4
  clear x4 y4 hw3 c0
  go_wp2_with fail
  refine (HN2.out w4 h4 (Nat.le_trans hB (k3.trans k4).size)).mono ?_
  rintro e w5 ⟨rfl, h5, k5⟩
  go_wp2_with fail
  go_end0
  exact ⟨rfl, h5, (k3.trans k4).trans k5⟩
end Go.Proofs.YtokjmgkoifakdaaDoor
namespace Go.Proofs.YtokjmgkoifakdaaDoor
set_option linter.unusedVariables false
open Go Go.RowKit Go.Shelf Pl
def allS (s : ByteArray) (p : UInt8 → Bool) : Bool := s.data.toList.all p
set_option maxHeartbeats 1000000 in
theorem allBytes_any (f : Nat) (p : UInt8 → Bool) (hp : TellsB f p) (s : ByteArray) (g c : Nat) (w : World) (hc : ∀ j (h : j < s.size), w.cell? ⟨g, j, none⟩ = some (.int .u8 s[j].toNat)) (hl : s.size ≤ 1048576) :
    Calls Tryd.prog 129 #[.slice (some ⟨g, 0, none⟩) s.size c, .func (.func f) #[] #[]] w fun e w' => e = .returned (.bool (allS s p)) ∧ w' = w := by
  obtain ⟨hg, hq⟩ := hp
  have HQ := Lib.hid hq
  have HS : Hid (s.size ≤ maxLen) := Lib.hid (by unfold maxLen; omega)
  clear hq hl
  go_enter Tryd.func129, Tryd.ntmps129
  have HC := Lib.hid hc
  clear hc
  go_wp2
  go_loop [9] (fun i => ∃ k : Nat, k ≤ s.size ∧ i = .int .i64 k ∧ Hid ((s.data.toList.take k).all p = true)) (fun i => s.size - (intOf i).toNat)
  case atStart => exact ⟨0, Nat.zero_le _, rfl, Lib.hid (by simp)⟩
  case round =>
    obtain ⟨k, hk, rfl, HA⟩ := hrel
    by_cases hlt : k < s.size
    · have hcell := HC.out k hlt
      have HX := HQ.out s[k]
      have hx : s.data.toList[k]? = some s[k] := Lib.data_getElem? s k hlt
      generalize hcc : s[k] = n at HX hx hcell
      have HX2 := Lib.hid HX
      have HXX := Lib.hid hx
      generalize (n.toNat : Int) = z at hcell HX2
      cases hpc : p n with
      | true =>
        rw [hpc] at HX2
        have HN := Lib.hid (all_next' hx HA.out hpc)
        clear HX hx HA hpc hcc
        go_wp2_with fail
        refine (HX2.out w).mono ?_
        rintro e w' ⟨rfl, rfl⟩
        go_wp2_with fail
        go_round
        case rel => exact ⟨k + 1, by omega, congrArg _ (wrap_s HS.out hlt), HN⟩
        case measure =>
          rw [wrap_s HS.out hlt]
          exact int_less hlt
      | false =>
        rw [hpc] at HX2
        have HN : Hid (allS s p = false) := Lib.hid (all_no' hx hpc)
        clear HX hx HA hpc hcc
        go_wp2_with fail
        refine (HX2.out w).mono ?_
        rintro e w' ⟨rfl, rfl⟩
        go_wp2_with fail
        go_ret
        rw [HN.out]
        exact ⟨rfl, rfl⟩
    · obtain rfl : k = s.size := by omega
      have hx : allS s p = true := by
        have := HA.out
        rwa [List.take_of_length_le (Nat.le_of_eq (Lib.size_eq s).symm)] at this
      have HE := Lib.hid hx
      clear hx
      go_wp2_with fail
      go_ret
      rw [HE.out]
      exact ⟨rfl, rfl⟩
theorem isName_eq {s : ByteArray} {c : UInt8} (h0 : 0 < s.size) (hc : s[0] = c) : isName s = (decide (s.size ≤ 32) && (!digitB c && allS s nameB)) := by
  have h := Lib.data_getElem? s 0 h0
  rw [hc] at h
  unfold isName
  cases hd : s.data.toList with
  | nil => rw [hd] at h; simp at h
  | cons d r =>
    rw [hd] at h
    simp at h
    subst h
    unfold allS
    rw [hd]
set_option maxHeartbeats 1000000 in
set_option maxRecDepth 100000 in
theorem name_any (s : ByteArray) (hs : s.size ≤ 140737488355328) (w : World) :
    Calls Tryd.prog 88 #[.string s] w fun e w' => e = .returned (.bool (isName s)) ∧ Below w.heap.size w w' := by
  by_cases h0 : s.size = 0
  · have hz : s = ⟨#[]⟩ := by
      apply ByteArray.ext
      exact Array.size_eq_zero_iff.1 h0
    subst hz
    have HV : Hid (isName ⟨#[]⟩ = false) := Lib.hid rfl
    go_enter Tryd.func88, Tryd.ntmps88
    go_wp2_with fail
    go_ret
    rw [HV.out]
    exact ⟨rfl, Below.refl _ _⟩
  · have hp : 0 < s.size := by omega
    obtain ⟨c, hc⟩ : ∃ c, s[0] = c := ⟨_, rfl⟩
    rw [isName_eq hp hc]
    have he : s.toList.isEmpty = false := by
      rw [Go.ByteArray.toList_eq, List.isEmpty_eq_false_iff]
      intro h
      have h2 := Lib.size_eq s
      rw [h] at h2
      exact h0 h2
    by_cases h32 : s.size ≤ 32
    · have h33 : (s.size : Int) ≤ 32 := by omega
      have HD := Lib.hid (digit_any c)
      have HA := Lib.hid (allBytes_any _ _ tells_name s w.heap.size (grownCap w s.size 0 5) (Lib.bytesWorld w 5 s) (fun j hj => by have h := Lib.bytesWorld_cell w 5 s j hj; rw [List.getD_eq_getElem?_getD, Lib.data_getElem? s j hj] at h; exact h) (by omega))
      have hrun := Lib.run_convert_string_bytes (P := Tryd.prog) w 9 74 5 s Tryd.underlying9 Tryd.underlying74 Tryd.underlying5
      have HB := Lib.hid (Lib.bytesWorld_below w 5 s)
      have HV : Hid ((decide (s.size ≤ 32) && (!digitB c && allS s nameB)) = (!digitB c && allS s nameB)) := Lib.hid (by simp [h32])
      rw [HV.out]
      generalize Lib.bytesWorld w 5 s = W at *
      generalize grownCap w s.size 0 5 = cap at *
      generalize allS s nameB = a at *
      clear HV
      go_enter Tryd.func88, Tryd.ntmps88
      go_wp2_with fail
      refine (HD.out w).mono ?_
      rintro e w' ⟨rfl, rfl⟩
      cases hd : digitB c with
      | true =>
        go_wp2_with fail
        go_ret
        exact ⟨by simp [hd], Below.refl _ _⟩
      | false =>
        go_wp2_with fail
        refine HA.out.mono ?_
        rintro e w2 ⟨rfl, rfl⟩
        go_wp2_with fail
        go_ret
        exact ⟨by simp [hd], HB.out⟩
    · have HV : Hid ((decide (s.size ≤ 32) && (!digitB c && allS s nameB)) = false) := Lib.hid (by simp [h32])
      rw [HV.out]
      have h33 : (32 : Int) < s.size := by omega
      clear hc
      go_enter Tryd.func88, Tryd.ntmps88
      go_wp2_with fail
      go_ret
      exact ⟨rfl, Below.refl _ _⟩
end Go.Proofs.YtokjmgkoifakdaaDoor
namespace Go.Proofs
open Go Go.RowKit Go.Shelf Go.Lib
shelf_lay Lays.n196 Nm 196 at Tryd as Tryd.laysValid
end Go.Proofs
namespace Go.Proofs.YtokjmgkoifakdaaDoor
set_option linter.unusedVariables false
open Go Go.RowKit Go.Shelf Pl
theorem valid_any (s : ByteArray) (w : World) (hs : s.size ≤ 16777215) (G : Gp w) :
    Calls Tryd.prog 132 #[.string s] w fun e w' => e = .returned (.bool (Lib.validD s.data.toList)) ∧ Below w.heap.size w w' :=
  Any.utf8_ValidString Tryd.laysValid s w (by omega) (G.utf w fun _ _ => rfl)
/-- May a value be? -/
def valB (v : Val) : Bool := if 1 ≤ v.kind ∧ v.kind < 4 then
    decide ((szT v.kind.toNat).2.1 ≤ v.n) && (decide (v.n ≤ (szT v.kind.toNat).2.2.1) && (decide ((v.text.size : Int) ≤ (szT v.kind.toNat).2.2.2) && Lib.validD v.text.data.toList))
  else false
theorem szT_text (k : Nat) : (szT k).2.2.2 ≤ 256 := by
  unfold szT
  split <;> decide
set_option maxHeartbeats 1000000 in
set_option maxRecDepth 100000 in
theorem fieldMay_any (nm : ByteArray) (k n : Int) (t : ByteArray) (ht : t.size ≤ 140737488355328) (w : World) (G : Gp w) :
    Calls Tryd.prog 102 #[.agg #[.string nm, .int .i64 k, .int .i64 n, .string t]] w fun e w' => e = .returned (.bool (valB ⟨k, n, t⟩)) ∧ Below w.heap.size w w' := by
  obtain ⟨r, hr⟩ : ∃ r, r = valB ⟨k, n, t⟩ := ⟨_, rfl⟩
  rw [← hr]
  have HW : Hid (∃ w2, (w.alloc (.cells #[.string nm, .int .i64 k, .int .i64 n, .string t] 56)).alloc (.cells #[.int .i64 k, .int .i64 n, .string t] 54) = w2 ∧
      w2.heap[w.heap.size + 1]? = some (.cells #[.int .i64 k, .int .i64 n, .string t] 54 (0, 0)) ∧ w2.heap.size = w.heap.size + 2 ∧ Below w.heap.size w w2) := Lib.hid (by
    refine ⟨_, rfl, ?_, by simp, (Below.alloc (Below.refl _ w) (Nat.le_refl _) _).alloc (by simp) _⟩
    have h := heap_last (w.alloc (.cells #[.string nm, .int .i64 k, .int .i64 n, .string t] 56)) (.cells #[.int .i64 k, .int .i64 n, .string t] 54)
    rw [show (w.alloc (.cells #[.string nm, .int .i64 k, .int .i64 n, .string t] 56)).heap.size = w.heap.size + 1 by simp] at h
    exact h)
  by_cases hk : 1 ≤ k ∧ k < 4
  · obtain ⟨q, hq⟩ : ∃ q : Nat, k = q := ⟨k.toNat, by omega⟩
    subst hq
    have HZ := Lib.hid (fun W (G : Gp W) => size_kind q (by omega) (by omega) W G)
    have HV := Lib.hid (fun w (h : t.size ≤ 256) (G : Gp w) => valid_any t w (by omega) G)
    have h256 := szT_text q
    have HR : Hid (r = (decide ((szT q).2.1 ≤ n) && (decide (n ≤ (szT q).2.2.1) && (decide ((t.size : Int) ≤ (szT q).2.2.2) && Lib.validD t.data.toList)))) := Lib.hid (by rw [hr]; unfold valB; rw [if_pos hk]; simp)
    generalize szT q = z at *
    obtain ⟨a, lo, hi, tx⟩ := z
    generalize Lib.validD t.data.toList = vd at *
    have HG := Lib.hid G
    clear hr hk G
    have H256 := Lib.hid h256
    clear h256
    go_enter Tryd.func102, Tryd.ntmps102
    go_wp2_with fail
    obtain ⟨w2, e2, x2, s2, b2⟩ := HW.out
    rw [e2]
    refine (HZ.out w2 (HG.out.fresh b2)).mono ?_
    rintro e w3 ⟨rfl, b3⟩
    have x3 := (b3.block _ (by omega)).trans x2
    have G3 := Lib.hid ((HG.out.fresh b2).fresh b3)
    have B3 := Lib.hid (b2.trans (b3.mono (by omega)))
    have c0 := fun o => (cells3_new x3 o).1
    have c1 := fun o => (cells3_new x3 o).2.1
    have c2 := fun o => (cells3_new x3 o).2.2
    obtain ⟨f0, f1, f2, f3⟩ := cells4 w3 (.int .i64 a) (.int .i64 lo) (.int .i64 hi) (.int .i64 tx) 146
    clear x3 x2 e2 s2 b2 b3
    by_cases h1 : lo ≤ n
    · by_cases h2 : n ≤ hi
      · by_cases h3 : (t.size : Int) ≤ tx
        · go_wp2_with fail
          refine (HV.out _ (by have := H256.out; omega) (G3.out.alloc _)).mono ?_
          rintro e w5 ⟨rfl, b5⟩
          go_wp2_with fail
          go_ret
          exact ⟨by rw [HR.out]; simp [h1, h2, h3], B3.out.trans ((Below.alloc (Below.refl _ w3) (Nat.le_refl _) _).mono B3.out.size |>.trans (b5.mono (by simp; exact Nat.le_succ_of_le B3.out.size)))⟩
        · go_wp2_with fail
          go_ret
          exact ⟨by rw [HR.out]; simp [h1, h2]; intros; omega, B3.out.alloc B3.out.size _⟩
      · go_wp2_with fail
        go_ret
        exact ⟨by rw [HR.out]; simp [h1]; intros; omega, B3.out.alloc B3.out.size _⟩
    · go_wp2_with fail
      go_ret
      exact ⟨by rw [HR.out]; simp; intros; omega, B3.out.alloc B3.out.size _⟩
  · have hk' : k < 1 ∨ 4 ≤ k := by omega
    have HR : Hid (r = false) := Lib.hid (by rw [hr]; unfold valB; rw [if_neg hk])
    have HZ := Lib.hid (fun W => size_none k hk' W)
    clear hr hk hk'
    go_enter Tryd.func102, Tryd.ntmps102
    go_wp2_with fail
    obtain ⟨w2, e2, x2, s2, b2⟩ := HW.out
    rw [e2]
    refine (HZ.out w2).mono ?_
    rintro e w3 ⟨rfl, b3⟩
    have B3 := Lib.hid (b2.trans (b3.mono (by omega)))
    clear x2 e2 s2 b2 b3
    go_wp2_with fail
    go_ret
    exact ⟨by rw [HR.out]; rfl, B3.out.alloc B3.out.size _⟩
end Go.Proofs.YtokjmgkoifakdaaDoor
namespace Go.Proofs.YtokjmgkoifakdaaDoor
set_option linter.unusedVariables false
open Go Go.RowKit Go.Shelf Pl
/-- A row of fields. -/
def FldsAt (w : World) (v : Value) (L : List Fld) : Prop :=
  (L = [] ∧ ∃ p c, v = .slice p 0 c) ∨ ∃ g off c, v = .slice (some ⟨g, off, none⟩) L.length c ∧ g < w.heap.size ∧
    ∀ W : World, W.heap[g]? = w.heap[g]? → ∀ j (h : j < L.length), W.cell? ⟨g, off + j * 4, none⟩ = some (.string (L[j]).name) ∧ W.cell? ⟨g, off + j * 4 + 1, none⟩ = some (.int .i64 (L[j]).val.kind) ∧
      W.cell? ⟨g, off + j * 4 + 2, none⟩ = some (.int .i64 (L[j]).val.n) ∧ W.cell? ⟨g, off + j * 4 + 3, none⟩ = some (.string (L[j]).val.text)
/-- A row of vectors: where each one's numbers lie, S tells. -/
def VecsAt (w : World) (v : Value) (L : List Vec) : Prop :=
  (L = [] ∧ ∃ p c, v = .slice p 0 c) ∨ ∃ (g off c : Nat) (S : Nat → Value), v = .slice (some ⟨g, off, none⟩) L.length c ∧ g < w.heap.size ∧
    (∀ W : World, W.heap[g]? = w.heap[g]? → ∀ j (h : j < L.length), W.cell? ⟨g, off + j * 2, none⟩ = some (.string (L[j]).name) ∧ W.cell? ⟨g, off + j * 2 + 1, none⟩ = some (S j)) ∧
    ∀ j (h : j < L.length), IntsAt w (S j) (L[j]).v
theorem IntsAt.form {w : World} {v : Value} {L : List Int} (h : IntsAt w v L) : ∃ p c, v = .slice p L.length c ∧ ∀ g, v.ownBlock = some g → L ≠ [] → g < w.heap.size := by
  rcases h with ⟨rfl, p, c, rfl⟩ | ⟨g, off, c, rfl, hg, _⟩
  · exact ⟨p, c, rfl, fun g _ h => absurd rfl h⟩
  · exact ⟨_, c, rfl, fun k hk _ => by simp [Value.ownBlock] at hk; subst hk; exact hg⟩
theorem IntsAt.below {w w' : World} {v : Value} {L : List Int} (h : IntsAt w v L) (g : Below w.heap.size w w') : IntsAt w' v L := by
  rcases h with h | ⟨b, off, c, rfl, hb, hc⟩
  · exact .inl h
  · exact .inr ⟨b, off, c, rfl, Nat.lt_of_lt_of_le hb g.size, fun W hW => hc W (hW.trans (g.block b hb))⟩
theorem FldsAt.below {w w' : World} {v : Value} {L : List Fld} (h : FldsAt w v L) (g : Below w.heap.size w w') : FldsAt w' v L := by
  rcases h with h | ⟨b, off, c, rfl, hb, hc⟩
  · exact .inl h
  · exact .inr ⟨b, off, c, rfl, Nat.lt_of_lt_of_le hb g.size, fun W hW => hc W (hW.trans (g.block b hb))⟩
theorem VecsAt.below {w w' : World} {v : Value} {L : List Vec} (h : VecsAt w v L) (g : Below w.heap.size w w') : VecsAt w' v L := by
  rcases h with h | ⟨b, off, c, S, rfl, hb, hc, hi⟩
  · exact .inl h
  · exact .inr ⟨b, off, c, S, rfl, Nat.lt_of_lt_of_le hb g.size, fun W hW => hc W (hW.trans (g.block b hb)), fun j h => (hi j h).below g⟩
theorem FldsAt.form {w : World} {v : Value} {L : List Fld} (h : FldsAt w v L) : ∃ p c, v = .slice p L.length c := by
  rcases h with ⟨rfl, p, c, rfl⟩ | ⟨g, off, c, rfl, hg, _⟩
  · exact ⟨p, c, rfl⟩
  · exact ⟨_, c, rfl⟩
theorem VecsAt.form {w : World} {v : Value} {L : List Vec} (h : VecsAt w v L) : ∃ p c, v = .slice p L.length c := by
  rcases h with ⟨rfl, p, c, rfl⟩ | ⟨g, off, c, S, rfl, hg, _⟩
  · exact ⟨p, c, rfl⟩
  · exact ⟨_, c, rfl⟩
/-- Room for every text. -/
def Room : Nat := 140737488355328
def FldsOk (L : List Fld) : Prop := L.length ≤ Room ∧ ∀ x ∈ L, x.name.size ≤ Room ∧ x.val.text.size ≤ Room
def VecsOk (L : List Vec) : Prop := L.length ≤ Room ∧ ∀ x ∈ L, x.name.size ≤ Room ∧ x.v.length ≤ Room
theorem room_len {n : Nat} (h : n ≤ Room) : n ≤ maxLen := by unfold Room at h; unfold maxLen; omega
theorem field_enters : ∀ args w, (callFunc 102 args).run Tryd.prog w = .ok (.enter 102 args) w := enters_of Tryd.func102 (by kernel_rfl) rfl
set_option maxHeartbeats 1000000 in
set_option maxRecDepth 100000 in
theorem allFields_any (L : List Fld) (v : Value) (w : World) (G : Gp w) (h : FldsAt w v L) (hl : FldsOk L) :
    Calls Tryd.prog 46 #[v, .func (.func 102) #[] #[]] w fun e w' => e = .returned (.bool (L.all fun x => valB x.val)) ∧ Below w.heap.size w w' := by
  have hg := field_enters
  have HS := Lib.hid (room_len hl.1)
  have HL := Lib.hid hl
  have HG := Lib.hid G
  clear hl G
  rcases h with ⟨rfl, q, c, rfl⟩ | ⟨b, off, c, rfl, hb, hc⟩
  · go_enter Tryd.func46, Tryd.ntmps46
    go_wp2
    go_loop [9] (fun i => i = .int .i64 0) (fun _ => 0)
    case atStart => rfl
    case round =>
      subst hrel
      go_wp2
      go_ret
      exact ⟨rfl, Below.refl _ _⟩
  · go_enter Tryd.func46, Tryd.ntmps46
    have HC := Lib.hid hc
    have HB := Lib.hid hb
    clear hc hb
    go_wp2
    go_loopw [9] (fun i wr => ∃ k : Nat, k ≤ L.length ∧ i = .int .i64 k ∧ Below w.heap.size w wr ∧ Hid ((L.take k).all (fun x => valB x.val) = true)) (fun i _ => L.length - (intOf i).toNat)
    case atStart => exact ⟨0, Nat.zero_le _, rfl, Below.refl _ _, Lib.hid (by simp)⟩
    case round =>
      obtain ⟨k, hk, rfl, hbw, HA⟩ := hrel
      have HBW := Lib.hid hbw
      clear hbw
      by_cases hlt : k < L.length
      · obtain ⟨c0, c1, c2, c3⟩ := HC.out wr (HBW.out.block b HB.out) k hlt
        have hx : L[k]? = some L[k] := List.getElem?_eq_getElem hlt
        have hsz := (HL.out.2 _ (List.getElem_mem hlt)).2
        generalize hcc : L[k] = x at hx c0 c1 c2 c3 hsz
        obtain ⟨nm, ⟨kd, n, t⟩⟩ := x
        simp only at c0 c1 c2 c3 hsz
        have HX := Lib.hid (fun W (G : Gp W) => fieldMay_any nm kd n t hsz W G)
        obtain ⟨r, hr⟩ : ∃ r, r = valB ⟨kd, n, t⟩ := ⟨_, rfl⟩
        rw [← hr] at HX
        have z := heap_last wr (.cells #[.string nm, .int .i64 kd, .int .i64 n, .string t] 56)
        obtain ⟨d0, d1, d2, d3⟩ := cells4_of z
        have GW := Lib.hid (HG.out.fresh HBW.out)
        cases r with
        | true =>
          have HN := Lib.hid (all_next' (p := fun x => valB x.val) hx HA.out hr.symm)
          clear hx HA hr hcc z hsz
          go_wp2_with fail
          refine (HX.out _ (GW.out.alloc _)).mono ?_
          rintro e w2 ⟨rfl, b2⟩
          have HB2 := Lib.hid (HBW.out.trans ((Below.alloc (Below.refl _ wr) (Nat.le_refl _) _).mono HBW.out.size |>.trans (b2.mono (by simp; exact Nat.le_succ_of_le HBW.out.size))))
          clear b2 d0 d1 d2 d3 c0 c1 c2 c3
          go_wp2_with fail
          go_roundw
          case rel => exact ⟨k + 1, by omega, congrArg _ (wrap_s HS.out hlt), HB2.out, HN⟩
          case measure =>
            rw [wrap_s HS.out hlt]
            exact int_less hlt
        | false =>
          have HN : Hid (L.all (fun x => valB x.val) = false) := Lib.hid (all_no' hx hr.symm)
          clear hx HA hr hcc z hsz
          go_wp2_with fail
          refine (HX.out _ (GW.out.alloc _)).mono ?_
          rintro e w2 ⟨rfl, b2⟩
          have HB2 := Lib.hid (HBW.out.trans ((Below.alloc (Below.refl _ wr) (Nat.le_refl _) _).mono HBW.out.size |>.trans (b2.mono (by simp; exact Nat.le_succ_of_le HBW.out.size))))
          clear b2 d0 d1 d2 d3 c0 c1 c2 c3
          go_wp2_with fail
          go_ret
          rw [HN.out]
          exact ⟨rfl, HB2.out⟩
      · obtain rfl : k = L.length := by omega
        have hx : L.all (fun x => valB x.val) = true := by have := HA.out; rwa [List.take_length] at this
        have HE := Lib.hid hx
        clear hx
        go_wp2_with fail
        go_ret
        rw [HE.out]
        exact ⟨rfl, HBW.out⟩
end Go.Proofs.YtokjmgkoifakdaaDoor
namespace Go.Proofs.YtokjmgkoifakdaaDoor
set_option linter.unusedVariables false
open Go Go.RowKit Go.Shelf Pl
def vecB (L : List Int) : Bool := decide (1 ≤ (L.length : Int)) && (decide ((L.length : Int) ≤ 64) && L.all partB)
set_option maxHeartbeats 1000000 in
set_option maxRecDepth 100000 in
theorem vecMay_any (nm : ByteArray) (v : Value) (L : List Int) (w : World) (h : IntsAt w v L) (hl : L.length ≤ Room) :
    Calls Tryd.prog 104 #[.agg #[.string nm, v]] w fun e w' => e = .returned (.bool (vecB L)) ∧ Below w.heap.size w w' := by
  have HI := Lib.hid (fun W (g : Below w.heap.size w W) => allInts_any _ _ tells_part L v W (h.below g) (room_len hl))
  obtain ⟨p, c, rfl, -⟩ := h.form
  clear h hl
  obtain ⟨r, hr⟩ : ∃ r, r = vecB L := ⟨_, rfl⟩
  rw [← hr]
  unfold vecB at hr
  have HR := Lib.hid hr
  generalize L.all partB = a at *
  clear hr
  have z := heap_last w (.cells #[.string nm, .slice p L.length c] 52)
  have d0 : (w.alloc (.cells #[.string nm, .slice p L.length c] 52)).cell? ⟨w.heap.size, 0, none⟩ = some (.string nm) := by rw [Lib.cell_of_heap z]; rfl
  have d1 : (w.alloc (.cells #[.string nm, .slice p L.length c] 52)).cell? ⟨w.heap.size, 1, none⟩ = some (.slice p L.length c) := by rw [Lib.cell_of_heap z]; rfl
  have HB := Lib.hid (Below.alloc (Below.refl _ w) (Nat.le_refl _) (.cells #[.string nm, .slice p L.length c] 52))
  clear z
  generalize L.length = m at *
  go_enter Tryd.func104, Tryd.ntmps104
  by_cases h1 : (1 : Int) ≤ m
  · by_cases h2 : (m : Int) ≤ 64
    · go_wp2_with fail
      refine (HI.out _ HB.out).mono ?_
      rintro e w2 ⟨rfl, rfl⟩
      go_wp2_with fail
      go_ret
      exact ⟨by rw [HR.out]; simp [h1, h2], HB.out⟩
    · go_wp2_with fail
      go_ret
      exact ⟨by rw [HR.out]; simp [h1]; intros; omega, HB.out⟩
  · go_wp2_with fail
    go_ret
    exact ⟨by rw [HR.out]; simp; intros; omega, HB.out⟩
theorem vec_enters : ∀ args w, (callFunc 104 args).run Tryd.prog w = .ok (.enter 104 args) w := enters_of Tryd.func104 (by kernel_rfl) rfl
set_option maxHeartbeats 1000000 in
set_option maxRecDepth 100000 in
theorem allVecs_any (L : List Vec) (v : Value) (w : World) (h : VecsAt w v L) (hl : VecsOk L) :
    Calls Tryd.prog 43 #[v, .func (.func 104) #[] #[]] w fun e w' => e = .returned (.bool (L.all fun x => vecB x.v)) ∧ Below w.heap.size w w' := by
  have hg := vec_enters
  have HS := Lib.hid (room_len hl.1)
  have HL := Lib.hid hl
  clear hl
  rcases h with ⟨rfl, q, c, rfl⟩ | ⟨b, off, c, S, rfl, hb, hc, hi⟩
  · go_enter Tryd.func43, Tryd.ntmps43
    go_wp2
    go_loop [9] (fun i => i = .int .i64 0) (fun _ => 0)
    case atStart => rfl
    case round =>
      subst hrel
      go_wp2
      go_ret
      exact ⟨rfl, Below.refl _ _⟩
  · go_enter Tryd.func43, Tryd.ntmps43
    have HC := Lib.hid hc
    have HB := Lib.hid hb
    have HI := Lib.hid hi
    clear hc hb hi
    go_wp2
    go_loopw [9] (fun i wr => ∃ k : Nat, k ≤ L.length ∧ i = .int .i64 k ∧ Below w.heap.size w wr ∧ Hid ((L.take k).all (fun x => vecB x.v) = true)) (fun i _ => L.length - (intOf i).toNat)
    case atStart => exact ⟨0, Nat.zero_le _, rfl, Below.refl _ _, Lib.hid (by simp)⟩
    case round =>
      obtain ⟨k, hk, rfl, hbw, HA⟩ := hrel
      have HBW := Lib.hid hbw
      clear hbw
      by_cases hlt : k < L.length
      · obtain ⟨c0, c1⟩ := HC.out wr (HBW.out.block b HB.out) k hlt
        have hx : L[k]? = some L[k] := List.getElem?_eq_getElem hlt
        have hsz := (HL.out.2 _ (List.getElem_mem hlt)).2
        have hin := ((HI.out k hlt).below HBW.out)
        generalize hcc : L[k] = x at hx c0 c1 hsz hin
        obtain ⟨nm, ns⟩ := x
        simp only at c0 c1 hsz hin
        generalize S k = sv at *
        obtain ⟨p, cp, rfl, -⟩ := hin.form
        have z := heap_last wr (.cells #[.string nm, .slice p ns.length cp] 52)
        have ba : Below wr.heap.size wr (wr.alloc (.cells #[.string nm, .slice p ns.length cp] 52)) := Below.alloc (Below.refl _ wr) (Nat.le_refl _) _
        have HX := Lib.hid (vecMay_any nm _ ns _ (hin.below ba) hsz)
        obtain ⟨r, hr⟩ : ∃ r, r = vecB ns := ⟨_, rfl⟩
        rw [← hr] at HX
        have d0 : (wr.alloc (.cells #[.string nm, .slice p ns.length cp] 52)).cell? ⟨wr.heap.size, 0, none⟩ = some (.string nm) := by rw [Lib.cell_of_heap z]; rfl
        have d1 : (wr.alloc (.cells #[.string nm, .slice p ns.length cp] 52)).cell? ⟨wr.heap.size, 1, none⟩ = some (.slice p ns.length cp) := by rw [Lib.cell_of_heap z]; rfl
        cases r with
        | true =>
          have HN := Lib.hid (all_next' (p := fun x => vecB x.v) hx HA.out hr.symm)
          clear hx HA hr hcc z hsz hin ba
          go_wp2_with fail
          refine HX.out.mono ?_
          rintro e w2 ⟨rfl, b2⟩
          have HB2 := Lib.hid (HBW.out.trans ((Below.alloc (Below.refl _ wr) (Nat.le_refl _) _).mono HBW.out.size |>.trans (b2.mono (by simp; exact Nat.le_succ_of_le HBW.out.size))))
          clear b2 d0 d1 c0 c1
          go_wp2_with fail
          go_roundw
          case rel => exact ⟨k + 1, by omega, congrArg _ (wrap_s HS.out hlt), HB2.out, HN⟩
          case measure =>
            rw [wrap_s HS.out hlt]
            exact int_less hlt
        | false =>
          have HN : Hid (L.all (fun x => vecB x.v) = false) := Lib.hid (all_no' hx hr.symm)
          clear hx HA hr hcc z hsz hin ba
          go_wp2_with fail
          refine HX.out.mono ?_
          rintro e w2 ⟨rfl, b2⟩
          have HB2 := Lib.hid (HBW.out.trans ((Below.alloc (Below.refl _ wr) (Nat.le_refl _) _).mono HBW.out.size |>.trans (b2.mono (by simp; exact Nat.le_succ_of_le HBW.out.size))))
          clear b2 d0 d1 c0 c1
          go_wp2_with fail
          go_ret
          rw [HN.out]
          exact ⟨rfl, HB2.out⟩
      · obtain rfl : k = L.length := by omega
        have hx : L.all (fun x => vecB x.v) = true := by have := HA.out; rwa [List.take_length] at this
        have HE := Lib.hid hx
        clear hx
        go_wp2_with fail
        go_ret
        rw [HE.out]
        exact ⟨rfl, HBW.out⟩
end Go.Proofs.YtokjmgkoifakdaaDoor
namespace Go.Proofs.YtokjmgkoifakdaaDoor
set_option linter.unusedVariables false
open Go Go.RowKit Go.Shelf Pl
/-- Names that are names, each greater than the one before. -/
def rises : Nm → List Nm → Bool
  | _, [] => true
  | la, x :: r => isName x && (!(Op.bytesLess x.toList la.toList || x.toList == la.toList) && rises x r)
def outl (ns : List Nm) (least most : Nat) : Bool := decide ((least : Int) ≤ (ns.length : Int)) && (decide ((ns.length : Int) ≤ most) && rises ⟨#[]⟩ ns)
theorem rises_at {la x : Nm} {ns : List Nm} {k : Nat} (hx : ns[k]? = some x) : rises la (ns.drop k) = (isName x && (!(Op.bytesLess x.toList la.toList || x.toList == la.toList) && rises x (ns.drop (k + 1)))) := by
  have hk : k < ns.length := (List.getElem?_eq_some_iff.1 hx).1
  have e := (List.getElem?_eq_some_iff.1 hx).2
  rw [List.drop_eq_getElem_cons hk, e]
  rfl
set_option maxHeartbeats 1000000 in
theorem vecName_any (nm : ByteArray) (p : Option Addr) (n c : Nat) (w : World) :
    Calls Tryd.prog 93 #[.agg #[.string nm, .slice p n c]] w fun e w' => e = .returned (.string nm) ∧ Below w.heap.size w w' := by
  have z := heap_last w (.cells #[.string nm, .slice p n c] 52)
  have d0 : (w.alloc (.cells #[.string nm, .slice p n c] 52)).cell? ⟨w.heap.size, 0, none⟩ = some (.string nm) := by rw [Lib.cell_of_heap z]; rfl
  clear z
  go_enter Tryd.func93, Tryd.ntmps93
  go_wp2_with fail
  go_ret
  exact ⟨rfl, Below.alloc (Below.refl _ w) (Nat.le_refl _) _⟩
set_option maxHeartbeats 1000000 in
theorem fieldName_any (nm t : ByteArray) (k n : Int) (w : World) :
    Calls Tryd.prog 95 #[.agg #[.string nm, .int .i64 k, .int .i64 n, .string t]] w fun e w' => e = .returned (.string nm) ∧ Below w.heap.size w w' := by
  obtain ⟨d0, d1, d2, d3⟩ := cells4_of (heap_last w (.cells #[.string nm, .int .i64 k, .int .i64 n, .string t] 56))
  go_enter Tryd.func95, Tryd.ntmps95
  go_wp2_with fail
  go_ret
  exact ⟨rfl, Below.alloc (Below.refl _ w) (Nat.le_refl _) _⟩
theorem vname_enters : ∀ args w, (callFunc 93 args).run Tryd.prog w = .ok (.enter 93 args) w := enters_of Tryd.func93 (by kernel_rfl) rfl
theorem fname_enters : ∀ args w, (callFunc 95 args).run Tryd.prog w = .ok (.enter 95 args) w := enters_of Tryd.func95 (by kernel_rfl) rfl
set_option maxHeartbeats 1000000 in
set_option maxRecDepth 100000 in
theorem outlVecs_any (L : List Vec) (v : Value) (least most : Nat) (w : World) (h : VecsAt w v L) (hl : VecsOk L) :
    Calls Tryd.prog 92 #[v, .func (.func 93) #[] #[], .int .i64 least, .int .i64 most] w fun e w' => e = .returned (.bool (outl (L.map fun x => x.name) least most)) ∧ Below w.heap.size w w' := by
  have hg := vname_enters
  have HS := Lib.hid (room_len hl.1)
  have HL := Lib.hid hl
  clear hl
  obtain ⟨r, hr⟩ : ∃ r, r = outl (L.map fun x => x.name) least most := ⟨_, rfl⟩
  rw [← hr]
  unfold outl at hr
  rw [List.length_map] at hr
  have HR := Lib.hid hr
  clear hr
  by_cases h1 : (least : Int) ≤ (L.length : Int)
  · by_cases h2 : (L.length : Int) ≤ most
    · have HR2 : Hid (r = rises ⟨#[]⟩ (L.map fun x => x.name)) := Lib.hid (by rw [HR.out]; simp [h1, h2])
      clear HR
      rcases h with ⟨rfl, q, c, rfl⟩ | ⟨b, off, c, S, rfl, hb, hc, hi⟩
      · have HE : Hid (r = true) := Lib.hid (by rw [HR2.out]; rfl)
        obtain rfl : least = 0 := by simpa using h1
        have h4 : (0 : Int) ≤ most := by omega
        clear h1 h2
        go_enter Tryd.func92, Tryd.ntmps92
        go_wp2_with fail
        go_loop [25] (fun i => i = .int .i64 0) (fun _ => 0)
        case atStart => rfl
        case round =>
          subst hrel
          go_wp2
          go_ret
          rw [HE.out]
          exact ⟨rfl, Below.refl _ _⟩
      · have HC := Lib.hid hc
        have HB := Lib.hid hb
        have HI := Lib.hid hi
        clear hc hb hi
        have h5 : ¬ L.length < least := by omega
        have h6 : ¬ most < L.length := by omega
        go_enter Tryd.func92, Tryd.ntmps92
        go_wp2_with fail
        go_loopw [9, 25] (fun la i wr => ∃ (k : Nat) (x : Nm), k ≤ L.length ∧ i = .int .i64 k ∧ la = .string x ∧ Below w.heap.size w wr ∧ Hid (r = rises x ((L.map fun x => x.name).drop k))) (fun _ i _ => L.length - (intOf i).toNat)
        case atStart => exact ⟨0, _, Nat.zero_le _, rfl, rfl, Below.refl _ _, HR2⟩
        case round =>
          obtain ⟨k, la, hk, rfl, rfl, hbw, HA⟩ := hrel
          have HBW := Lib.hid hbw
          clear hbw
          by_cases hlt : k < L.length
          · obtain ⟨c0, c1⟩ := HC.out wr (HBW.out.block b HB.out) k hlt
            have hx : L[k]? = some L[k] := List.getElem?_eq_getElem hlt
            have hsz := (HL.out.2 _ (List.getElem_mem hlt)).1
            have hin := (HI.out k hlt).form
            generalize hcc : L[k] = x at hx c0 c1 hsz hin
            obtain ⟨nm, ns⟩ := x
            simp only at c0 c1 hsz hin
            generalize S k = sv at *
            obtain ⟨p, cp, rfl, -⟩ := hin
            have hN : (L.map fun x => x.name)[k]? = some nm := by rw [List.getElem?_map, hx]; rfl
            have HA2 := Lib.hid (HA.out.trans (rises_at (la := la) hN))
            have HX := Lib.hid (fun W => vecName_any nm p ns.length cp W)
            have HY := Lib.hid (fun W => name_any nm hsz W)
            have z := heap_last wr (.cells #[.string nm, .slice p ns.length cp] 52)
            have d0 : (wr.alloc (.cells #[.string nm, .slice p ns.length cp] 52)).cell? ⟨wr.heap.size, 0, none⟩ = some (.string nm) := by rw [Lib.cell_of_heap z]; rfl
            have d1 : (wr.alloc (.cells #[.string nm, .slice p ns.length cp] 52)).cell? ⟨wr.heap.size, 1, none⟩ = some (.slice p ns.length cp) := by rw [Lib.cell_of_heap z]; rfl
            clear hx hN HA hcc z hsz
            go_wp2_with fail
            refine (HX.out _).mono ?_
            rintro e w2 ⟨rfl, b2⟩
            have HB2 := Lib.hid (HBW.out.trans ((Below.alloc (Below.refl _ wr) (Nat.le_refl _) _).mono HBW.out.size |>.trans (b2.mono (by simp; exact Nat.le_succ_of_le HBW.out.size))))
            clear b2 d0 d1 c0 c1
            go_wp2_with fail
            refine (HY.out w2).mono ?_
            rintro e w3 ⟨rfl, b3⟩
            have HB3 := Lib.hid (HB2.out.trans (b3.mono HB2.out.size))
            clear b3
            cases ha : isName nm with
            | true =>
              cases hbl : Op.bytesLess nm.toList la.toList with
              | true =>
                have HN := Lib.hid (HA2.out.trans (by rw [ha, hbl]; rfl : _ = false))
                go_wp2_with fail
                go_ret
                rw [HN.out]
                exact ⟨rfl, HB3.out⟩
              | false =>
                cases hbe : nm.toList == la.toList with
                | true =>
                  have HN := Lib.hid (HA2.out.trans (by rw [ha, hbl, hbe]; rfl : _ = false))
                  go_wp2_with fail
                  go_ret
                  rw [HN.out]
                  exact ⟨rfl, HB3.out⟩
                | false =>
                  have HN := Lib.hid (HA2.out.trans (by rw [ha, hbl, hbe]; rfl : _ = rises nm ((L.map fun x => x.name).drop (k + 1))))
                  go_wp2_with fail
                  go_roundw
                  case rel =>
                    exact ⟨k + 1, nm, by omega, congrArg _ (wrap_s HS.out hlt), rfl, HB3.out, HN⟩
                  case measure =>
                    rw [wrap_s HS.out hlt]
                    exact int_less hlt
            | false =>
              go_wp2_with fail
              go_ret
              rw [HA2.out, ha]
              exact ⟨rfl, HB3.out⟩
          · obtain rfl : k = L.length := by omega
            have HE : Hid (r = true) := Lib.hid (by rw [HA.out, List.drop_of_length_le (by simp)]; rfl)
            go_wp2_with fail
            go_ret
            rw [HE.out]
            exact ⟨rfl, HBW.out⟩
    · have HN : Hid (r = false) := Lib.hid (by rw [HR.out]; simp [h2])
      obtain ⟨p, c, rfl⟩ := h.form
      clear h
      have h3 : (most : Int) < L.length := by omega
      go_enter Tryd.func92, Tryd.ntmps92
      go_wp2_with fail
      go_ret
      rw [HN.out]
      exact ⟨rfl, Below.refl _ _⟩
  · have HN : Hid (r = false) := Lib.hid (by rw [HR.out]; simp [h1])
    obtain ⟨p, c, rfl⟩ := h.form
    clear h
    have h3 : (L.length : Int) < least := by omega
    go_enter Tryd.func92, Tryd.ntmps92
    go_wp2_with fail
    go_ret
    rw [HN.out]
    exact ⟨rfl, Below.refl _ _⟩
set_option maxHeartbeats 1000000 in
set_option maxRecDepth 100000 in
theorem outlFlds_any (L : List Fld) (v : Value) (least most : Nat) (w : World) (h : FldsAt w v L) (hl : FldsOk L) :
    Calls Tryd.prog 94 #[v, .func (.func 95) #[] #[], .int .i64 least, .int .i64 most] w fun e w' => e = .returned (.bool (outl (L.map fun x => x.name) least most)) ∧ Below w.heap.size w w' := by
  have hg := fname_enters
  have HS := Lib.hid (room_len hl.1)
  have HL := Lib.hid hl
  clear hl
  obtain ⟨r, hr⟩ : ∃ r, r = outl (L.map fun x => x.name) least most := ⟨_, rfl⟩
  rw [← hr]
  unfold outl at hr
  rw [List.length_map] at hr
  have HR := Lib.hid hr
  clear hr
  by_cases h1 : (least : Int) ≤ (L.length : Int)
  · by_cases h2 : (L.length : Int) ≤ most
    · have HR2 : Hid (r = rises ⟨#[]⟩ (L.map fun x => x.name)) := Lib.hid (by rw [HR.out]; simp [h1, h2])
      clear HR
      rcases h with ⟨rfl, q, c, rfl⟩ | ⟨b, off, c, rfl, hb, hc⟩
      · have HE : Hid (r = true) := Lib.hid (by rw [HR2.out]; rfl)
        obtain rfl : least = 0 := by simpa using h1
        have h4 : (0 : Int) ≤ most := by omega
        clear h1 h2
        go_enter Tryd.func94, Tryd.ntmps94
        go_wp2_with fail
        go_loop [25] (fun i => i = .int .i64 0) (fun _ => 0)
        case atStart => rfl
        case round =>
          subst hrel
          go_wp2
          go_ret
          rw [HE.out]
          exact ⟨rfl, Below.refl _ _⟩
      · have HC := Lib.hid hc
        have HB := Lib.hid hb
        clear hc hb
        have h5 : ¬ L.length < least := by omega
        have h6 : ¬ most < L.length := by omega
        go_enter Tryd.func94, Tryd.ntmps94
        go_wp2_with fail
        go_loopw [9, 25] (fun la i wr => ∃ (k : Nat) (x : Nm), k ≤ L.length ∧ i = .int .i64 k ∧ la = .string x ∧ Below w.heap.size w wr ∧ Hid (r = rises x ((L.map fun x => x.name).drop k))) (fun _ i _ => L.length - (intOf i).toNat)
        case atStart => exact ⟨0, _, Nat.zero_le _, rfl, rfl, Below.refl _ _, HR2⟩
        case round =>
          obtain ⟨k, la, hk, rfl, rfl, hbw, HA⟩ := hrel
          have HBW := Lib.hid hbw
          clear hbw
          by_cases hlt : k < L.length
          · obtain ⟨c0, c1, c2, c3⟩ := HC.out wr (HBW.out.block b HB.out) k hlt
            have hx : L[k]? = some L[k] := List.getElem?_eq_getElem hlt
            have hsz := (HL.out.2 _ (List.getElem_mem hlt)).1
            generalize hcc : L[k] = x at hx c0 c1 c2 c3 hsz
            obtain ⟨nm, ⟨kd, n, t⟩⟩ := x
            simp only at c0 c1 c2 c3 hsz
            have hN : (L.map fun x => x.name)[k]? = some nm := by rw [List.getElem?_map, hx]; rfl
            have HA2 := Lib.hid (HA.out.trans (rises_at (la := la) hN))
            have HX := Lib.hid (fun W => fieldName_any nm t kd n W)
            have HY := Lib.hid (fun W => name_any nm hsz W)
            have z := heap_last wr (.cells #[.string nm, .int .i64 kd, .int .i64 n, .string t] 56)
            obtain ⟨d0, d1, d2, d3⟩ := cells4_of z
            clear hx hN HA hcc z hsz
            go_wp2_with fail
            refine (HX.out _).mono ?_
            rintro e w2 ⟨rfl, b2⟩
            have HB2 := Lib.hid (HBW.out.trans ((Below.alloc (Below.refl _ wr) (Nat.le_refl _) _).mono HBW.out.size |>.trans (b2.mono (by simp; exact Nat.le_succ_of_le HBW.out.size))))
            clear b2 d0 d1 d2 d3 c0 c1 c2 c3
            go_wp2_with fail
            refine (HY.out w2).mono ?_
            rintro e w3 ⟨rfl, b3⟩
            have HB3 := Lib.hid (HB2.out.trans (b3.mono HB2.out.size))
            clear b3
            cases ha : isName nm with
            | true =>
              cases hbl : Op.bytesLess nm.toList la.toList with
              | true =>
                have HN := Lib.hid (HA2.out.trans (by rw [ha, hbl]; rfl : _ = false))
                go_wp2_with fail
                go_ret
                rw [HN.out]
                exact ⟨rfl, HB3.out⟩
              | false =>
                cases hbe : nm.toList == la.toList with
                | true =>
                  have HN := Lib.hid (HA2.out.trans (by rw [ha, hbl, hbe]; rfl : _ = false))
                  go_wp2_with fail
                  go_ret
                  rw [HN.out]
                  exact ⟨rfl, HB3.out⟩
                | false =>
                  have HN := Lib.hid (HA2.out.trans (by rw [ha, hbl, hbe]; rfl : _ = rises nm ((L.map fun x => x.name).drop (k + 1))))
                  go_wp2_with fail
                  go_roundw
                  case rel =>
                    exact ⟨k + 1, nm, by omega, congrArg _ (wrap_s HS.out hlt), rfl, HB3.out, HN⟩
                  case measure =>
                    rw [wrap_s HS.out hlt]
                    exact int_less hlt
            | false =>
              go_wp2_with fail
              go_ret
              rw [HA2.out, ha]
              exact ⟨rfl, HB3.out⟩
          · obtain rfl : k = L.length := by omega
            have HE : Hid (r = true) := Lib.hid (by rw [HA.out, List.drop_of_length_le (by simp)]; rfl)
            go_wp2_with fail
            go_ret
            rw [HE.out]
            exact ⟨rfl, HBW.out⟩
    · have HN : Hid (r = false) := Lib.hid (by rw [HR.out]; simp [h2])
      obtain ⟨p, c, rfl⟩ := h.form
      clear h
      have h3 : (most : Int) < L.length := by omega
      go_enter Tryd.func94, Tryd.ntmps94
      go_wp2_with fail
      go_ret
      rw [HN.out]
      exact ⟨rfl, Below.refl _ _⟩
  · have HN : Hid (r = false) := Lib.hid (by rw [HR.out]; simp [h1])
    obtain ⟨p, c, rfl⟩ := h.form
    clear h
    have h3 : (L.length : Int) < least := by omega
    go_enter Tryd.func94, Tryd.ntmps94
    go_wp2_with fail
    go_ret
    rw [HN.out]
    exact ⟨rfl, Below.refl _ _⟩
end Go.Proofs.YtokjmgkoifakdaaDoor
namespace Go.Proofs.YtokjmgkoifakdaaDoor
set_option linter.unusedVariables false
open Go Go.RowKit Go.Shelf Pl
def maxId : Int := 4503599627370496
def vNames (L : List Vec) : List Nm := L.map fun x => x.name
def fNames (L : List Fld) : List Nm := L.map fun x => x.name
def idB (i : Int) : Bool := decide (1 ≤ i) && decide (i ≤ maxId)
def ptOutl (p : Pt) : Bool := idB p.id && (outl (vNames p.vecs) 1 4 && outl (fNames p.flds) 0 16)
def ptMay (p : Pt) : Bool := ptOutl p && ((p.vecs.all fun x => vecB x.v) && p.flds.all fun x => valB x.val)
theorem cells3 (w : World) (a b c : Value) (T : TypeId) : (w.alloc (.cells #[a, b, c] T)).cell? ⟨w.heap.size, 0, none⟩ = some a ∧ (w.alloc (.cells #[a, b, c] T)).cell? ⟨w.heap.size, 1, none⟩ = some b ∧
    (w.alloc (.cells #[a, b, c] T)).cell? ⟨w.heap.size, 2, none⟩ = some c := cells3_of (heap_last w (.cells #[a, b, c] T))
theorem fresh_alloc (w : World) (o : Obj) : Below w.heap.size w (w.alloc o) := Below.alloc (Below.refl _ w) (Nat.le_refl _) o
set_option maxHeartbeats 1000000 in
set_option maxRecDepth 100000 in
theorem ptOutl_any (i : Int) (vv fv : Value) (V : List Vec) (F : List Fld) (w : World) (hv : VecsAt w vv V) (hf : FldsAt w fv F) (kv : VecsOk V) (kf : FldsOk F) :
    Calls Tryd.prog 42 #[.agg #[.int .i64 i, vv, fv]] w fun e w' => e = .returned (.bool (ptOutl ⟨i, V, F⟩)) ∧ Below w.heap.size w w' := by
  have HV := Lib.hid (fun W (g : Below w.heap.size w W) => outlVecs_any V vv 1 4 W (hv.below g) kv)
  have HF := Lib.hid (fun W (g : Below w.heap.size w W) => outlFlds_any F fv 0 16 W (hf.below g) kf)
  obtain ⟨pv, cv, rfl⟩ := hv.form
  obtain ⟨pf, cf, rfl⟩ := hf.form
  clear hv hf kv kf
  obtain ⟨r, hr⟩ : ∃ r, r = ptOutl ⟨i, V, F⟩ := ⟨_, rfl⟩
  rw [← hr]
  unfold ptOutl idB vNames fNames maxId at hr
  have HR := Lib.hid hr
  clear hr
  generalize (outl (V.map fun x => x.name) 1 4) = a at *
  generalize (outl (F.map fun x => x.name) 0 16) = b at *
  generalize V.length = nv at *
  generalize F.length = nf at *
  obtain ⟨d0, d1, d2⟩ := cells3 w (.int .i64 i) (.slice pv nv cv) (.slice pf nf cf) 29
  have HB := Lib.hid (fresh_alloc w (.cells #[.int .i64 i, .slice pv nv cv, .slice pf nf cf] 29))
  go_enter Tryd.func42, Tryd.ntmps42
  by_cases h1 : (1 : Int) ≤ i
  · by_cases h2 : i ≤ 4503599627370496
    · go_wp2_with fail
      refine (HV.out _ HB.out).mono ?_
      rintro e w2 ⟨rfl, b2⟩
      have HB2 := Lib.hid (HB.out.trans (b2.mono HB.out.size))
      have x2 := (b2.block w.heap.size (by simp)).trans (heap_last w (.cells #[.int .i64 i, .slice pv nv cv, .slice pf nf cf] 29))
      obtain ⟨f0, f1, f2⟩ := cells3_of x2
      clear b2 x2
      cases a with
      | true =>
        go_wp2_with fail
        refine (HF.out _ HB2.out).mono ?_
        rintro e w3 ⟨rfl, b3⟩
        have HB3 := Lib.hid (HB2.out.trans (b3.mono HB2.out.size))
        clear b3
        go_wp2_with fail
        go_ret
        exact ⟨by rw [HR.out]; simp [h1, h2], HB3.out⟩
      | false =>
        go_wp2_with fail
        go_ret
        exact ⟨by rw [HR.out]; simp, HB2.out⟩
    · go_wp2_with fail
      go_ret
      exact ⟨by rw [HR.out]; simp [h1]; intros; omega, HB.out⟩
  · go_wp2_with fail
    go_ret
    exact ⟨by rw [HR.out]; simp; intros; omega, HB.out⟩
set_option maxHeartbeats 1000000 in
set_option maxRecDepth 100000 in
theorem ptMay_any (i : Int) (vv fv : Value) (V : List Vec) (F : List Fld) (w : World) (G : Gp w) (hv : VecsAt w vv V) (hf : FldsAt w fv F) (kv : VecsOk V) (kf : FldsOk F) :
    Calls Tryd.prog 55 #[.agg #[.int .i64 i, vv, fv]] w fun e w' => e = .returned (.bool (ptMay ⟨i, V, F⟩)) ∧ Below w.heap.size w w' := by
  have HO := Lib.hid (fun W (g : Below w.heap.size w W) => ptOutl_any i vv fv V F W (hv.below g) (hf.below g) kv kf)
  have HV := Lib.hid (fun W (g : Below w.heap.size w W) => allVecs_any V vv W (hv.below g) kv)
  have HF := Lib.hid (fun W (g : Below w.heap.size w W) => allFields_any F fv W (G.fresh g) (hf.below g) kf)
  obtain ⟨pv, cv, rfl⟩ := hv.form
  obtain ⟨pf, cf, rfl⟩ := hf.form
  clear hv hf kv kf
  obtain ⟨r, hr⟩ : ∃ r, r = ptMay ⟨i, V, F⟩ := ⟨_, rfl⟩
  rw [← hr]
  unfold ptMay at hr
  have HR := Lib.hid hr
  clear hr
  generalize ptOutl ⟨i, V, F⟩ = o at *
  generalize (V.all fun x => vecB x.v) = a at *
  generalize (F.all fun x => valB x.val) = b at *
  generalize V.length = nv at *
  generalize F.length = nf at *
  obtain ⟨d0, d1, d2⟩ := cells3 w (.int .i64 i) (.slice pv nv cv) (.slice pf nf cf) 29
  have HB := Lib.hid (fresh_alloc w (.cells #[.int .i64 i, .slice pv nv cv, .slice pf nf cf] 29))
  go_enter Tryd.func55, Tryd.ntmps55
  go_wp2_with fail
  refine (HO.out _ HB.out).mono ?_
  rintro e w1 ⟨rfl, b1⟩
  have HB1 := Lib.hid (HB.out.trans (b1.mono HB.out.size))
  have x1 := (b1.block w.heap.size (by simp)).trans (heap_last w (.cells #[.int .i64 i, .slice pv nv cv, .slice pf nf cf] 29))
  obtain ⟨e0, e1, e2⟩ := cells3_of x1
  have X1 := Lib.hid x1
  have S1 : Hid (w.heap.size < w1.heap.size) := Lib.hid (Nat.lt_of_lt_of_le (by simp) b1.size)
  clear b1 x1 d0 d1 d2
  cases o with
  | true =>
    go_wp2_with fail
    refine (HV.out _ HB1.out).mono ?_
    rintro e w2 ⟨rfl, b2⟩
    have HB2 := Lib.hid (HB1.out.trans (b2.mono HB1.out.size))
    obtain ⟨f0, f1, f2⟩ := cells3_of ((b2.block w.heap.size S1.out).trans X1.out)
    clear b2 e0 e1 e2
    cases a with
    | true =>
      go_wp2_with fail
      refine (HF.out _ HB2.out).mono ?_
      rintro e w3 ⟨rfl, b3⟩
      have HB3 := Lib.hid (HB2.out.trans (b3.mono HB2.out.size))
      clear b3
      go_wp2_with fail
      go_ret
      exact ⟨by rw [HR.out]; simp, HB3.out⟩
    | false =>
      go_wp2_with fail
      go_ret
      exact ⟨by rw [HR.out]; simp, HB2.out⟩
  | false =>
    go_wp2_with fail
    go_ret
    exact ⟨by rw [HR.out]; simp, HB1.out⟩
end Go.Proofs.YtokjmgkoifakdaaDoor
namespace Go.Proofs.YtokjmgkoifakdaaDoor
set_option linter.unusedVariables false
open Go Go.RowKit Go.Shelf Pl
def u64N (n : Int) : Nat := (IntKind.u64.wrap n).toNat
def bVal (v : Val) : List UInt8 := if v.kind = 2 then fixL 1 2 ++ fixL 2 v.text.size ++ v.text.data.toList else fixL 1 v.kind.toNat ++ fixL (szT v.kind.toNat).1.toNat (u64N v.n)
def bInts (L : List Int) : List UInt8 := L.flatMap fun n => fixL 2 (n + 32768).toNat
def bVec (x : Vec) : List UInt8 := fixL 1 x.name.size ++ x.name.data.toList ++ fixL 1 x.v.length ++ bInts x.v
def bFld (x : Fld) : List UInt8 := fixL 1 x.name.size ++ x.name.data.toList ++ bVal x.val
def bPt (p : Pt) : List UInt8 := fixL 8 p.id.toNat ++ fixL 1 p.vecs.length ++ p.vecs.flatMap bVec ++ fixL 1 p.flds.length ++ p.flds.flatMap bFld
theorem rises_all : ∀ (ns : List Nm) (la : Nm), rises la ns = true → ∀ x ∈ ns, isName x = true
  | [], _, _, x, hx => by simp at hx
  | y :: r, la, h, x, hx => by
    unfold rises at h
    simp only [Bool.and_eq_true] at h
    rcases List.mem_cons.1 hx with rfl | hx
    · exact h.1
    · exact rises_all r y h.2.2 x hx
theorem name_size {x : Nm} (h : isName x = true) : x.size ≤ 32 := by
  unfold isName at h
  split at h
  · cases h
  · simp only [Bool.and_eq_true, decide_eq_true_eq] at h
    exact h.1
theorem outl_all {ns : List Nm} {a b : Nat} (h : outl ns a b = true) : ns.length ≤ b ∧ (∀ x ∈ ns, x.size ≤ 32) ∧ a ≤ ns.length := by
  unfold outl at h
  simp only [Bool.and_eq_true, decide_eq_true_eq] at h
  exact ⟨by omega, fun x hx => name_size (rises_all _ _ h.2.2 x hx), by omega⟩
structure PtIs (p : Pt) : Prop where
  id1 : 1 ≤ p.id
  id2 : p.id ≤ maxId
  nv : p.vecs.length ≤ 4
  nv1 : 1 ≤ p.vecs.length
  nf : p.flds.length ≤ 16
  vn : ∀ x ∈ p.vecs, x.name.size ≤ 32
  fn : ∀ x ∈ p.flds, x.name.size ≤ 32
  vv : ∀ x ∈ p.vecs, 1 ≤ x.v.length ∧ x.v.length ≤ 64 ∧ ∀ n ∈ x.v, -32768 ≤ n ∧ n ≤ 32767
  fv : ∀ x ∈ p.flds, valB x.val = true
theorem ptIs {p : Pt} (h : ptMay p = true) : PtIs p := by
  unfold ptMay ptOutl idB at h
  simp only [Bool.and_eq_true, decide_eq_true_eq, List.all_eq_true] at h
  obtain ⟨⟨⟨h1, h2⟩, h3, h4⟩, h5, h6⟩ := h
  have a3 := outl_all h3
  have a4 := outl_all h4
  unfold vNames at a3
  unfold fNames at a4
  rw [List.length_map] at a3 a4
  refine ⟨h1, h2, a3.1, a3.2.2, a4.1, fun x hx => a3.2.1 _ (List.mem_map.2 ⟨x, hx, rfl⟩), fun x hx => a4.2.1 _ (List.mem_map.2 ⟨x, hx, rfl⟩), fun x hx => ?_, h6⟩
  have h := h5 x hx
  unfold vecB partB at h
  simp only [Bool.and_eq_true, decide_eq_true_eq, List.all_eq_true] at h
  exact ⟨by omega, by omega, fun n hn => h.2.2 n hn⟩
theorem flat_le {α} (f : α → List UInt8) (M : Nat) : ∀ (L : List α), (∀ x ∈ L, (f x).length ≤ M) → (L.flatMap f).length ≤ L.length * M
  | [], _ => by simp
  | x :: r, h => by
    have h1 := h x (List.mem_cons_self ..)
    have h2 := flat_le f M r fun y hy => h y (List.mem_cons_of_mem _ hy)
    simp only [List.flatMap_cons, List.length_append, List.length_cons, Nat.add_mul, Nat.one_mul]
    omega
theorem bInts_len (L : List Int) : (bInts L).length = L.length * 2 := by
  unfold bInts
  induction L with
  | nil => rfl
  | cons x r ih => rw [List.flatMap_cons, List.length_append, ih, fixL_length, List.length_cons]; omega
theorem szT_le (k : Nat) : (szT k).1.toNat ≤ 8 := by
  unfold szT
  split <;> decide
theorem bVal_len {v : Val} (h : valB v = true) : (bVal v).length ≤ 300 := by
  unfold valB at h
  unfold bVal
  split at h
  · rename_i hk
    simp only [Bool.and_eq_true, decide_eq_true_eq] at h
    have ht := szT_text v.kind.toNat
    split
    · simp only [List.length_append, fixL_length, ← Lib.size_eq]
      omega
    · simp only [List.length_append, fixL_length]
      have := szT_le v.kind.toNat
      omega
  · cases h
theorem bVec_len {x : Vec} (h : x.name.size ≤ 32) (h2 : x.v.length ≤ 64) : (bVec x).length ≤ 170 := by
  unfold bVec
  simp only [List.length_append, fixL_length, ← Lib.size_eq, bInts_len]
  omega
theorem bFld_len {x : Fld} (h : x.name.size ≤ 32) (h2 : valB x.val = true) : (bFld x).length ≤ 340 := by
  unfold bFld
  simp only [List.length_append, fixL_length, ← Lib.size_eq]
  have := bVal_len h2
  omega
/-- What stands ahead of the k-th vector, of the k-th field. -/
def preV (p : Pt) (k : Nat) : List UInt8 := fixL 8 p.id.toNat ++ fixL 1 p.vecs.length ++ (p.vecs.take k).flatMap bVec
def preF (p : Pt) (k : Nat) : List UInt8 := fixL 8 p.id.toNat ++ fixL 1 p.vecs.length ++ p.vecs.flatMap bVec ++ fixL 1 p.flds.length ++ (p.flds.take k).flatMap bFld
theorem preV_len {p : Pt} (h : PtIs p) (k : Nat) : (preV p k).length ≤ 1000 := by
  unfold preV
  simp only [List.length_append, fixL_length]
  have h1 := flat_le bVec 170 (p.vecs.take k) fun x hx => bVec_len (h.vn x (List.mem_of_mem_take hx)) (h.vv x (List.mem_of_mem_take hx)).2.1
  have h2 : (p.vecs.take k).length ≤ 4 := by rw [List.length_take]; have := h.nv; omega
  have h3 : (p.vecs.take k).length * 170 ≤ 4 * 170 := Nat.mul_le_mul_right _ h2
  omega
theorem preF_len {p : Pt} (h : PtIs p) (k : Nat) : (preF p k).length ≤ 8000 := by
  unfold preF
  simp only [List.length_append, fixL_length]
  have h0 := preV_len h p.vecs.length
  unfold preV at h0
  rw [List.take_length] at h0
  simp only [List.length_append, fixL_length] at h0
  have h1 := flat_le bFld 340 (p.flds.take k) fun x hx => bFld_len (h.fn x (List.mem_of_mem_take hx)) (h.fv x (List.mem_of_mem_take hx))
  have h2 : (p.flds.take k).length ≤ 16 := by rw [List.length_take]; have := h.nf; omega
  have h3 : (p.flds.take k).length * 340 ≤ 16 * 340 := Nat.mul_le_mul_right _ h2
  omega
theorem preV_next {p : Pt} {k : Nat} {x : Vec} (h : p.vecs[k]? = some x) : preV p (k + 1) = preV p k ++ bVec x := by
  unfold preV
  rw [List.take_add_one, h]
  simp [List.flatMap_append]
theorem preF_next {p : Pt} {k : Nat} {x : Fld} (h : p.flds[k]? = some x) : preF p (k + 1) = preF p k ++ bFld x := by
  unfold preF
  rw [List.take_add_one, h]
  simp [List.flatMap_append]
theorem preF_all (p : Pt) : preF p p.flds.length = bPt p := by
  unfold preF bPt
  rw [List.take_length]
theorem preV_all (p : Pt) : preV p p.vecs.length ++ fixL 1 p.flds.length = preF p 0 := by
  unfold preF preV
  rw [List.take_length]
  simp
theorem bInts_next {L : List Int} {k : Nat} {n : Int} (h : L[k]? = some n) : bInts (L.take (k + 1)) = bInts (L.take k) ++ fixL 2 (n + 32768).toNat := by
  unfold bInts
  rw [List.take_add_one, h]
  simp [List.flatMap_append]
end Go.Proofs.YtokjmgkoifakdaaDoor
namespace Go.Proofs.YtokjmgkoifakdaaDoor
set_option linter.unusedVariables false
open Go Go.RowKit Go.Shelf Pl
theorem u64_wrap (n : Int) : IntKind.u64.wrap n = (u64N n : Int) := by
  have : 0 ≤ IntKind.u64.wrap n := by show 0 ≤ n % 18446744073709551616; omega
  unfold u64N
  omega
theorem u64_lt (n : Int) : u64N n < 256 ^ 8 := by
  have h : IntKind.u64.wrap n = n % 18446744073709551616 := rfl
  have h8 : (256 : Nat) ^ 8 = 18446744073709551616 := by decide
  have := u64_wrap n
  omega
theorem value_any (B b : Nat) (l : List UInt8) (k n : Int) (t : ByteArray) (w : World) (G : Gp w) (h : WrAt B b (Lib.byteCells l) w) (hv : valB ⟨k, n, t⟩ = true) (hl : l.length ≤ 65535) (hB : B ≤ w.heap.size) :
    Calls Tryd.prog 58 #[.pointer (some ⟨b, 0, none⟩), .agg #[.int .i64 k, .int .i64 n, .string t]] w fun e w' => e = .returned (.tuple #[]) ∧ (WrAt B b (Lib.byteCells (l ++ bVal ⟨k, n, t⟩)) w' ∧ Kw B b w w') := by
  unfold valB at hv
  split at hv
  · rename_i hk
    simp only [Bool.and_eq_true, decide_eq_true_eq] at hv hk
    obtain ⟨q, hq⟩ : ∃ q : Nat, k = q := ⟨k.toNat, by omega⟩
    subst hq
    simp only [Int.toNat_natCast] at hv
    by_cases h2 : q = 2
    · subst h2
      have e : bVal ⟨((2 : Nat) : Int), n, t⟩ = fixL 1 2 ++ fixL 2 t.size ++ t.data.toList := if_pos rfl
      rw [e, ← List.append_assoc, ← List.append_assoc]
      have ht : t.size ≤ 256 := by have := hv.2.2.1; have h3 : (szT 2).2.2.2 = 256 := rfl; omega
      exact value_word B b l n t w G h ht hl hB
    · have e : bVal ⟨(q : Int), n, t⟩ = fixL 1 q ++ fixL (szT q).1.toNat (u64N n) := by
        unfold bVal
        rw [if_neg (by show ¬ (q : Int) = 2; omega)]
        rfl
      rw [e, ← List.append_assoc]
      have hq : q = 1 ∨ q = 3 := by omega
      rcases hq with rfl | rfl
      · exact value_num B b l 1 8 (u64N n) n t w G h (by omega) (by omega) (by omega) rfl (by omega) (by omega) (u64_lt n) (u64_wrap n) hl hB
      · refine value_num B b l 3 1 (u64N n) n t w G h (by omega) (by omega) (by omega) rfl (by omega) (by omega) ?_ (u64_wrap n) hl hB
        have h0 : (szT 3).2.1 = 0 := rfl
        have h1 : (szT 3).2.2.1 = 1 := rfl
        have h3 : IntKind.u64.wrap n = n % 18446744073709551616 := rfl
        have := u64_wrap n
        have a := hv.1
        have b := hv.2.1
        omega
  · cases hv
theorem wr_new (w : World) : WrAt w.heap.size w.heap.size (Lib.byteCells []) (w.alloc (.cells #[.pointer none, .slice none 0 0] 106)) :=
  .inl ⟨Nat.le_refl _, _, heap_last _ _, World.ownsRow_nil _ _ _ _, by simp [Value.ownBlock]⟩
def notMay : Value := .tuple #[.string ⟨#[]⟩, .int .i64 120]
set_option maxHeartbeats 1000000 in
set_option maxRecDepth 100000 in
theorem encode_no (i : Int) (vv fv : Value) (V : List Vec) (F : List Fld) (w : World) (G : Gp w) (hv : VecsAt w vv V) (hf : FldsAt w fv F) (kv : VecsOk V) (kf : FldsOk F) (hm : ptMay ⟨i, V, F⟩ = false) :
    Calls Tryd.prog 18 #[.agg #[.int .i64 i, vv, fv]] w fun e w' => e = .returned notMay ∧ Below w.heap.size w w' := by
  have HM := Lib.hid (fun W (g : Below w.heap.size w W) => ptMay_any i vv fv V F W (G.fresh g) (hv.below g) (hf.below g) kv kf)
  rw [hm] at HM
  obtain ⟨pv, cv, rfl⟩ := hv.form
  obtain ⟨pf, cf, rfl⟩ := hf.form
  clear hv hf kv kf hm
  unfold notMay
  obtain ⟨d0, d1, d2⟩ := cells3 w (.int .i64 i) (.slice pv V.length cv) (.slice pf F.length cf) 29
  have HB := Lib.hid (fresh_alloc w (.cells #[.int .i64 i, .slice pv V.length cv, .slice pf F.length cf] 29))
  go_enter Tryd.func18, Tryd.ntmps18
  go_wp2_with fail
  refine (HM.out _ HB.out).mono ?_
  rintro e w1 ⟨rfl, b1⟩
  have HB1 := Lib.hid (HB.out.trans (b1.mono HB.out.size))
  clear b1 d0 d1 d2
  go_wp2_with fail
  go_ret2
  exact ⟨rfl, HB1.out⟩
set_option maxHeartbeats 4000000 in
set_option maxRecDepth 100000 in
theorem encode_yes (i : Int) (vv fv : Value) (V : List Vec) (F : List Fld) (w : World) (G : Gp w) (hv : VecsAt w vv V) (hf : FldsAt w fv F) (kv : VecsOk V) (kf : FldsOk F) (hm : ptMay ⟨i, V, F⟩ = true) :
    Calls Tryd.prog 18 #[.agg #[.int .i64 i, vv, fv]] w fun e w' => e = .returned (.tuple #[.string ⟨(bPt ⟨i, V, F⟩).toArray⟩, .int .i64 0]) ∧ Below w.heap.size w w' := by
  have HP := Lib.hid (ptIs hm)
  have HM := Lib.hid (fun W (g : Below w.heap.size w W) => ptMay_any i vv fv V F W (G.fresh g) (hv.below g) (hf.below g) kv kf)
  rw [hm] at HM
  have HVA := Lib.hid (fun W (g : Below w.heap.size w W) => hv.below g)
  have HFA := Lib.hid (fun W (g : Below w.heap.size w W) => hf.below g)
  have HG := Lib.hid (fun W (g : Below w.heap.size w W) => G.fresh g)
  obtain ⟨pv, cv, rfl⟩ := hv.form
  obtain ⟨pf, cf, rfl⟩ := hf.form
  have HVR := Lib.hid hv
  have HFR := Lib.hid hf
  clear hv hf kv kf hm G
  have HE := Lib.hid (preF_all ⟨i, V, F⟩)
  have HON : Hid (bPt ⟨i, V, F⟩ ≠ []) := Lib.hid (fun h => by have := congrArg List.length h; unfold bPt at this; simp only [List.length_append, fixL_length, List.length_nil] at this; omega)
  have HV0 := Lib.hid (preV_all ⟨i, V, F⟩)
  generalize bPt ⟨i, V, F⟩ = out at *
  obtain ⟨d0, d1, d2⟩ := cells3 w (.int .i64 i) (.slice pv V.length cv) (.slice pf F.length cf) 29
  have HB := Lib.hid (fresh_alloc w (.cells #[.int .i64 i, .slice pv V.length cv, .slice pf F.length cf] 29))
  go_enter Tryd.func18, Tryd.ntmps18
  go_wp2_with fail
  refine (HM.out _ HB.out).mono ?_
  rintro e w2 ⟨rfl, b2⟩
  have HB2 := Lib.hid (HB.out.trans (b2.mono HB.out.size))
  have X2 := Lib.hid ((b2.block w.heap.size (by simp)).trans (heap_last w (.cells #[.int .i64 i, .slice pv V.length cv, .slice pf F.length cf] 29)))
  have S2 : Hid (w.heap.size < w2.heap.size) := Lib.hid (Nat.lt_of_lt_of_le (by simp) b2.size)
  have c0 := fun o => (cells3_new X2.out o).1
  have c1 := fun o => (cells3_new X2.out o).2.1
  have c2 := fun o => (cells3_new X2.out o).2.2
  clear b2 d0 d1 d2
  go_wp2_with fail
  have HW3 := Lib.hid (wr_new w2)
  have HB3 := Lib.hid (HB2.out.alloc HB2.out.size (.cells #[.pointer none, .slice none 0 0] 106))
  have X3 := Lib.hid ((heap_old w2 (.cells #[.pointer none, .slice none 0 0] 106) S2.out).trans X2.out)
  have S3 : Hid (w2.heap.size ≤ (w2.alloc (.cells #[.pointer none, .slice none 0 0] 106)).heap.size) := Lib.hid (by simp)
  generalize w2.alloc (.cells #[.pointer none, .slice none 0 0] 106) = w3 at *
  generalize w2.heap.size = b at *
  clear c0 c1 c2 X2 HB2 HM HB
  have HPC := Lib.hid (fun W (g : Kw b b w3 W) => cells3_of ((g.below.block w.heap.size S2.out).trans X3.out))
  have HBW := Lib.hid (fun W (g : Kw b b w3 W) => HB3.out.trans (g.below.mono (Nat.le_of_lt S2.out)))
  have HSZ := Lib.hid (fun W (g : Kw b b w3 W) => Nat.le_trans S3.out g.size)
  obtain ⟨I, hI⟩ : ∃ I : Nat, i = I := ⟨i.toNat, by have := HP.out.id1; simp only at this; omega⟩
  subst hI
  have HID : Hid (I < 256 ^ 8) := Lib.hid (by have := HP.out.id2; unfold maxId at this; simp only at this; omega)
  have q0 := cells3_of X3.out
  refine (number_any b b [] I I 8 w3 HW3.out (by omega) (by omega) HID.out (by show (I : Int) % 18446744073709551616 = I; have := HID.out; omega) (by simp) S3.out).mono ?_
  rintro e w4 ⟨rfl, h4, k4⟩
  have K4 := Lib.hid k4
  have H4 := Lib.hid h4
  obtain ⟨c0, c1, c2⟩ := HPC.out _ k4
  clear k4 h4 q0
  have HNV : Hid (V.length ≤ 4) := Lib.hid HP.out.nv
  go_wp2_with fail
  refine (number_any b b _ V.length V.length 1 w4 H4.out (by omega) (by omega) (by have := HNV.out; omega) (by show (V.length : Int) % 18446744073709551616 = V.length; have := HNV.out; omega) (by simp [fixL_length]) (HSZ.out _ K4.out)).mono ?_
  rintro e w5 ⟨rfl, h5, k5⟩
  have K5 := Lib.hid (K4.out.trans k5)
  have H5 : Hid (WrAt b b (Lib.byteCells (preV ⟨I, V, F⟩ 0)) w5) := Lib.hid (by
    have e : preV ⟨(I : Int), V, F⟩ 0 = [] ++ fixL 8 I ++ fixL 1 V.length := by unfold preV; simp
    rw [e]; exact h5)
  obtain ⟨c0, c1, c2⟩ := HPC.out _ K5.out
  clear k5 h5 K4 H4
  go_wp2_with fail
  have HVN : Hid (V ≠ []) := Lib.hid (fun e => by have := HP.out.nv1; rw [e] at this; simp at this)
  rcases HVR.out with ⟨e, _⟩ | ⟨bv, off, c, S, hsl, hbv, hcv, hiv⟩
  · exact absurd e HVN.out
  · have e := hsl
    injection e with e1 e2 e3
    subst e1 e3
    clear hsl e2
    have HCV := Lib.hid hcv
    have HIV := Lib.hid hiv
    have HBV := Lib.hid hbv
    clear hcv hiv hbv c0 c1 c2
    go_loopw [24] (fun x wr => ∃ k : Nat, k ≤ V.length ∧ x = .int .i64 k ∧ WrAt b b (Lib.byteCells (preV ⟨I, V, F⟩ k)) wr ∧ Kw b b w3 wr) (fun x _ => V.length - (intOf x).toNat)
    case atStart => exact ⟨0, Nat.zero_le _, rfl, H5.out, K5.out⟩
    case round =>
      obtain ⟨k, hk, rfl, hw, hkw⟩ := hrel
      have HWR := Lib.hid hw
      have HK := Lib.hid hkw
      have HLW := Lib.hid (HBW.out _ hkw)
      have HZB := Lib.hid (HSZ.out _ hkw)
      have HLT := Lib.hid hw.lt
      have HPL := Lib.hid (preV_len HP.out k)
      clear hw hkw
      by_cases hlt : k < V.length
      · obtain ⟨c0, c1⟩ := HCV.out wr (HLW.out.block bv HBV.out) k hlt
        have hx : V[k]? = some V[k] := List.getElem?_eq_getElem hlt
        have hmem := List.getElem_mem hlt
        have hin := (HIV.out k hlt)
        have hnm := HP.out.vn _ hmem
        have hvv := HP.out.vv _ hmem
        generalize hcc : V[k] = x at hx c0 c1 hin hnm hvv
        obtain ⟨nm, ns⟩ := x
        simp only at c0 c1 hin hnm hvv
        generalize S k = sv at *
        have HIN := Lib.hid hin
        obtain ⟨p, cp, rfl, -⟩ := hin.form
        have HNX := Lib.hid (preV_next (p := ⟨(I : Int), V, F⟩) hx)
        have HNM := Lib.hid hnm
        have HVV := Lib.hid hvv
        have z := heap_last wr (.cells #[.string nm, .slice p ns.length cp] 52)
        have d0 : (wr.alloc (.cells #[.string nm, .slice p ns.length cp] 52)).cell? ⟨wr.heap.size, 0, none⟩ = some (.string nm) := by rw [Lib.cell_of_heap z]; rfl
        have d1 : (wr.alloc (.cells #[.string nm, .slice p ns.length cp] 52)).cell? ⟨wr.heap.size, 1, none⟩ = some (.slice p ns.length cp) := by rw [Lib.cell_of_heap z]; rfl
        have Z := Lib.hid z
        have HKA := Lib.hid (HK.out.alloc HZB.out (.cells #[.string nm, .slice p ns.length cp] 52))
        have HWA := Lib.hid (HWR.out.below (fresh_alloc wr (.cells #[.string nm, .slice p ns.length cp] 52)))
        clear z hx hmem hin hnm hvv hcc
        go_wp2_with fail
        refine (text_any b b _ nm 1 _ HWA.out (by omega) (by omega) (by have := HNM.out; omega) (by have := HNM.out; omega) (by have := HPL.out; omega) (HSZ.out _ HKA.out)).mono ?_
        rintro e wa ⟨rfl, ha, ka⟩
        have za := Lib.hid (ka.block Z.out (by have := HLT.out; omega) (by decide))
        have e0 : wa.cell? ⟨wr.heap.size, 0, none⟩ = some (.string nm) := by rw [Lib.cell_of_heap za.out]; rfl
        have e1 : wa.cell? ⟨wr.heap.size, 1, none⟩ = some (.slice p ns.length cp) := by rw [Lib.cell_of_heap za.out]; rfl
        have HA := Lib.hid ha
        have KA := Lib.hid (HKA.out.trans ka)
        clear ha ka d0 d1 c0 c1
        go_wp2_with fail
        refine (number_any b b _ ns.length ns.length 1 wa HA.out (by omega) (by omega) (by have := HVV.out.2.1; omega) (by show (ns.length : Int) % 18446744073709551616 = ns.length; have := HVV.out.2.1; omega) (by have := HPL.out; have := HNM.out; simp only [List.length_append, fixL_length, ← Lib.size_eq]; omega) (HSZ.out _ KA.out)).mono ?_
        rintro e wb ⟨rfl, hb, kb⟩
        have zb := Lib.hid (kb.block za.out (by have := HLT.out; omega) (by decide))
        have f0 : wb.cell? ⟨wr.heap.size, 0, none⟩ = some (.string nm) := by rw [Lib.cell_of_heap zb.out]; rfl
        have f1 : wb.cell? ⟨wr.heap.size, 1, none⟩ = some (.slice p ns.length cp) := by rw [Lib.cell_of_heap zb.out]; rfl
        have HBB := Lib.hid hb
        have KB := Lib.hid (KA.out.trans kb)
        clear hb kb e0 e1
        obtain ⟨L0, hL0⟩ : ∃ L0, L0 = preV ⟨I, V, F⟩ k ++ fixL 1 nm.size ++ nm.data.toList ++ fixL 1 ns.length := ⟨_, rfl⟩
        have HL0 : Hid (L0.length ≤ 1100) := Lib.hid (by rw [hL0]; have := HPL.out; have := HNM.out; simp only [List.length_append, fixL_length, ← Lib.size_eq]; omega)
        have HNX2 : Hid (preV ⟨I, V, F⟩ (k + 1) = L0 ++ bInts ns) := Lib.hid (by rw [HNX.out, hL0]; unfold bVec; simp)
        rw [← hL0] at HBB
        clear hL0
        rcases HIN.out with ⟨e, _⟩ | ⟨bi, oi, ci, hsl, hbi, hci⟩
        · exact absurd HVV.out.1 (by rw [e]; simp)
        · injection hsl with e1 e2 e3
          subst e1 e3
          clear e2
          have HCI := Lib.hid hci
          have HBI := Lib.hid hbi
          clear hci hbi
          go_wp2_with fail
          go_loopw [38] (fun x wi => ∃ q : Nat, q ≤ ns.length ∧ x = .int .i64 q ∧ WrAt b b (Lib.byteCells (L0 ++ bInts (ns.take q))) wi ∧ Kw b b w3 wi) (fun x _ => ns.length - (intOf x).toNat)
          case atStart => exact ⟨0, Nat.zero_le _, rfl, by simpa [bInts] using HBB.out, KB.out⟩
          case round =>
            obtain ⟨q, hq, rfl, hw, hkw⟩ := hrel
            have HWQ := Lib.hid hw
            have HKQ := Lib.hid hkw
            clear hw hkw
            by_cases hlq : q < ns.length
            · have g0 := HCI.out wr (((HBW.out _ HKQ.out)).block bi HBI.out) q hlq
              have hx : ns[q]? = some ns[q] := List.getElem?_eq_getElem hlq
              have hmem := HVV.out.2.2 _ (List.getElem_mem hlq)
              generalize hcc : ns[q] = n at hx g0 hmem
              have HBX := Lib.hid (bInts_next hx)
              obtain ⟨m, hm⟩ : ∃ m : Nat, n + 32768 = m := ⟨(n + 32768).toNat, by omega⟩
              have HM2 : Hid ((n + 32768).toNat = m ∧ m < 65536) := Lib.hid (by omega)
              have HQL : Hid ((L0 ++ bInts (ns.take q)).length ≤ 2000) := Lib.hid (by
                have := HL0.out
                have := HVV.out.2.1
                rw [List.length_append, bInts_len, List.length_take]
                omega)
              clear hx hmem hcc
              go_wp2_with fail
              have hwm : wrap64 (m : Int) = m := by have := HM2.out.2; unfold wrap64; omega
              refine (number_any b b _ (wrap64 (m : Int)) m 2 wr HWQ.out (by omega) (by omega) (by have := HM2.out.2; omega) (by rw [hwm]; show (m : Int) % 18446744073709551616 = m; have := HM2.out.2; omega) (by have := HQL.out; omega) (HSZ.out _ HKQ.out)).mono ?_
              rintro e wj ⟨rfl, hj, kj⟩
              have HJ : Hid (WrAt b b (Lib.byteCells (L0 ++ bInts (ns.take (q + 1)))) wj) := Lib.hid (by
                rw [HBX.out, HM2.out.1, ← List.append_assoc]
                exact hj)
              have KJ := Lib.hid (HKQ.out.trans kj)
              clear hj kj hwm
              go_wp2_with fail
              go_roundw
              case rel => exact ⟨q + 1, by omega, congrArg _ (wrap_s (by unfold maxLen; have := HVV.out.2.1; omega) hlq), HJ.out, KJ.out⟩
              case measure =>
                rw [wrap_s (by unfold maxLen; have := HVV.out.2.1; omega) hlq]
                exact int_less hlq
            · obtain rfl : q = ns.length := by omega
              have HJ : Hid (WrAt b b (Lib.byteCells (preV ⟨I, V, F⟩ (k + 1))) wr) := Lib.hid (by
                rw [HNX2.out]
                have := HWQ.out
                rwa [List.take_length] at this)
              go_wp2_with fail
              go_roundw
              case rel => exact ⟨k + 1, by omega, congrArg _ (wrap_s (by unfold maxLen; have := HNV.out; omega) hlt), HJ.out, HKQ.out⟩
              case measure =>
                rw [wrap_s (by unfold maxLen; have := HNV.out; omega) hlt]
                exact int_less hlt
      · obtain rfl : k = V.length := by omega
        obtain ⟨c0, c1, c2⟩ := HPC.out _ HK.out
        have HNF : Hid (F.length ≤ 16) := Lib.hid HP.out.nf
        go_wp2_with fail
        refine (number_any b b _ F.length F.length 1 wr HWR.out (by omega) (by omega) (by have := HNF.out; omega) (by show (F.length : Int) % 18446744073709551616 = F.length; have := HNF.out; omega) (by have := HPL.out; omega) (HSZ.out _ HK.out)).mono ?_
        rintro e w6 ⟨rfl, h6, k6⟩
        have K6 := Lib.hid (HK.out.trans k6)
        have H6 : Hid (WrAt b b (Lib.byteCells (preF ⟨I, V, F⟩ 0)) w6) := Lib.hid (by
          have e := HV0.out
          rw [← e]; exact h6)
        clear c0 c1 c2 k6 h6 HLW HZB HLT HPL HWR HK
        obtain ⟨c0, c1, c2⟩ := HPC.out _ K6.out
        go_wp2_with fail
        clear c0 c1 c2
        go_loopw [54] (fun x wr => ∃ k : Nat, k ≤ F.length ∧ x = .int .i64 k ∧ WrAt b b (Lib.byteCells (preF ⟨I, V, F⟩ k)) wr ∧ Kw b b w3 wr) (fun x _ => F.length - (intOf x).toNat)
        case atStart => exact ⟨0, Nat.zero_le _, rfl, H6.out, K6.out⟩
        case round =>
          obtain ⟨k, hk, rfl, hw, hkw⟩ := hrel
          have HWR := Lib.hid hw
          have HK := Lib.hid hkw
          have HLW := Lib.hid (HBW.out _ hkw)
          have HZB := Lib.hid (HSZ.out _ hkw)
          have HLT := Lib.hid hw.lt
          have HPL := Lib.hid (preF_len HP.out k)
          clear hw hkw
          by_cases hlt : k < F.length
          · rcases HFR.out with ⟨e, _⟩ | ⟨bf, of, cf', hsl, hbf, hcf⟩
            · rw [e] at hlt; simp at hlt
            · injection hsl with e1 e2 e3
              subst e1 e3
              clear e2
              obtain ⟨c0, c1, c2, c3⟩ := hcf wr (HLW.out.block bf hbf) k hlt
              have hx : F[k]? = some F[k] := List.getElem?_eq_getElem hlt
              have hmem := List.getElem_mem hlt
              have hnm := HP.out.fn _ hmem
              have hvv := HP.out.fv _ hmem
              generalize hcc : F[k] = x at hx c0 c1 c2 c3 hnm hvv
              obtain ⟨nm, ⟨kd, n, t⟩⟩ := x
              simp only at c0 c1 c2 c3 hnm hvv
              have HNX := Lib.hid (preF_next (p := ⟨(I : Int), V, F⟩) hx)
              have HNM := Lib.hid hnm
              have HVV := Lib.hid hvv
              have z := heap_last wr (.cells #[.string nm, .int .i64 kd, .int .i64 n, .string t] 56)
              obtain ⟨d0, d1, d2, d3⟩ := cells4_of z
              have Z := Lib.hid z
              have HKA := Lib.hid (HK.out.alloc HZB.out (.cells #[.string nm, .int .i64 kd, .int .i64 n, .string t] 56))
              have HWA := Lib.hid (HWR.out.below (fresh_alloc wr (.cells #[.string nm, .int .i64 kd, .int .i64 n, .string t] 56)))
              clear z hx hmem hnm hvv hcc hcf hbf
              go_wp2_with fail
              refine (text_any b b _ nm 1 _ HWA.out (by omega) (by omega) (by have := HNM.out; omega) (by have := HNM.out; omega) (by have := HPL.out; omega) (HSZ.out _ HKA.out)).mono ?_
              rintro e wa ⟨rfl, ha, ka⟩
              have za := Lib.hid (ka.block Z.out (by have := HLT.out; omega) (by decide))
              obtain ⟨e0, e1, e2, e3⟩ := cells4_of za.out
              have HA := Lib.hid ha
              have KA := Lib.hid (HKA.out.trans ka)
              clear ha ka d0 d1 d2 d3 c0 c1 c2 c3
              go_wp2_with fail
              refine (value_any b b _ kd n t wa (HG.out _ (HBW.out _ KA.out)) HA.out HVV.out (by have := HPL.out; have := HNM.out; simp only [List.length_append, fixL_length, ← Lib.size_eq]; omega) (HSZ.out _ KA.out)).mono ?_
              rintro e wb ⟨rfl, hb, kb⟩
              have HJ : Hid (WrAt b b (Lib.byteCells (preF ⟨I, V, F⟩ (k + 1))) wb) := Lib.hid (by
                rw [HNX.out]
                unfold bFld
                simp only [← List.append_assoc]
                exact hb)
              have KJ := Lib.hid (KA.out.trans kb)
              clear hb kb e0 e1 e2 e3
              go_wp2_with fail
              go_roundw
              case rel => exact ⟨k + 1, by omega, congrArg _ (wrap_s (by unfold maxLen; have := HNF.out; omega) hlt), HJ.out, KJ.out⟩
              case measure =>
                rw [wrap_s (by unfold maxLen; have := HNF.out; omega) hlt]
                exact int_less hlt
          · obtain rfl : k = F.length := by omega
            have HWO : Hid (WrAt b b (Lib.byteCells out) wr) := Lib.hid (by
              have := HWR.out
              have e := HE.out
              rwa [e] at this)
            go_wp2_with fail
            refine (wlaid_any b b out wr HWO.out ?_).mono ?_
            · exact HON.out
            · rintro e wz ⟨rfl, bz⟩
              have HBZ := Lib.hid (HLW.out.trans (bz.mono (Nat.le_of_lt S2.out)))
              clear bz
              go_wp2_with fail
              go_ret2
              exact ⟨rfl, HBZ.out⟩
end Go.Proofs.YtokjmgkoifakdaaDoor
namespace Go.Proofs.YtokjmgkoifakdaaDoor
set_option linter.unusedVariables false
open Go Go.RowKit Go.Shelf Pl
def aV : List Vec := [⟨⟨#[118]⟩, [1, -1]⟩]
def aF : List Fld := [⟨⟨#[111, 112, 101, 110]⟩, ⟨3, 1, ⟨#[]⟩⟩⟩]
theorem less_nil (l : List UInt8) : Op.bytesLess l [] = false := by cases l <;> rfl
theorem rises_one {x : Nm} (h : isName x = true) (h0 : x.data.toList ≠ []) : rises ⟨#[]⟩ [x] = true := by
  unfold rises
  rw [h, Go.ByteArray.toList_eq, Go.ByteArray.toList_eq]
  show (true && (!(Op.bytesLess x.data.toList [] || x.data.toList == []) && true)) = true
  rw [less_nil]
  cases hx : x.data.toList with
  | nil => exact absurd hx h0
  | cons a r => rfl
theorem a_yes : ptMay ⟨1, aV, aF⟩ = true := by
  have e1 : outl (vNames aV) 1 4 = true := by
    unfold outl
    rw [show vNames aV = [⟨#[118]⟩] from rfl, rises_one (by decide +kernel) (by simp)]
    rfl
  have e2 : outl (fNames aF) 0 16 = true := by
    unfold outl
    rw [show fNames aF = [⟨#[111, 112, 101, 110]⟩] from rfl, rises_one (by decide +kernel) (by simp)]
    rfl
  unfold ptMay ptOutl
  rw [e1, e2]
  decide +kernel
theorem a_no : ptMay ⟨1, [], []⟩ = false := by decide +kernel
def aS : ByteArray := ⟨#[1, 0, 0, 0, 0, 0, 0, 0, 1, 1, 118, 2, 1, 128, 255, 127, 1, 4, 111, 112, 101, 110, 3, 1]⟩
theorem a_bytes : (⟨(bPt ⟨1, aV, aF⟩).toArray⟩ : ByteArray) = aS := by decide +kernel
theorem aV_at {w : World} {g : Nat} (h1 : w.heap[g]? = some (.cells #[.int .i64 1, .int .i64 (-1)] 3 (0, 0))) (h2 : w.heap[g + 1]? = some (.cells #[.string ⟨#[118]⟩, .slice (some ⟨g, 0, none⟩) 2 2] 52 (0, 0))) :
    VecsAt w (.slice (some ⟨g + 1, 0, none⟩) 1 1) aV := by
  have l1 := (Array.getElem?_eq_some_iff.1 h1).1
  have l2 := (Array.getElem?_eq_some_iff.1 h2).1
  refine .inr ⟨g + 1, 0, 1, fun _ => .slice (some ⟨g, 0, none⟩) 2 2, rfl, l2, fun W hW j hj => ?_, fun j hj => ?_⟩
  · obtain rfl : j = 0 := by have hj2 : j < 1 := hj; omega
    rw [← hW] at h2
    exact ⟨by rw [Lib.cell_of_heap h2]; rfl, by rw [Lib.cell_of_heap h2]; rfl⟩
  · obtain rfl : j = 0 := by have hj2 : j < 1 := hj; omega
    refine .inr ⟨g, 0, 2, rfl, l1, fun W hW k hk => ?_⟩
    rw [← hW] at h1
    have hk2 : k < 2 := hk
    have hk' : k = 0 ∨ k = 1 := by omega
    rcases hk' with rfl | rfl <;> (rw [Lib.cell_of_heap h1]; rfl)
theorem aF_at {w : World} {g : Nat} (h : w.heap[g]? = some (.cells #[.string ⟨#[111, 112, 101, 110]⟩, .int .i64 3, .int .i64 1, .string ⟨#[]⟩] 56 (0, 0))) :
    FldsAt w (.slice (some ⟨g, 0, none⟩) 1 1) aF := by
  have l := (Array.getElem?_eq_some_iff.1 h).1
  refine .inr ⟨g, 0, 1, rfl, l, fun W hW j hj => ?_⟩
  obtain rfl : j = 0 := by have hj2 : j < 1 := hj; omega
  rw [← hW] at h
  exact ⟨by rw [Lib.cell_of_heap h]; rfl, by rw [Lib.cell_of_heap h]; rfl, by rw [Lib.cell_of_heap h]; rfl, by rw [Lib.cell_of_heap h]; rfl⟩
theorem aV_ok : VecsOk aV := ⟨by decide +kernel, fun x hx => by unfold aV at hx; simp at hx; subst hx; decide +kernel⟩
theorem aF_ok : FldsOk aF := ⟨by decide +kernel, fun x hx => by unfold aF at hx; simp at hx; subst hx; decide +kernel⟩
set_option maxHeartbeats 1000000 in
set_option maxRecDepth 100000 in
theorem awake_yes (w : World) (G : Gp w) :
    Calls Tryd.prog 17 #[] w fun e w' => e = .returned (.bool true) ∧ Below w.heap.size w w' := by
  have HW : Hid (∃ W, (((w.alloc (.cells #[.int .i64 1, .int .i64 (-1)] 3)).alloc (.cells #[.string ⟨#[118]⟩, .slice (some ⟨w.heap.size, 0, none⟩) 2 2] 52)).alloc
      (.cells #[.string ⟨#[111, 112, 101, 110]⟩, .int .i64 3, .int .i64 1, .string ⟨#[]⟩] 56)).alloc (.cells #[.int .i64 1, .slice (some ⟨w.heap.size + 1, 0, none⟩) 1 1, .slice (some ⟨w.heap.size + 1 + 1, 0, none⟩) 1 1] 29) = W ∧
      VecsAt W (.slice (some ⟨w.heap.size + 1, 0, none⟩) 1 1) aV ∧ FldsAt W (.slice (some ⟨w.heap.size + 1 + 1, 0, none⟩) 1 1) aF ∧ Below w.heap.size w W) := Lib.hid (by
    refine ⟨_, rfl, aV_at ?_ ?_, aF_at ?_, (((fresh_alloc w _).alloc (by simp) _).alloc (by simp <;> omega) _).alloc (by simp <;> omega) _⟩
    · rw [heap_old _ _ (by simp <;> omega), heap_old _ _ (by simp <;> omega), heap_old _ _ (by simp)]; exact heap_last _ _
    · rw [heap_old _ _ (by simp <;> omega), heap_old _ _ (by simp)]
      have h := heap_last (w.alloc (.cells #[.int .i64 1, .int .i64 (-1)] 3)) (.cells #[.string ⟨#[118]⟩, .slice (some ⟨w.heap.size, 0, none⟩) 2 2] 52)
      rw [show (w.alloc (.cells #[.int .i64 1, .int .i64 (-1)] 3)).heap.size = w.heap.size + 1 by simp] at h
      exact h
    · rw [heap_old _ _ (by simp)]
      have h := heap_last ((w.alloc (.cells #[.int .i64 1, .int .i64 (-1)] 3)).alloc (.cells #[.string ⟨#[118]⟩, .slice (some ⟨w.heap.size, 0, none⟩) 2 2] 52)) (.cells #[.string ⟨#[111, 112, 101, 110]⟩, .int .i64 3, .int .i64 1, .string ⟨#[]⟩] 56)
      rw [show ((w.alloc (.cells #[.int .i64 1, .int .i64 (-1)] 3)).alloc (.cells #[.string ⟨#[118]⟩, .slice (some ⟨w.heap.size, 0, none⟩) 2 2] 52)).heap.size = w.heap.size + 1 + 1 by simp] at h
      exact h)
  have HG := Lib.hid G
  clear G
  go_enter Tryd.func17, Tryd.ntmps17
  go_wp2_with fail
  obtain ⟨W, eW, hv, hf, hb⟩ := HW.out
  rw [eW]
  have HY := Lib.hid (encode_yes 1 _ _ aV aF W (HG.out.fresh hb) hv hf aV_ok aF_ok a_yes)
  rw [a_bytes] at HY
  have HB := Lib.hid hb
  clear eW hv hf hb
  refine HY.out.mono ?_
  rintro e w2 ⟨rfl, b2⟩
  have HB2 := Lib.hid (HB.out.trans (b2.mono HB.out.size))
  clear b2
  unfold aS
  go_wp2_with fail
  have HZ := Lib.hid (encode_no 1 (.slice none 0 0) (.slice none 0 0) [] [] w2 (HG.out.fresh HB2.out) (.inl ⟨rfl, none, 0, rfl⟩) (.inl ⟨rfl, none, 0, rfl⟩) ⟨Nat.zero_le _, fun _ h => nomatch h⟩ ⟨Nat.zero_le _, fun _ h => nomatch h⟩ a_no)
  unfold notMay at HZ
  refine HZ.out.mono ?_
  rintro e w3 ⟨rfl, b3⟩
  have HB3 := Lib.hid (HB2.out.trans (b3.mono HB2.out.size))
  clear b3
  go_wp2_with fail
  go_ret
  exact ⟨rfl, HB3.out⟩
end Go.Proofs.YtokjmgkoifakdaaDoor
namespace Go.Proofs.YtokjmgkoifakdaaDoor
set_option linter.unusedVariables false
open Go Go.RowKit Go.Shelf Go.Lib
theorem gN_le {W : World} (h : W.ShapedOpen Tryd.prog) : gN ≤ W.heap.size := by
  have hs : (((begin Tryd.prog (fun _ _ => 0) default).world.heap[Tryd.prog.globals.size - 1]?).bind Obj.row?).isSome = true := by kernel_rfl
  obtain ⟨⟨z, t⟩, hzt⟩ := Option.isSome_iff_exists.1 hs
  have hp : Tryd.prog.globals.size - 1 < Tryd.prog.globals.size := of_decide_eq_true (by kernel_rfl)
  obtain ⟨cs, hc, _⟩ := h.1 _ z t hp hzt
  have := (Array.getElem?_eq_some_iff.1 hc).1
  unfold gN
  omega
theorem same_cell {W X : World} (h : Same8 W X) {g k : Nat} (hg : g < gN) : X.cell? ⟨g, k, none⟩ = W.cell? ⟨g, k, none⟩ := World.cell?_of_block (w := W) (h g hg)
def szL (k : Nat) : List Int := [(szT k).1, (szT k).2.1, (szT k).2.2.1, (szT k).2.2.2]
def szData : DataW Unit := .agg ((List.range 4).map fun k => .agg ((szL k).map fun z => .lit (.int .i64 z)))
theorem sizes_of {w : World} (h : VarReads Tryd.prog w "lodestar/payload.sizes" szData) (k : Nat) (hk : k < 4) :
    w.cell? ⟨0, k * 4, none⟩ = some (.int .i64 (szT k).1) ∧ w.cell? ⟨0, k * 4 + 1, none⟩ = some (.int .i64 (szT k).2.1) ∧
    w.cell? ⟨0, k * 4 + 2, none⟩ = some (.int .i64 (szT k).2.2.1) ∧ w.cell? ⟨0, k * 4 + 3, none⟩ = some (.int .i64 (szT k).2.2.2) := by
  obtain ⟨g, t, cs, fuel, p, hg, hty, hvar, hd⟩ := h
  have n4 : Tryd.prog.globalNamed "lodestar/payload.sizes" = some 0 := by kernel_rfl
  have y4 : (Tryd.prog.globals[0]?).map (·.type) = some 184 := by kernel_rfl
  have c1 : Tryd.prog.cellsOf 3 = 1 := by kernel_rfl
  have c4 : Tryd.prog.cellsOf 146 = 4 := by kernel_rfl
  obtain rfl := Option.some.inj (n4.symm.trans hg)
  obtain rfl := Option.some.inj (y4.symm.trans hty)
  obtain ⟨fuel', d, q, hdi, he⟩ := array_elem Tryd.underlying184 hd k hk
  simp only [List.getElem?_map, List.getElem?_range hk, Option.map_some, Option.some.injEq] at hdi
  subst hdi
  rw [c4] at he
  have hcs := ints_of_struct Tryd.underlying146 (fun j f hj => by
    match j, hj with
    | 0, hj => simp at hj; subst hj; exact ⟨Tryd.underlying3, rfl, c1⟩
    | 1, hj => simp at hj; subst hj; exact ⟨Tryd.underlying3, rfl, c1⟩
    | 2, hj => simp at hj; subst hj; exact ⟨Tryd.underlying3, rfl, c1⟩
    | 3, hj => simp at hj; subst hj; exact ⟨Tryd.underlying3, rfl, c1⟩
    | j + 4, hj => simp at hj) (by rw [c4]; rfl) he
  have e0 := congrArg (·[0]?) hcs
  have e1 := congrArg (·[1]?) hcs
  have e2 := congrArg (·[2]?) hcs
  have e3 := congrArg (·[3]?) hcs
  simp only [List.getElem?_take, List.getElem?_drop] at e0 e1 e2 e3
  refine ⟨?_, ?_, ?_, ?_⟩
  · rw [World.var?_cell hg hvar (k * 4), ← Array.getElem?_toList]
    simpa [szL] using e0
  · rw [World.var?_cell hg hvar (k * 4 + 1), ← Array.getElem?_toList]
    simpa [szL] using e1
  · rw [World.var?_cell hg hvar (k * 4 + 2), ← Array.getElem?_toList]
    simpa [szL] using e2
  · rw [World.var?_cell hg hvar (k * 4 + 3), ← Array.getElem?_toList]
    simpa [szL] using e3
theorem gp_of {W : World} (hsh : W.ShapedOpen Tryd.prog)
    (hL : laidMet Tryd.prog [("unicode/utf8.acceptRanges", Rows.laid_unicode_utf8_acceptRanges), ("lodestar/payload.sizes", Rows.laid_lodestar_payload_sizes), ("unicode/utf8.first", Rows.laid_unicode_utf8_first)] W) : Gp W := by
  have h2 : VarReads Tryd.prog W "unicode/utf8.first" firstData := by
    have := Lib.laidMet.reads hL (n := "unicode/utf8.first") (d := Rows.laid_unicode_utf8_first) (.tail _ (.tail _ (.head _)))
    rw [← Pinned.utf8First_eq]
    exact this
  have h3 : VarReads Tryd.prog W "unicode/utf8.acceptRanges" acceptData := by
    have := Lib.laidMet.reads hL (n := "unicode/utf8.acceptRanges") (d := Rows.laid_unicode_utf8_acceptRanges) (.head _)
    rw [show acceptData = (Rows.laid_unicode_utf8_acceptRanges : DataW Unit) by kernel_rfl]
    exact this
  have h4 : VarReads Tryd.prog W "lodestar/payload.sizes" szData := by
    have := Lib.laidMet.reads hL (n := "lodestar/payload.sizes") (d := Rows.laid_lodestar_payload_sizes) (.tail _ (.head _))
    rw [show szData = (Rows.laid_lodestar_payload_sizes : DataW Unit) by kernel_rfl]
    exact this
  have hU : Lib.Utf8Tabs 1 2 W := utf8Tabs_of_readsT (U8Types.of196 Tryd.laysValid) ⟨by kernel_rfl, by kernel_rfl, by kernel_rfl, by kernel_rfl, by kernel_rfl, by kernel_rfl, by kernel_rfl⟩ h2 h3
  have b4 : 1 < gN := of_decide_eq_true (by kernel_rfl)
  have b5 : 2 < gN := of_decide_eq_true (by kernel_rfl)
  exact ⟨gN_le hsh, fun X h k hk => ⟨(same_cell h g_lt).trans (sizes_of h4 k hk).1, (same_cell h g_lt).trans (sizes_of h4 k hk).2.1, (same_cell h g_lt).trans (sizes_of h4 k hk).2.2.1, (same_cell h g_lt).trans (sizes_of h4 k hk).2.2.2⟩,
    fun X h => ⟨fun c hc => (same_cell h b4).trans (hU.1 c hc), fun i hi => ⟨(same_cell h b5).trans (hU.2 i hi).1, (same_cell h b5).trans (hU.2 i hi).2⟩⟩⟩
end Go.Proofs.YtokjmgkoifakdaaDoor
namespace Go.Proofs.YtokjmgkoifakdaaDoor
set_option linter.unusedVariables false
open Go.ChangeShapes Go.WideShapes Go.ChangeAt Go.RowKit Go.Joins Go.Deep Pl

theorem wAll_mem {H : Type} {P : Program} {e : TypeId} : ∀ {l : List (DataW H)} {d : DataW H}, d ∈ l → ∀ n ∈ d.weights P e, n ∈ DataW.weightsAll P e l
  | x :: l, d, h, n, hn => by
    simp only [DataW.weightsAll, List.mem_append]
    rcases List.mem_cons.mp h with rfl | h
    · exact .inl hn
    · exact .inr (wAll_mem h n hn)
section
variable {H : Type} {enc : TypeId × Value → H} {W : World} {base : Nat} {b0 : Nat} {r : Reach}
def valD (v : Val) : DataW H := .agg [.lit (.int .i64 v.kind), .lit (.int .i64 v.n), .lit (.string v.text.data.toList)]
def fldD (f : Fld) : DataW H := .agg [.lit (.string f.name.data.toList), valD f.val]
set_option maxRecDepth 100000 in
/-- A value. -/
theorem open_val {v : Value} {d : DataW H} {p : List MemPlace} (hv : Value.okWide Tryd.prog W r b0 54 v) (h : DataW.Trod enc Tryd.prog W base (fun _ => true) true 54 v d p) :
    ∃ x : Val, v = .agg #[.int .i64 x.kind, .int .i64 x.n, .string x.text] ∧ d = valD x ∧ (-9223372036854775808 ≤ x.kind ∧ x.kind ≤ 9223372036854775807) ∧ (-9223372036854775808 ≤ x.n ∧ x.n ≤ 9223372036854775807) := by
  obtain ⟨v0, v1, v2, y0, y1, y2, n, rfl, rfl, -, h0, h1, h2⟩ := open_agg3 Tryd.underlying54 (by kernel_rfl) (by kernel_rfl) hv h
  obtain ⟨a, ha, ha', wa⟩ := DataW.trod_int Tryd.underlying3 h0
  obtain ⟨b, hb, hb', wb⟩ := DataW.trod_int Tryd.underlying3 h1
  obtain ⟨c, hc, hc', hc''⟩ := DataW.trod_string Tryd.underlying9 h2
  obtain rfl : v0 = .int .i64 a := by simpa using ha
  obtain rfl : v1 = .int .i64 b := by simpa using hb
  obtain rfl : v2 = .string c := by simpa using hc
  subst ha' hb' hc'
  have xa : -9223372036854775808 ≤ a ∧ a ≤ 9223372036854775807 := by simpa [Lit.wf, show IntKind.i64.min = -9223372036854775808 from rfl] using wa
  have xb : -9223372036854775808 ≤ b ∧ b ≤ 9223372036854775807 := by simpa [Lit.wf, show IntKind.i64.min = -9223372036854775808 from rfl] using wb
  exact ⟨⟨a, b, c⟩, rfl, rfl, xa, xb⟩
set_option maxRecDepth 100000 in
theorem trod_val {m : Nat} {cs : List Value} {y : DataW H × List MemPlace} (h : DataW.trod enc Tryd.prog W base (fun _ => true) true m 54 cs = some y) :
    ∃ x : Val, cs = [.int .i64 x.kind, .int .i64 x.n, .string x.text] ∧ y.1 = valD x ∧ (-9223372036854775808 ≤ x.kind ∧ x.kind ≤ 9223372036854775807) ∧ (-9223372036854775808 ≤ x.n ∧ x.n ≤ 9223372036854775807) := by
  have hI : Tryd.prog.cellsOf 3 = 1 := by kernel_rfl
  have hS : Tryd.prog.cellsOf 9 = 1 := by kernel_rfl
  have hc : Tryd.prog.cellsOf 54 = 3 := by kernel_rfl
  obtain ⟨xs, n, _, rfl, hl, hlen, hf⟩ := DataW.trod_struct Tryd.underlying54 h
  rw [hc] at hl
  match cs, hl, xs, hlen with
  | [c0, c1, c2], _, [y0, y1, y2], _ =>
    have h0 : DataW.trod enc Tryd.prog W base (fun _ => true) true n 3 [c0] = some y0 := by simpa [hI] using hf 0 _ rfl
    have h1 : DataW.trod enc Tryd.prog W base (fun _ => true) true n 3 [c1] = some y1 := by simpa [hI] using hf 1 _ rfl
    have h2 : DataW.trod enc Tryd.prog W base (fun _ => true) true n 9 [c2] = some y2 := by simpa [hS] using hf 2 _ rfl
    obtain ⟨a, ha, ha', wa⟩ := DataW.trod_int Tryd.underlying3 h0
    obtain ⟨b, hb, hb', wb⟩ := DataW.trod_int Tryd.underlying3 h1
    obtain ⟨c, hc, hc', hc''⟩ := DataW.trod_string Tryd.underlying9 h2
    obtain rfl : c0 = .int .i64 a := by simpa using ha
    obtain rfl : c1 = .int .i64 b := by simpa using hb
    obtain rfl : c2 = .string c := by simpa using hc
    subst ha' hb' hc'
    have xa : -9223372036854775808 ≤ a ∧ a ≤ 9223372036854775807 := by simpa [Lit.wf, show IntKind.i64.min = -9223372036854775808 from rfl] using wa
    have xb : -9223372036854775808 ≤ b ∧ b ≤ 9223372036854775807 := by simpa [Lit.wf, show IntKind.i64.min = -9223372036854775808 from rfl] using wb
    exact ⟨⟨a, b, c⟩, rfl, rfl, xa, xb⟩
set_option maxRecDepth 100000 in
theorem trod_fld {m : Nat} {cs : List Value} {y : DataW H × List MemPlace} (h : DataW.trod enc Tryd.prog W base (fun _ => true) true m 56 cs = some y) :
    ∃ f : Fld, cs = [.string f.name, .int .i64 f.val.kind, .int .i64 f.val.n, .string f.val.text] ∧ y.1 = fldD f ∧ (-9223372036854775808 ≤ f.val.kind ∧ f.val.kind ≤ 9223372036854775807) ∧ (-9223372036854775808 ≤ f.val.n ∧ f.val.n ≤ 9223372036854775807) := by
  have hS : Tryd.prog.cellsOf 9 = 1 := by kernel_rfl
  have hV : Tryd.prog.cellsOf 54 = 3 := by kernel_rfl
  have hc : Tryd.prog.cellsOf 56 = 4 := by kernel_rfl
  obtain ⟨y0, y1, n, rfl, hl, h0, h1⟩ := trod_struct2 Tryd.underlying56 h
  rw [hc] at hl
  match cs, hl with
  | [c0, c1, c2, c3], _ =>
    simp only [hS, hV, List.drop_zero, List.drop_succ_cons, List.take_succ_cons, List.take_zero] at h0 h1
    obtain ⟨a, ha, ha', _⟩ := DataW.trod_string Tryd.underlying9 h0
    obtain rfl : c0 = .string a := by simpa using ha
    obtain ⟨x, hx, hd, xa, xb⟩ := trod_val h1
    injection hx with e1 hx
    injection hx with e2 hx
    injection hx with e3 hx
    subst e1 e2 e3
    refine ⟨⟨a, x⟩, rfl, ?_, xa, xb⟩
    subst ha'
    simp only [fldD, hd]
theorem addr_plain {a : Addr} {v : Value} (h : W.cell? a = some v) : a.spot = none := by
  cases hs : a.spot with
  | none => rfl
  | some q =>
    simp [World.cell?, hs] at h
    split at h <;> simp at h
set_option maxRecDepth 100000 in
/-- A row of fields. -/
theorem open_flds {fuel : Nat} {cs : List Value} {x : DataW H × List MemPlace} (h : DataW.trod enc Tryd.prog W base (fun _ => true) true fuel 27 cs = some x) :
    ∃ (v : Value) (L : List Fld), cs = [v] ∧ FldsAt W v L ∧ ((x.1 = .nil ∧ L = []) ∨ ∃ rest, x.1 = .slice (L.map fldD) rest) := by
  have hc : Tryd.prog.cellsOf 56 = 4 := by kernel_rfl
  rcases DataW.trod_slice Tryd.underlying27 h with ⟨hcs, hx⟩ | ⟨a, len, cap, elems, rest, n, _, hcs, hx, hb, hl, hm, hlen, hel, _, _⟩
  · exact ⟨_, [], hcs, .inl ⟨rfl, none, 0, rfl⟩, .inl ⟨by rw [hx], rfl⟩⟩
  · rw [hc] at hel
    rcases Nat.eq_zero_or_pos len with h0 | hpos
    · subst h0
      obtain rfl : elems = [] := List.length_eq_zero_iff.mp hlen
      exact ⟨_, [], hcs, .inl ⟨rfl, some a, cap, rfl⟩, .inr ⟨_, by rw [hx]; rfl⟩⟩
    · have each : ∀ i, ∃ f : Fld, i < len → elems[i]?.map (·.1) = some (fldD f) ∧ ∀ j, j < 4 → W.cell? ((a.add (i * 4)).add j) = [.string f.name, .int .i64 f.val.kind, .int .i64 f.val.n, .string f.val.text][j]? := by
        intro i
        by_cases hi : i < len
        · have he := hel i hi
          rw [List.getElem?_eq_getElem (by omega), Option.bind_eq_some_iff] at he
          obtain ⟨cs', hcs', ht⟩ := he
          obtain ⟨_, _, hcell⟩ := World.cells?_some hcs'
          obtain ⟨f, rfl, hd, _⟩ := trod_fld ht
          exact ⟨f, fun _ => ⟨by rw [List.getElem?_eq_getElem (by omega)]; simp [hd], hcell⟩⟩
        · exact ⟨⟨⟨#[]⟩, ⟨0, 0, ⟨#[]⟩⟩⟩, fun c => absurd c hi⟩
      obtain ⟨F, hF⟩ := Classical.axiomOfChoice each
      have h00 := (hF 0 hpos).2 0 (by decide)
      have ha0 : ((a.add (0 * 4)).add 0) = a := by simp [Addr.add]
      rw [ha0] at h00
      have hsp := addr_plain h00
      obtain ⟨g, off, sp⟩ := a
      simp only at hsp
      subst hsp
      have hg : g < W.heap.size := by
        rcases Nat.lt_or_ge g W.heap.size with hlt | hge
        · exact hlt
        · simp [World.cell?, Array.getElem?_eq_none hge] at h00
      have hadd : ∀ i j, ((⟨g, off, none⟩ : Addr).add (i * 4)).add j = ⟨g, off + i * 4 + j, none⟩ := fun i j => by
        unfold Addr.add
        by_cases h1 : i * 4 = 0 <;> by_cases h2 : j = 0 <;> simp [h1, h2]
      refine ⟨_, (List.range len).map F, hcs, .inr ⟨g, off, cap, by simp, hg, fun W' hW' j hj => ?_⟩, .inr ⟨rest.map (·.1), ?_⟩⟩
      · have hj' : j < len := by simpa using hj
        have hc := (hF j hj').2
        simp only [hadd] at hc
        have e : ((List.range len).map F)[j] = F j := by simp
        rw [e]
        have turn : ∀ i v, W.cell? ⟨g, i, none⟩ = some v → W'.cell? ⟨g, i, none⟩ = some v := fun i v hv => by
          rw [← hv]; exact World.cell?_of_block (w := W) hW'
        exact ⟨turn _ _ (hc 0 (by decide)), turn _ _ (hc 1 (by decide)), turn _ _ (hc 2 (by decide)), turn _ _ (hc 3 (by decide))⟩
      · rw [hx]
        have e : elems.map (·.1) = ((List.range len).map F).map fldD := by
          apply List.ext_getElem?
          intro i
          rcases Nat.lt_or_ge i len with hi | hi
          · rw [List.getElem?_map, (hF i hi).1]
            simp [hi]
          · rw [List.getElem?_eq_none (by simp; omega), List.getElem?_eq_none (by simp; omega)]
        simp only [e]
set_option maxRecDepth 100000 in
theorem weights_fld (f : Fld) : f.name.data.toList.length ∈ (fldD (H := H) f).weights Tryd.prog 56 ∧ f.val.text.data.toList.length ∈ (fldD (H := H) f).weights Tryd.prog 56 := by
  constructor <;> simp [fldD, valD, DataW.weights, DataW.weightsEach, Tryd.underlying56, Tryd.underlying54]
set_option maxRecDepth 100000 in
theorem sized_flds {ts : List TypeId} {ds : List (DataW H)} {L : List Fld} {d : DataW H} (h : (DataW.weightsEach Tryd.prog ts ds).all (· ≤ reachBytes) = true) {j : Nat} (ht : ts[j]? = some 27) (hd : ds[j]? = some d)
    (hL : (d = .nil ∧ L = []) ∨ ∃ rest, d = .slice (L.map fldD) rest) : FldsOk L := by
  have hr : reachBytes ≤ Room := by unfold Room reachBytes; omega
  rcases hL with ⟨_, rfl⟩ | ⟨rest, rfl⟩
  · exact ⟨Nat.zero_le _, fun _ h => nomatch h⟩
  · have hU := Tryd.underlying27
    have hbytes : 1 ≤ Tryd.prog.bytesOf 56 := of_decide_eq_true (by kernel_rfl)
    refine ⟨?_, fun x hx => ?_⟩
    · have h1 := sized_slice h ht hd hU
      simp only [List.length_map] at h1
      have h2 : L.length * 1 ≤ (L.length + rest.length) * Tryd.prog.bytesOf 56 := Nat.mul_le_mul (by omega) hbytes
      omega
    · have hm : fldD (H := H) x ∈ L.map fldD := List.mem_map_of_mem hx
      have key : ∀ n, n ∈ (fldD (H := H) x).weights Tryd.prog 56 → n ≤ Room := fun n hn => by
        have h1 := List.all_eq_true.1 h _ (DataW.weights_mem_each ht hd n (by
          simp only [DataW.weights, hU, List.mem_cons, List.mem_append]
          exact .inr (.inl (wAll_mem hm n hn))))
        have h2 : n ≤ reachBytes := by simpa using h1
        omega
      obtain ⟨w1, w2⟩ := weights_fld (H := H) x
      have k1 := key _ w1
      have k2 := key _ w2
      rw [Array.length_toList] at k1 k2
      exact ⟨k1, k2⟩
end
end Go.Proofs.YtokjmgkoifakdaaDoor
namespace Go.Proofs.YtokjmgkoifakdaaDoor
set_option linter.unusedVariables false
open Go.ChangeShapes Go.WideShapes Go.ChangeAt Go.RowKit Go.Joins Go.Deep Pl
section
variable {H : Type} {enc : TypeId × Value → H} {W : World} {base : Nat} {b0 : Nat} {r : Reach}
/-- A row of integers. -/
theorem open_ints' {fuel : Nat} {cs : List Value} {x : DataW H × List MemPlace} (h : DataW.trod enc Tryd.prog W base (fun _ => true) true fuel 50 cs = some x) :
    ∃ (v : Value) (bs : List Int), cs = [v] ∧ IntsAt W v bs ∧ ((x.1 = .nil ∧ bs = []) ∨ ∃ rest, x.1 = .slice (lits .i64 bs) rest) := by
  rcases open_ints Tryd.underlying50 Tryd.underlying3 (by kernel_rfl) h with ⟨hcs, hx⟩ | ⟨a, len, cap, zs, hcs, _, hl, hm, hz, hx, hcell, hwz⟩
  · exact ⟨_, [], hcs, .inl ⟨rfl, none, 0, rfl⟩, .inl ⟨by rw [hx], rfl⟩⟩
  · simp only [if_true] at hz
    have hlt : (zs.take len).length = len := by simp; omega
    refine ⟨_, zs.take len, hcs, ?_, .inr ⟨_, by rw [hx]⟩⟩
    rcases Nat.eq_zero_or_pos len with h0 | hpos
    · subst h0
      exact .inl ⟨by simp, some a, cap, rfl⟩
    · have hsome := hcell 0 (by omega)
      have ha0 : a.add 0 = a := by simp [Addr.add]
      rw [ha0] at hsome
      have hsp := addr_plain hsome
      obtain ⟨g, off, sp⟩ := a
      simp only at hsp
      subst hsp
      have hg : g < W.heap.size := by
        rcases Nat.lt_or_ge g W.heap.size with hlt | hge
        · exact hlt
        · simp [World.cell?, Array.getElem?_eq_none hge] at hsome
      refine .inr ⟨g, off, cap, by rw [hlt], hg, fun W' hW' j hj => ?_⟩
      have hj' : j < zs.length := by simp at hj; omega
      have := hcell j hj'
      have hjl : (zs.take len)[j] = zs.getD j 0 := by simp [List.getD, List.getElem?_eq_getElem hj']
      rw [hjl]
      have ha : (⟨g, off, none⟩ : Addr).add j = ⟨g, off + j, none⟩ := by unfold Addr.add; split <;> simp_all
      rw [ha] at this
      unfold World.cell? at this ⊢
      simp only [hW']
      exact this
/-- What the data of a vector is. -/
def VecD (x : Vec) (d : DataW H) : Prop := ∃ dv, d = .agg [.lit (.string x.name.data.toList), dv] ∧ ((dv = .nil ∧ x.v = []) ∨ ∃ rest, dv = .slice (lits .i64 x.v) rest)
set_option maxRecDepth 100000 in
theorem trod_vec {m : Nat} {cs : List Value} {y : DataW H × List MemPlace} (h : DataW.trod enc Tryd.prog W base (fun _ => true) true m 52 cs = some y) :
    ∃ (x : Vec) (s : Value), cs = [.string x.name, s] ∧ IntsAt W s x.v ∧ VecD x y.1 := by
  have hS : Tryd.prog.cellsOf 9 = 1 := by kernel_rfl
  have hV : Tryd.prog.cellsOf 50 = 1 := by kernel_rfl
  have hc : Tryd.prog.cellsOf 52 = 2 := by kernel_rfl
  obtain ⟨y0, y1, n, rfl, hl, h0, h1⟩ := trod_struct2 Tryd.underlying52 h
  rw [hc] at hl
  match cs, hl with
  | [c0, c1], _ =>
    simp only [hS, hV, List.drop_zero, List.drop_succ_cons, List.take_succ_cons, List.take_zero] at h0 h1
    obtain ⟨a, ha, ha', _⟩ := DataW.trod_string Tryd.underlying9 h0
    obtain rfl : c0 = .string a := by simpa using ha
    obtain ⟨s, bs, hs, hi, hd⟩ := open_ints' h1
    obtain rfl : c1 = s := by simpa using hs
    subst ha'
    exact ⟨⟨a, bs⟩, _, rfl, hi, _, rfl, hd⟩
set_option maxRecDepth 100000 in
/-- A row of vectors. -/
theorem open_vecs {fuel : Nat} {cs : List Value} {x : DataW H × List MemPlace} (h : DataW.trod enc Tryd.prog W base (fun _ => true) true fuel 26 cs = some x) :
    ∃ (v : Value) (L : List Vec), cs = [v] ∧ VecsAt W v L ∧ ((x.1 = .nil ∧ L = []) ∨ ∃ es rest, x.1 = .slice es rest ∧ es.length = L.length ∧ ∀ i (h : i < L.length) (h' : i < es.length), VecD L[i] es[i]) := by
  have hc : Tryd.prog.cellsOf 52 = 2 := by kernel_rfl
  rcases DataW.trod_slice Tryd.underlying26 h with ⟨hcs, hx⟩ | ⟨a, len, cap, elems, rest, n, _, hcs, hx, hb, hl, hm, hlen, hel, _, _⟩
  · exact ⟨_, [], hcs, .inl ⟨rfl, none, 0, rfl⟩, .inl ⟨by rw [hx], rfl⟩⟩
  · rw [hc] at hel
    rcases Nat.eq_zero_or_pos len with h0 | hpos
    · subst h0
      obtain rfl : elems = [] := List.length_eq_zero_iff.mp hlen
      exact ⟨_, [], hcs, .inl ⟨rfl, some a, cap, rfl⟩, .inr ⟨[], _, by rw [hx]; rfl, rfl, fun i h => nomatch h⟩⟩
    · have each : ∀ i, ∃ f : Vec × Value, i < len → (∀ h : i < elems.length, VecD f.1 (elems[i]).1) ∧ IntsAt W f.2 f.1.v ∧ ∀ j, j < 2 → W.cell? ((a.add (i * 2)).add j) = [.string f.1.name, f.2][j]? := by
        intro i
        by_cases hi : i < len
        · have he := hel i hi
          rw [List.getElem?_eq_getElem (by omega), Option.bind_eq_some_iff] at he
          obtain ⟨cs', hcs', ht⟩ := he
          obtain ⟨_, _, hcell⟩ := World.cells?_some hcs'
          obtain ⟨f, s, rfl, hs, hd⟩ := trod_vec ht
          exact ⟨(f, s), fun _ => ⟨fun _ => hd, hs, hcell⟩⟩
        · exact ⟨(⟨⟨#[]⟩, []⟩, .nilIface), fun c => absurd c hi⟩
      obtain ⟨F, hF⟩ := Classical.axiomOfChoice each
      have h00 := (hF 0 hpos).2.2 0 (by decide)
      have ha0 : ((a.add (0 * 2)).add 0) = a := by simp [Addr.add]
      rw [ha0] at h00
      have hsp := addr_plain h00
      obtain ⟨g, off, sp⟩ := a
      simp only at hsp
      subst hsp
      have hg : g < W.heap.size := by
        rcases Nat.lt_or_ge g W.heap.size with hlt | hge
        · exact hlt
        · simp [World.cell?, Array.getElem?_eq_none hge] at h00
      have hadd : ∀ i j, ((⟨g, off, none⟩ : Addr).add (i * 2)).add j = ⟨g, off + i * 2 + j, none⟩ := fun i j => by
        unfold Addr.add
        by_cases h1 : i * 2 = 0 <;> by_cases h2 : j = 0 <;> simp [h1, h2]
      refine ⟨_, (List.range len).map fun i => (F i).1, hcs, .inr ⟨g, off, cap, fun i => (F i).2, by simp, hg, fun W' hW' j hj => ?_, fun j hj => ?_⟩, .inr ⟨elems.map (·.1), rest.map (·.1), by rw [hx], by simp [hlen], fun i h1 h2 => ?_⟩⟩
      · have hj' : j < len := by simpa using hj
        have hc := (hF j hj').2.2
        simp only [hadd] at hc
        have e : ((List.range len).map fun i => (F i).1)[j] = (F j).1 := by simp
        rw [e]
        have turn : ∀ i v, W.cell? ⟨g, i, none⟩ = some v → W'.cell? ⟨g, i, none⟩ = some v := fun i v hv => by
          rw [← hv]; exact World.cell?_of_block (w := W) hW'
        exact ⟨turn _ _ (hc 0 (by decide)), turn _ _ (hc 1 (by decide))⟩
      · have hj' : j < len := by simpa using hj
        have e : ((List.range len).map fun i => (F i).1)[j] = (F j).1 := by simp
        rw [e]
        exact (hF j hj').2.1
      · have hi' : i < len := by simpa using h1
        have := (hF i hi').1 (by omega)
        simpa using this
set_option maxRecDepth 100000 in
theorem sized_vecs {L : List Vec} {d : DataW H} (h : ∀ n ∈ d.weights Tryd.prog 26, n ≤ reachBytes)
    (hL : (d = .nil ∧ L = []) ∨ ∃ es rest, d = .slice es rest ∧ es.length = L.length ∧ ∀ i (h : i < L.length) (h' : i < es.length), VecD L[i] es[i]) : VecsOk L := by
  have hr : reachBytes ≤ Room := by unfold Room reachBytes; omega
  rcases hL with ⟨_, rfl⟩ | ⟨es, rest, rfl, hel, hd⟩
  · exact ⟨Nat.zero_le _, fun _ h => nomatch h⟩
  · have hU := Tryd.underlying26
    have hU1 := Tryd.underlying52
    have hU2 := Tryd.underlying50
    have hbytes : 1 ≤ Tryd.prog.bytesOf 52 := of_decide_eq_true (by kernel_rfl)
    have hbytes2 : 1 ≤ Tryd.prog.bytesOf 3 := of_decide_eq_true (by kernel_rfl)
    refine ⟨?_, fun x hx => ?_⟩
    · have h1 := h ((es.length + rest.length) * Tryd.prog.bytesOf 52) (by simp [DataW.weights, hU])
      have h2 : es.length * 1 ≤ (es.length + rest.length) * Tryd.prog.bytesOf 52 := Nat.mul_le_mul (by omega) hbytes
      omega
    · obtain ⟨i, hi, rfl⟩ := List.getElem_of_mem hx
      obtain ⟨dv, he, hv⟩ := hd i hi (by omega)
      have hm : es[i]'(by omega) ∈ es := List.getElem_mem _
      have key : ∀ n, n ∈ (es[i]'(by omega)).weights Tryd.prog 52 → n ≤ Room := fun n hn => by
        have h1 := h n (by
          simp only [DataW.weights, hU, List.mem_cons, List.mem_append]
          exact .inr (.inl (wAll_mem hm n hn)))
        omega
      rw [he] at key
      refine ⟨?_, ?_⟩
      · have := key (L[i].name.data.toList.length) (by simp [DataW.weights, DataW.weightsEach, hU1])
        rw [Array.length_toList] at this
        exact this
      · rcases hv with ⟨rfl, hv⟩ | ⟨r2, rfl⟩
        · rw [hv]; exact Nat.zero_le _
        · have := key (((lits (H := H) .i64 L[i].v).length + r2.length) * Tryd.prog.bytesOf 3) (by simp [DataW.weights, DataW.weightsEach, hU1, hU2])
          have h2 : (lits (H := H) .i64 L[i].v).length * 1 ≤ ((lits (H := H) .i64 L[i].v).length + r2.length) * Tryd.prog.bytesOf 3 := Nat.mul_le_mul (by omega) hbytes2
          have h3 : (lits (H := H) .i64 L[i].v).length = L[i].v.length := by simp [lits]
          omega
set_option maxRecDepth 100000 in
theorem sized_flds' {L : List Fld} {d : DataW H} (h : ∀ n ∈ d.weights Tryd.prog 27, n ≤ reachBytes) (hL : (d = .nil ∧ L = []) ∨ ∃ rest, d = .slice (L.map fldD) rest) : FldsOk L := by
  have hr : reachBytes ≤ Room := by unfold Room reachBytes; omega
  rcases hL with ⟨_, rfl⟩ | ⟨rest, rfl⟩
  · exact ⟨Nat.zero_le _, fun _ h => nomatch h⟩
  · have hU := Tryd.underlying27
    have hbytes : 1 ≤ Tryd.prog.bytesOf 56 := of_decide_eq_true (by kernel_rfl)
    refine ⟨?_, fun x hx => ?_⟩
    · have h1 := h (((L.map (fldD (H := H))).length + rest.length) * Tryd.prog.bytesOf 56) (by simp [DataW.weights, hU])
      simp only [List.length_map] at h1
      have h2 : L.length * 1 ≤ (L.length + rest.length) * Tryd.prog.bytesOf 56 := Nat.mul_le_mul (by omega) hbytes
      omega
    · have hm : fldD (H := H) x ∈ L.map fldD := List.mem_map_of_mem hx
      have key : ∀ n, n ∈ (fldD (H := H) x).weights Tryd.prog 56 → n ≤ Room := fun n hn => by
        have h1 := h n (by
          simp only [DataW.weights, hU, List.mem_cons, List.mem_append]
          exact .inr (.inl (wAll_mem hm n hn)))
        omega
      obtain ⟨w1, w2⟩ := weights_fld (H := H) x
      have k1 := key _ w1
      have k2 := key _ w2
      rw [Array.length_toList] at k1 k2
      exact ⟨k1, k2⟩
/-- What the data of a point is. -/
def PtD (x : Pt) (d : DataW H) : Prop := ∃ dv df, d = .agg [.lit (.int .i64 x.id), dv, df] ∧
  ((dv = .nil ∧ x.vecs = []) ∨ ∃ es rest, dv = .slice es rest ∧ es.length = x.vecs.length ∧ ∀ i (h : i < x.vecs.length) (h' : i < es.length), VecD x.vecs[i] es[i]) ∧
  ((df = .nil ∧ x.flds = []) ∨ ∃ rest, df = .slice (x.flds.map fldD) rest)
set_option maxRecDepth 100000 in
/-- A point. -/
theorem open_pt {v : Value} {d : DataW H} {p : List MemPlace} (hv : Value.okWide Tryd.prog W r b0 29 v) (h : DataW.Trod enc Tryd.prog W base (fun _ => true) true 29 v d p) :
    ∃ (x : Pt) (u f : Value), v = .agg #[.int .i64 x.id, u, f] ∧ PtD x d ∧ VecsAt W u x.vecs ∧ FldsAt W f x.flds ∧ (-9223372036854775808 ≤ x.id ∧ x.id ≤ 9223372036854775807) := by
  obtain ⟨v0, v1, v2, y0, y1, y2, n, rfl, rfl, -, h0, h1, h2⟩ := open_agg3 Tryd.underlying29 (by kernel_rfl) (by kernel_rfl) hv h
  obtain ⟨a, ha, ha', wa⟩ := DataW.trod_int Tryd.underlying3 h0
  obtain ⟨u, L, hu, hU, hD⟩ := open_vecs h1
  obtain ⟨f, M, hf, hF, hE⟩ := open_flds h2
  obtain rfl : v0 = .int .i64 a := by simpa using ha
  obtain rfl : v1 = u := by simpa using hu
  obtain rfl : v2 = f := by simpa using hf
  subst ha'
  have xa : -9223372036854775808 ≤ a ∧ a ≤ 9223372036854775807 := by simpa [Lit.wf, show IntKind.i64.min = -9223372036854775808 from rfl] using wa
  exact ⟨⟨a, L, M⟩, _, _, rfl, ⟨_, _, rfl, hD, hE⟩, hU, hF, xa⟩
set_option maxRecDepth 100000 in
theorem sized_pt {ts : List TypeId} {ds : List (DataW H)} {x : Pt} {d : DataW H} (h : (DataW.weightsEach Tryd.prog ts ds).all (· ≤ reachBytes) = true) {j : Nat} (ht : ts[j]? = some 29) (hd : ds[j]? = some d) (hx : PtD x d) :
    VecsOk x.vecs ∧ FldsOk x.flds := by
  obtain ⟨dv, df, rfl, hV, hF⟩ := hx
  have key : ∀ n, n ∈ (DataW.agg [.lit (.int .i64 x.id), dv, df]).weights Tryd.prog 29 → n ≤ reachBytes := fun n hn => by
    have h1 := List.all_eq_true.1 h _ (DataW.weights_mem_each ht hd n hn)
    simpa using h1
  have hU := Tryd.underlying29
  refine ⟨sized_vecs (fun n hn => key n ?_) hV, sized_flds' (fun n hn => key n ?_) hF⟩
  · simp only [DataW.weights, hU, DataW.weightsEach, List.mem_append]
    simp [DataW.weightsEach, DataW.weights, hn]
  · simp only [DataW.weights, hU, DataW.weightsEach, List.mem_append]
    simp [DataW.weightsEach, DataW.weights, hn]
set_option maxRecDepth 100000 in
/-- The sizes that copying asks. -/
theorem sized_copy {ts : List TypeId} {ds : List (DataW H)} {x : Pt} {d : DataW H} (h : (DataW.weightsEach Tryd.prog ts ds).all (· ≤ reachBytes) = true) {j : Nat} (ht : ts[j]? = some 29) (hd : ds[j]? = some d) (hx : PtD x d) :
    x.vecs.length * 40 ≤ 140737488355328 ∧ (∀ y ∈ x.vecs, y.v.length * 8 ≤ 140737488355328) ∧ x.flds.length * 48 ≤ 140737488355328 := by
  obtain ⟨dv, df, rfl, hV, hF⟩ := hx
  have hr : reachBytes ≤ 140737488355328 := by unfold reachBytes; omega
  have key : ∀ n, n ∈ (DataW.agg [.lit (.int .i64 x.id), dv, df]).weights Tryd.prog 29 → n ≤ reachBytes := fun n hn => by
    have h1 := List.all_eq_true.1 h _ (DataW.weights_mem_each ht hd n hn)
    simpa using h1
  have hU := Tryd.underlying29
  have kv : ∀ n ∈ dv.weights Tryd.prog 26, n ≤ reachBytes := fun n hn => key n (by
    simp only [DataW.weights, hU, DataW.weightsEach, List.mem_append]
    simp [DataW.weightsEach, DataW.weights, hn])
  have kf : ∀ n ∈ df.weights Tryd.prog 27, n ≤ reachBytes := fun n hn => key n (by
    simp only [DataW.weights, hU, DataW.weightsEach, List.mem_append]
    simp [DataW.weightsEach, DataW.weights, hn])
  have u1 := Tryd.underlying26
  have u2 := Tryd.underlying52
  have u3 := Tryd.underlying50
  have u4 := Tryd.underlying27
  have b1 : Tryd.prog.bytesOf 52 = 40 := by kernel_rfl
  have b2 : Tryd.prog.bytesOf 3 = 8 := by kernel_rfl
  have b3 : Tryd.prog.bytesOf 56 = 48 := by kernel_rfl
  refine ⟨?_, ?_, ?_⟩
  · rcases hV with ⟨_, e⟩ | ⟨es, rest, rfl, hel, hdd⟩
    · rw [e]; simp
    · have h1 := kv ((es.length + rest.length) * Tryd.prog.bytesOf 52) (by simp [DataW.weights, u1])
      rw [b1] at h1
      omega
  · rcases hV with ⟨_, e⟩ | ⟨es, rest, rfl, hel, hdd⟩
    · rw [e]; simp
    · intro y hy
      obtain ⟨i, hi, rfl⟩ := List.getElem_of_mem hy
      obtain ⟨dw, he, hv⟩ := hdd i hi (by omega)
      rcases hv with ⟨_, e⟩ | ⟨r2, rfl⟩
      · rw [e]; simp
      · have hm : es[i]'(by omega) ∈ es := List.getElem_mem _
        have h1 := kv (((lits (H := H) .i64 x.vecs[i].v).length + r2.length) * Tryd.prog.bytesOf 3) (by
          simp only [DataW.weights, u1, List.mem_cons, List.mem_append]
          refine .inr (.inl (wAll_mem hm _ ?_))
          rw [he]
          simp [DataW.weights, DataW.weightsEach, u2, u3])
        rw [b2] at h1
        have h3 : (lits (H := H) .i64 x.vecs[i].v).length = x.vecs[i].v.length := by simp [lits]
        omega
  · rcases hF with ⟨_, e⟩ | ⟨rest, rfl⟩
    · rw [e]; simp
    · have h1 := kf (((x.flds.map (fldD (H := H))).length + rest.length) * Tryd.prog.bytesOf 56) (by simp [DataW.weights, u4])
      rw [b3] at h1
      simp only [List.length_map] at h1
      omega
end
end Go.Proofs.YtokjmgkoifakdaaDoor
namespace Go.Proofs.YtokjmgkoifakdaaDoor
set_option linter.unusedVariables false
open Go
namespace Ru
def contB (d : UInt8) : Bool := decide (128 ≤ d.toNat) && decide (d.toNat < 192)
def more (v : Nat) (d : UInt8) : Nat := v * 64 + d.toNat - 128
def endR (n least v : Nat) : Nat × Nat := if v < least ∨ 1114111 < v ∨ (55296 ≤ v ∧ v < 57344) then (0, 0) else (n, v)
/-- A rune of n bytes, of which the first gave v; t are the others. -/
def tailR (n least v : Nat) (t : List UInt8) : Nat × Nat :=
  if t.length + 1 < n then (0, 0) else if (t.take (n - 1)).all contB then endR n least ((t.take (n - 1)).foldl more v) else (0, 0)
def runeR : List UInt8 → Nat × Nat
  | [] => (0, 0)
  | b :: t => if b.toNat < 128 then (1, b.toNat) else if 192 ≤ b.toNat ∧ b.toNat < 224 then tailR 2 128 (b.toNat - 192) t
    else if 224 ≤ b.toNat ∧ b.toNat < 240 then tailR 3 2048 (b.toNat - 224) t else if 240 ≤ b.toNat ∧ b.toNat < 248 then tailR 4 65536 (b.toNat - 240) t else (0, 0)
theorem runeR_cons (b : UInt8) (t : List UInt8) : runeR (b :: t) = if b.toNat < 128 then (1, b.toNat) else if 192 ≤ b.toNat ∧ b.toNat < 224 then tailR 2 128 (b.toNat - 192) t
    else if 224 ≤ b.toNat ∧ b.toNat < 240 then tailR 3 2048 (b.toNat - 224) t else if 240 ≤ b.toNat ∧ b.toNat < 248 then tailR 4 65536 (b.toNat - 240) t else (0, 0) := rfl
open Go.Lib in
theorem check_lead (n b0 b1 b2 b3 : Nat) (h0 : 128 ≤ b0) (h0' : b0 < 256) :
    checkN n b1 b2 b3 (firstT b0 % 8) (accLo (firstT b0 / 16)) (accHi (firstT b0 / 16)) =
      if b0 < 194 ∨ 245 ≤ b0 then none
      else if b0 < 224 then (if n < 2 ∨ b1 < 128 ∨ 191 < b1 then none else some 2)
      else if b0 < 240 then (if n < 3 ∨ b1 < (if b0 = 224 then 160 else 128) ∨ (if b0 = 237 then 159 else 191) < b1 ∨ b2 < 128 ∨ 191 < b2 then none else some 3)
      else (if n < 4 ∨ b1 < (if b0 = 240 then 144 else 128) ∨ (if b0 = 244 then 143 else 191) < b1 ∨ b2 < 128 ∨ 191 < b2 ∨ b3 < 128 ∨ 191 < b3 then none else some 4) := by
  by_cases c0 : b0 < 194
  · simp [firstT, checkN, show ¬ b0 < 128 by omega, c0]
  by_cases c1 : b0 < 224
  · simp [firstT, checkN, accLo, accHi, show ¬ b0 < 128 by omega, c0, c1, show ¬ 245 ≤ b0 by omega]
  by_cases c2 : b0 = 224
  · subst c2; simp [firstT, checkN, accLo, accHi]
  by_cases c3 : b0 < 237
  · simp [firstT, checkN, accLo, accHi, show ¬ b0 < 128 by omega, c0, c1, c2, c3, show ¬ 245 ≤ b0 by omega, show b0 < 240 by omega, show ¬ b0 = 237 by omega]
  by_cases c4 : b0 = 237
  · subst c4; simp [firstT, checkN, accLo, accHi]
  by_cases c5 : b0 < 240
  · simp [firstT, checkN, accLo, accHi, show ¬ b0 < 128 by omega, c0, c1, c2, c3, c4, c5, show ¬ 245 ≤ b0 by omega]
  by_cases c6 : b0 = 240
  · subst c6; simp [firstT, checkN, accLo, accHi]
  by_cases c7 : b0 < 244
  · simp [firstT, checkN, accLo, accHi, show ¬ b0 < 128 by omega, c0, c1, c2, c3, c4, c5, c6, c7, show ¬ 245 ≤ b0 by omega, show ¬ b0 = 244 by omega]
  by_cases c8 : b0 = 244
  · subst c8; simp [firstT, checkN, accLo, accHi]
  · simp [firstT, checkN, accLo, accHi, show ¬ b0 < 128 by omega, c0, c1, c2, c3, c4, c5, c6, c7, c8, show 245 ≤ b0 by omega]
theorem tail2 (least v : Nat) (d1 : UInt8) (t : List UInt8) : tailR 2 least v (d1 :: t) = if contB d1 = true then endR 2 least (more v d1) else (0, 0) := by
  unfold tailR
  rw [if_neg (by simp only [List.length_cons]; omega)]
  show (if (contB d1 && true) = true then _ else _) = _
  rw [Bool.and_true]; rfl
theorem tail3 (least v : Nat) (d1 d2 : UInt8) (t : List UInt8) : tailR 3 least v (d1 :: d2 :: t) = if (contB d1 && contB d2) = true then endR 3 least (more (more v d1) d2) else (0, 0) := by
  unfold tailR
  rw [if_neg (by simp only [List.length_cons]; omega)]
  show (if (contB d1 && (contB d2 && true)) = true then _ else _) = _
  rw [Bool.and_true]; rfl
theorem tail4 (least v : Nat) (d1 d2 d3 : UInt8) (t : List UInt8) : tailR 4 least v (d1 :: d2 :: d3 :: t) = if (contB d1 && (contB d2 && contB d3)) = true then endR 4 least (more (more (more v d1) d2) d3) else (0, 0) := by
  unfold tailR
  rw [if_neg (by simp only [List.length_cons]; omega)]
  show (if (contB d1 && (contB d2 && (contB d3 && true))) = true then _ else _) = _
  rw [Bool.and_true]; rfl
theorem tail_short {n least v : Nat} {t : List UInt8} (h : t.length + 1 < n) : tailR n least v t = (0, 0) := by unfold tailR; rw [if_pos h]
theorem more_val (v : Nat) (d : UInt8) : more v d = v * 64 + d.toNat - 128 := rfl
theorem fst_end (n least v : Nat) : (endR n least v).1 = if v < least ∨ 1114111 < v ∨ (55296 ≤ v ∧ v < 57344) then 0 else n := by unfold endR; split <;> rfl
theorem cont_iff (d : UInt8) : contB d = true ↔ 128 ≤ d.toNat ∧ d.toNat < 192 := by unfold contB; simp
/-- A text is runes just if its first rune is one, and so is the rest. -/
theorem valid_rune (b : UInt8) (t : List UInt8) : Lib.validD (b :: t) = (!((runeR (b :: t)).1 == 0) && Lib.validD ((b :: t).drop (runeR (b :: t)).1)) := by
  by_cases hb : b.toNat < 128
  · have e : (runeR (b :: t)).1 = 1 := by rw [runeR_cons, if_pos hb]
    rw [e, Lib.validD_cons b t hb]; simp
  have hb' : b.toNat < 256 := b.toNat_lt
  rw [Lib.validD_lead (b :: t) (by simp) (by simp; omega), check_lead _ _ _ _ _ (by simp; omega) (by simp; omega)]
  have e0 : ((b :: t).getD 0 0) = b := rfl
  rw [e0]
  have key : ∀ x : Option Nat, x = (if (runeR (b :: t)).1 = 0 then none else some (runeR (b :: t)).1) → (match x with | none => false | some k => Lib.validD ((b :: t).drop k)) = (!((runeR (b :: t)).1 == 0) && Lib.validD ((b :: t).drop (runeR (b :: t)).1)) := by
    intro x hx
    subst hx
    by_cases c : (runeR (b :: t)).1 = 0 <;> simp [c]
  apply key
  rw [runeR_cons, if_neg hb]
  generalize b.toNat = c at *
  by_cases c0 : c < 192
  · simp [show c < 194 by omega, show ¬ 192 ≤ c by omega, show ¬ 224 ≤ c by omega, show ¬ 240 ≤ c by omega]
  by_cases c1 : c < 224
  · rw [if_pos (show 192 ≤ c ∧ c < 224 by omega)]
    rcases t with _ | ⟨d1, t⟩
    · rw [tail_short (by simp)]; simp [c1]
    · have l2 : ¬ ((b :: d1 :: t).length < 2) := by simp
      have g1 : (b :: d1 :: t).getD 1 0 = d1 := rfl
      rw [g1, tail2]
      generalize hE : endR 2 128 (more (c - 192) d1) = E
      simp only [l2, false_or, c1, if_true]
      subst hE
      unfold more
      by_cases k1 : contB d1 = true
      · rw [if_pos k1, fst_end]
        rw [cont_iff] at k1
        generalize d1.toNat = d at *
        (repeat' split) <;> first | rfl | (exfalso; omega) | (simp; done)
      · rw [if_neg k1]
        rw [cont_iff] at k1
        generalize d1.toNat = d at *
        (repeat' split) <;> first | rfl | (exfalso; omega) | (simp; done)
  by_cases c2 : c < 240
  · rw [if_neg (show ¬ (192 ≤ c ∧ c < 224) by omega), if_pos (show 224 ≤ c ∧ c < 240 by omega), if_neg (show ¬ (c < 194 ∨ 245 ≤ c) by omega), if_neg c1, if_pos c2]
    rcases t with _ | ⟨d1, _ | ⟨d2, t⟩⟩
    · rw [tail_short (by simp)]; simp
    · rw [tail_short (by simp)]; simp
    · have l2 : ¬ ((b :: d1 :: d2 :: t).length < 3) := by simp
      have g1 : (b :: d1 :: d2 :: t).getD 1 0 = d1 := rfl
      have g2 : (b :: d1 :: d2 :: t).getD 2 0 = d2 := rfl
      rw [g1, g2, tail3]
      generalize hE : endR 3 2048 (more (more (c - 224) d1) d2) = E
      simp only [l2, false_or]
      subst hE
      unfold more
      by_cases k1 : (contB d1 && contB d2) = true
      · rw [if_pos k1, fst_end]
        rw [Bool.and_eq_true, cont_iff, cont_iff] at k1
        generalize d1.toNat = d at *
        generalize d2.toNat = d' at *
        (repeat' split) <;> first | rfl | (exfalso; omega) | (simp; done)
      · rw [if_neg k1]
        rw [Bool.and_eq_true, cont_iff, cont_iff] at k1
        generalize d1.toNat = d at *
        generalize d2.toNat = d' at *
        (repeat' split) <;> first | rfl | (exfalso; omega) | (simp; done)
  by_cases c3 : c < 248
  · rw [if_neg (show ¬ (192 ≤ c ∧ c < 224) by omega), if_neg (show ¬ (224 ≤ c ∧ c < 240) by omega), if_pos (show 240 ≤ c ∧ c < 248 by omega)]
    rcases t with _ | ⟨d1, _ | ⟨d2, _ | ⟨d3, t⟩⟩⟩
    · rw [tail_short (by simp)]; simp [c1, c2]
    · rw [tail_short (by simp)]; simp [c1, c2]
    · rw [tail_short (by simp)]; simp [c1, c2]
    · have l2 : ¬ ((b :: d1 :: d2 :: d3 :: t).length < 4) := by simp
      have g1 : (b :: d1 :: d2 :: d3 :: t).getD 1 0 = d1 := rfl
      have g2 : (b :: d1 :: d2 :: d3 :: t).getD 2 0 = d2 := rfl
      have g3 : (b :: d1 :: d2 :: d3 :: t).getD 3 0 = d3 := rfl
      rw [g1, g2, g3, tail4]
      generalize hE : endR 4 65536 (more (more (more (c - 240) d1) d2) d3) = E
      simp only [l2, false_or, c1, c2, if_false]
      subst hE
      unfold more
      by_cases k1 : (contB d1 && (contB d2 && contB d3)) = true
      · rw [if_pos k1, fst_end]
        rw [Bool.and_eq_true, Bool.and_eq_true, cont_iff, cont_iff, cont_iff] at k1
        generalize d1.toNat = d at *
        generalize d2.toNat = d' at *
        generalize d3.toNat = d'' at *
        (repeat' split) <;> first | rfl | (exfalso; omega) | (simp; done)
      · rw [if_neg k1]
        rw [Bool.and_eq_true, Bool.and_eq_true, cont_iff, cont_iff, cont_iff] at k1
        generalize d1.toNat = d at *
        generalize d2.toNat = d' at *
        generalize d3.toNat = d'' at *
        (repeat' split) <;> first | rfl | (exfalso; omega) | (simp; done)
  · rw [if_neg (show ¬ (192 ≤ c ∧ c < 224) by omega), if_neg (show ¬ (224 ≤ c ∧ c < 240) by omega), if_neg (show ¬ (240 ≤ c ∧ c < 248) by omega), if_pos (by omega)]; simp
end Ru
end Go.Proofs.YtokjmgkoifakdaaDoor
namespace Go.Proofs.YtokjmgkoifakdaaDoor
set_option linter.unusedVariables false
open Go
def tx (l : List UInt8) : ByteArray := ⟨l.toArray⟩
theorem tx_list (l : List UInt8) : (tx l).data.toList = l := by simp [tx]
theorem tx_of (s : ByteArray) : tx s.data.toList = s := by cases s; simp [tx]
theorem tx_size (l : List UInt8) : (tx l).size = l.length := by show l.toArray.size = _; simp
theorem ln (s : ByteArray) : s.data.toList.length = s.size := Array.length_toList
theorem by_ext {a b : ByteArray} (h : a.data.toList = b.data.toList) : a = b := by rw [← tx_of a, ← tx_of b, h]
theorem app_list (a b : ByteArray) : (a ++ b).data.toList = a.data.toList ++ b.data.toList := by simp [ByteArray.data_append]
theorem ext_any (s : ByteArray) (a b : Nat) : (s.extract a b).data.toList = (s.data.toList.drop a).take (b - a) := by
  rw [ByteArray.data_extract, Array.toList_extract, List.extract_eq_take_drop]
theorem tx_head (l : List UInt8) (n : Nat) : (tx l).extract 0 n = tx (l.take n) := by
  apply by_ext; rw [ext_any, tx_list, tx_list]; simp
theorem tx_tail (l : List UInt8) (n : Nat) : (tx l).extract n l.length = tx (l.drop n) := by
  apply by_ext; rw [ext_any, tx_list, tx_list]; rw [List.take_of_length_le (by rw [List.length_drop]; omega)]
end Go.Proofs.YtokjmgkoifakdaaDoor
namespace Go.Proofs.YtokjmgkoifakdaaDoor
set_option linter.unusedVariables false
open Go Go.RowKit Go.Shelf Ru
theorem runeR_at (s : ByteArray) (c : UInt8) (h0 : 0 < s.size) (hc : s[0] = c) : s.data.toList = c :: s.data.toList.drop 1 := by
  have h := Lib.data_getElem? s 0 h0
  rw [hc] at h
  cases hd : s.data.toList with
  | nil => rw [hd] at h; simp at h
  | cons d r => rw [hd] at h; simp at h; subst h; rfl
theorem drop_at (s : ByteArray) (k : Nat) (hk : k + 1 < s.size) : (s.data.toList.drop 1)[k]? = some s[k + 1] := by
  rw [List.getElem?_drop, show 1 + k = k + 1 by omega]; exact Lib.data_getElem? s (k + 1) hk
theorem tail_no {n least v k : Nat} {t : List UInt8} {d : UInt8} (h : t[k]? = some d) (hk : k < n - 1) (hd : contB d = false) : tailR n least v t = (0, 0) := by
  unfold tailR
  split
  · rfl
  · rw [if_neg]
    intro ha
    rw [List.all_eq_true] at ha
    have hm : d ∈ t.take (n - 1) := by
      rw [List.mem_iff_getElem?]
      exact ⟨k, by rw [List.getElem?_take, if_pos hk]; exact h⟩
    rw [ha d hm] at hd; cases hd
theorem tail_yes {n least v : Nat} {t : List UInt8} (hl : n ≤ t.length + 1) (ha : (t.take (n - 1)).all contB = true) : tailR n least v t = endR n least ((t.take (n - 1)).foldl more v) := by
  unfold tailR
  rw [if_neg (by omega), if_pos ha]
/-- So far: k - 1 bytes behind the first, all of which go on. -/
def SoR (v0 : Nat) (t : List UInt8) (k m : Nat) : Prop := (t.take (k - 1)).all contB = true ∧ m = (t.take (k - 1)).foldl more v0
theorem SoR.next {v0 : Nat} {t : List UInt8} {k m : Nat} {d : UInt8} (h : SoR v0 t (k + 1) m) (hd : t[k]? = some d) (hc : contB d = true) : SoR v0 t (k + 2) (m * 64 + d.toNat - 128) := by
  obtain ⟨h1, h2⟩ := h
  have e : t.take (k + 2 - 1) = t.take k ++ [d] := by rw [show k + 2 - 1 = k + 1 by omega, List.take_add_one, hd]; rfl
  simp only [Nat.add_sub_cancel] at h1 h2
  refine ⟨by rw [e, List.all_append, h1]; simp [hc], ?_⟩
  rw [e, List.foldl_append, ← h2]; rfl
theorem cont_ways (d : UInt8) : (contB d = true ∧ (128 : Int) ≤ d.toNat ∧ (d.toNat : Int) < 192) ∨ (contB d = false ∧ ((d.toNat : Int) < 128 ∨ ((128 : Int) ≤ d.toNat ∧ (192 : Int) ≤ d.toNat))) := by
  cases h : contB d
  · right
    have h2 : ¬ (128 ≤ d.toNat ∧ d.toNat < 192) := fun c => by rw [(cont_iff d).2 c] at h; cases h
    exact ⟨rfl, by omega⟩
  · left
    have h2 := (cont_iff d).1 h
    exact ⟨rfl, by omega, by omega⟩
theorem end_bad {n least v : Nat} (h : v < least ∨ 1114111 < v ∨ (55296 ≤ v ∧ v < 57344)) : endR n least v = (0, 0) := by unfold endR; rw [if_pos h]
theorem end_ok {n least v : Nat} (h : ¬ (v < least ∨ 1114111 < v ∨ (55296 ≤ v ∧ v < 57344))) : endR n least v = (n, v) := by unfold endR; rw [if_neg h]
/-- Where the number of a rune may lie, by the walk's own tests. -/
theorem end_ways (n least v : Nat) (l : Int) (hl : (least : Int) = l) : (endR n least v = (0, 0) ∧ ((v : Int) < l ∨ (l ≤ v ∧ (1114111 : Int) < v) ∨ (l ≤ v ∧ (v : Int) ≤ 1114111 ∧ (55296 : Int) ≤ v ∧ (v : Int) < 57344))) ∨
    (endR n least v = (n, v) ∧ ((l ≤ v ∧ (v : Int) ≤ 1114111 ∧ (v : Int) < 55296) ∨ (l ≤ v ∧ (v : Int) ≤ 1114111 ∧ (55296 : Int) ≤ v ∧ (57344 : Int) ≤ v))) := by
  by_cases h : v < least ∨ 1114111 < v ∨ (55296 ≤ v ∧ v < 57344)
  · exact .inl ⟨end_bad h, by omega⟩
  · exact .inr ⟨end_ok h, by omega⟩
theorem byte_int {c : UInt8} {n : Nat} : ((c.toNat : Int) < n ↔ c.toNat < n) ∧ ((n : Int) ≤ c.toNat ↔ n ≤ c.toNat) := ⟨by omega, by omega⟩
set_option maxHeartbeats 4000000 in
set_option maxRecDepth 100000 in
theorem rune_any (s : ByteArray) (hs : s.size ≤ maxLen) (w : World) :
    Calls Tryd.prog 133 #[.string s] w fun e w' => e = .returned (.tuple #[.int .i64 ((runeR s.data.toList).1 : Nat), .int .i64 ((runeR s.data.toList).2 : Nat)]) ∧ w' = w := by
  obtain ⟨r1, r2, hr⟩ : ∃ r1 r2, runeR s.data.toList = (r1, r2) := ⟨_, _, rfl⟩
  rw [hr]
  have HR := Lib.hid hr
  have HSS := Lib.hid hs
  clear hr hs
  by_cases h0 : s.size = 0
  · have hz : s = ⟨#[]⟩ := by
      apply ByteArray.ext
      exact Array.size_eq_zero_iff.1 h0
    subst hz
    have HV : Hid (r1 = 0 ∧ r2 = 0) := Lib.hid (by have h : ((0, 0) : Nat × Nat) = (r1, r2) := HR.out; simpa [eq_comm] using h)
    clear h0 HR
    go_enter Tryd.func133, Tryd.ntmps133
    go_wp2_with fail
    go_ret2
    rw [HV.out.1, HV.out.2]
    exact ⟨rfl, rfl⟩
  · have hp : 0 < s.size := by omega
    obtain ⟨c, hc⟩ : ∃ c, s[0] = c := ⟨_, rfl⟩
    have hl := runeR_at s c hp hc
    have HT : Hid (∀ k (hk : k + 1 < s.size), (s.data.toList.drop 1)[k]? = some s[k + 1]) := Lib.hid (drop_at s)
    have HTL : Hid ((s.data.toList.drop 1).length + 1 = s.size) := Lib.hid (by rw [List.length_drop, ln]; omega)
    have HR2 : Hid (runeR (c :: s.data.toList.drop 1) = (r1, r2)) := Lib.hid (by rw [← hl]; exact HR.out)
    have he : s.toList.isEmpty = false := by
      rw [Go.ByteArray.toList_eq, List.isEmpty_eq_false_iff, hl]; simp
    clear hl HR h0
    generalize s.data.toList.drop 1 = t at HT HTL HR2
    have hb := c.toNat_lt
    by_cases c1 : c.toNat < 128
    · have c1' : (c.toNat : Int) < 128 := by omega
      have HV : Hid (r1 = 1 ∧ r2 = c.toNat) := Lib.hid (by have h := HR2.out; rw [runeR_cons, if_pos c1] at h; simpa [eq_comm] using h)
      clear HR2 HT HTL c1
      go_enter Tryd.func133, Tryd.ntmps133
      go_wp2_with fail
      go_ret2
      rw [HV.out.1, HV.out.2]
      exact ⟨rfl, rfl⟩
    · by_cases c2 : 192 ≤ c.toNat ∧ c.toNat < 224
      · obtain ⟨q, hq⟩ : ∃ q : Nat, c.toNat = q + 192 := ⟨c.toNat - 192, by omega⟩
        have HV : Hid (tailR 2 128 q t = (r1, r2)) := Lib.hid (by have h := HR2.out; rw [runeR_cons, if_neg c1, if_pos c2, show c.toNat - 192 = q by omega] at h; exact h)
        have HQ : Hid (q < 32) := Lib.hid (by omega)
        have c2a : ¬ (c.toNat : Int) < 128 := by omega
        have c2b : (192 : Int) ≤ c.toNat := by omega
        have c2c : (c.toNat : Int) < 224 := by omega
        have c2d : (c.toNat : Int) - 192 = q := by omega
        clear HR2 c2 c1 hq
        by_cases hn : s.size < 2
        · have hn' : (s.size : Int) < 2 := by omega
          have HZ : Hid (r1 = 0 ∧ r2 = 0) := Lib.hid (by have h := HV.out; rw [tail_short (by have := HTL.out; omega)] at h; simpa [eq_comm] using h)
          clear hn HV
          go_enter Tryd.func133, Tryd.ntmps133
          go_wp2_with fail
          go_ret2
          rw [HZ.out.1, HZ.out.2]
          exact ⟨rfl, rfl⟩
        · have hn' : ¬ (s.size : Int) < 2 := by omega
          have HN := Lib.hid hn
          clear hn
          go_enter Tryd.func133, Tryd.ntmps133
          go_wp2_with fail
          clear he hc hb hn' c2a c2b c2c c2d
          go_loop [7, 8] (fun v i => ∃ k m : Nat, i = .int .i64 ((k + 1 : Nat) : Int) ∧ v = .int .i64 (m : Int) ∧ k + 1 ≤ 2 ∧ m < 32 * 64 ^ k ∧ Hid (SoR q t (k + 1) m)) (fun _ i => 2 - (intOf i).toNat)
          case atStart => exact ⟨0, q, rfl, rfl, by omega, by have := HQ.out; omega, Lib.hid ⟨by simp, by simp⟩⟩
          case round =>
            obtain ⟨k, m, rfl, rfl, hk, hm, HS⟩ := hrel
            have HM := Lib.hid hm
            clear hm
            by_cases hlt : k + 1 < 2
            · have hks : k + 1 < s.size := by have := HN.out; omega
              have hd := HT.out k hks
              obtain ⟨d, hdd⟩ : ∃ d, s[k + 1] = d := ⟨_, rfl⟩
              rw [hdd] at hd
              have hd256 : (d.toNat : Int) < 256 := by have := d.toNat_lt; omega
              have HD := Lib.hid hd
              clear hd
              have hlt' : ((k + 1 : Nat) : Int) < 2 := by omega
              have hk0 : (0 : Int) ≤ ((k + 1 : Nat) : Int) := by omega
              have hks' : ((k + 1 : Nat) : Int) < (s.size : Int) := by omega
              rcases cont_ways d with ⟨hcc, h1, h2⟩ | ⟨hcc, h⟩
              · have h1' : ¬ (d.toNat : Int) < 128 := by omega
                have h2' : ¬ (192 : Int) ≤ (d.toNat : Int) := by omega
                have hm8 : m < 8388608 := by
                  have := HM.out
                  have h64 : 64 ^ k ≤ 64 ^ 2 := Nat.pow_le_pow_right (by omega) (by omega)
                  have h65 : 32 * 64 ^ k ≤ 32 * 64 ^ 2 := Nat.mul_le_mul_left _ h64
                  omega
                have e1 : wrap64 ((m : Int) * 64) = ((m * 64 : Nat) : Int) := by unfold wrap64; omega
                have e2 : wrap64 (((m * 64 : Nat) : Int) + (d.toNat : Int)) = ((m * 64 + d.toNat : Nat) : Int) := by unfold wrap64; omega
                have e3 : wrap64 (((m * 64 + d.toNat : Nat) : Int) - 128) = ((m * 64 + d.toNat - 128 : Nat) : Int) := by unfold wrap64; omega
                have eV : wrap64 (wrap64 ((m : Int) * 64 + (d.toNat : Int)) - 128) = ((m * 64 + d.toNat - 128 : Nat) : Int) := by unfold wrap64; omega
                have e4 : wrap64 (((k + 1 : Nat) : Int) + 1) = ((k + 2 : Nat) : Int) := by unfold wrap64; omega
                have HX := Lib.hid (HS.out.next HD.out hcc)
                have HMM : Hid (m * 64 + d.toNat - 128 < 32 * 64 ^ (k + 1)) := Lib.hid (by have := HM.out; rw [Nat.pow_succ]; omega)
                clear hm8 hcc HS HM
                go_wp2_with fail
                go_round
                case rel => exact ⟨k + 1, m * 64 + d.toNat - 128, by first | rfl | (rw [e4]) | go_num, by first | rfl | (rw [eV]), by omega, HMM.out, HX⟩
                case measure => (try rw [e4]); simp only [intOf, Int.toNat_natCast]; omega
              · have HZ : Hid (r1 = 0 ∧ r2 = 0) := Lib.hid (by have h := HV.out; rw [tail_no HD.out (by omega) hcc] at h; simpa [eq_comm] using h)
                clear hcc
                rcases h with h1 | ⟨h1, h2⟩
                · go_wp2_with fail
                  go_ret2
                  rw [HZ.out.1, HZ.out.2]
                  exact ⟨rfl, rfl⟩
                · have h1' : ¬ (d.toNat : Int) < 128 := by omega
                  go_wp2_with fail
                  go_ret2
                  rw [HZ.out.1, HZ.out.2]
                  exact ⟨rfl, rfl⟩
            · obtain rfl : k = 1 := by omega
              have HE : Hid (endR 2 128 m = (r1, r2)) := Lib.hid (by
                have h := HV.out
                rw [tail_yes (by have := HTL.out; have := HN.out; omega) HS.out.1] at h
                rw [HS.out.2]; exact h)
              clear hlt hk HS HM HV
              rcases end_ways 2 128 m 128 rfl with ⟨he, h⟩ | ⟨he, h⟩
              · have HZ : Hid (r1 = 0 ∧ r2 = 0) := Lib.hid (by have h := HE.out; rw [he] at h; simpa [eq_comm] using h)
                clear he HE
                rcases h with h1 | ⟨h1, h2⟩ | ⟨h1, h2, h3, h4⟩
                all_goals
                  (try have g1 : ¬ (m : Int) < 128 := by omega)
                  (try have g2 : ¬ (1114111 : Int) < (m : Int) := by omega)
                  go_wp2_with fail
                  go_ret2
                  rw [HZ.out.1, HZ.out.2]
                  exact ⟨rfl, rfl⟩
              · have HZ : Hid (r1 = 2 ∧ r2 = m) := Lib.hid (by have h := HE.out; rw [he] at h; simpa [eq_comm] using h)
                clear he HE
                rcases h with ⟨h1, h2, h3⟩ | ⟨h1, h2, h3, h4⟩
                all_goals
                  have g1 : ¬ (m : Int) < 128 := by omega
                  have g2 : ¬ (1114111 : Int) < (m : Int) := by omega
                  (try have g3 : ¬ (55296 : Int) ≤ (m : Int) := by omega)
                  (try have g4 : ¬ (m : Int) < 57344 := by omega)
                  go_wp2_with fail
                  go_ret2
                  rw [HZ.out.1, HZ.out.2]
                  exact ⟨rfl, rfl⟩
      · by_cases c3 : 224 ≤ c.toNat ∧ c.toNat < 240
        · obtain ⟨q, hq⟩ : ∃ q : Nat, c.toNat = q + 224 := ⟨c.toNat - 224, by omega⟩
          have HV : Hid (tailR 3 2048 q t = (r1, r2)) := Lib.hid (by have h := HR2.out; rw [runeR_cons, if_neg c1, if_neg c2, if_pos c3, show c.toNat - 224 = q by omega] at h; exact h)
          have HQ : Hid (q < 32) := Lib.hid (by omega)
          have c3a : ¬ (c.toNat : Int) < 128 := by omega
          have c3e : (192 : Int) ≤ c.toNat := by omega
          have c3f : ¬ (c.toNat : Int) < 224 := by omega
          have c3b : (224 : Int) ≤ c.toNat := by omega
          have c3c : (c.toNat : Int) < 240 := by omega
          have c3d : (c.toNat : Int) - 224 = q := by omega
          clear HR2 c3 c1 hq
          by_cases hn : s.size < 3
          · have hn' : (s.size : Int) < 3 := by omega
            have HZ : Hid (r1 = 0 ∧ r2 = 0) := Lib.hid (by have h := HV.out; rw [tail_short (by have := HTL.out; omega)] at h; simpa [eq_comm] using h)
            clear hn HV
            go_enter Tryd.func133, Tryd.ntmps133
            go_wp2_with fail
            go_ret2
            rw [HZ.out.1, HZ.out.2]
            exact ⟨rfl, rfl⟩
          · have hn' : ¬ (s.size : Int) < 3 := by omega
            have HN := Lib.hid hn
            clear hn
            go_enter Tryd.func133, Tryd.ntmps133
            go_wp2_with fail
            clear he hc hb hn' c3a c3b c3c c3d c3e c3f
            go_loop [7, 8] (fun v i => ∃ k m : Nat, i = .int .i64 ((k + 1 : Nat) : Int) ∧ v = .int .i64 (m : Int) ∧ k + 1 ≤ 3 ∧ m < 32 * 64 ^ k ∧ Hid (SoR q t (k + 1) m)) (fun _ i => 3 - (intOf i).toNat)
            case atStart => exact ⟨0, q, rfl, rfl, by omega, by have := HQ.out; omega, Lib.hid ⟨by simp, by simp⟩⟩
            case round =>
              obtain ⟨k, m, rfl, rfl, hk, hm, HS⟩ := hrel
              have HM := Lib.hid hm
              clear hm
              by_cases hlt : k + 1 < 3
              · have hks : k + 1 < s.size := by have := HN.out; omega
                have hd := HT.out k hks
                obtain ⟨d, hdd⟩ : ∃ d, s[k + 1] = d := ⟨_, rfl⟩
                rw [hdd] at hd
                have hd256 : (d.toNat : Int) < 256 := by have := d.toNat_lt; omega
                have HD := Lib.hid hd
                clear hd
                have hlt' : ((k + 1 : Nat) : Int) < 3 := by omega
                have hk0 : (0 : Int) ≤ ((k + 1 : Nat) : Int) := by omega
                have hks' : ((k + 1 : Nat) : Int) < (s.size : Int) := by omega
                rcases cont_ways d with ⟨hcc, h1, h2⟩ | ⟨hcc, h⟩
                · have h1' : ¬ (d.toNat : Int) < 128 := by omega
                  have h2' : ¬ (192 : Int) ≤ (d.toNat : Int) := by omega
                  have hm8 : m < 8388608 := by
                    have := HM.out
                    have h64 : 64 ^ k ≤ 64 ^ 2 := Nat.pow_le_pow_right (by omega) (by omega)
                    have h65 : 32 * 64 ^ k ≤ 32 * 64 ^ 2 := Nat.mul_le_mul_left _ h64
                    omega
                  have e1 : wrap64 ((m : Int) * 64) = ((m * 64 : Nat) : Int) := by unfold wrap64; omega
                  have e2 : wrap64 (((m * 64 : Nat) : Int) + (d.toNat : Int)) = ((m * 64 + d.toNat : Nat) : Int) := by unfold wrap64; omega
                  have e3 : wrap64 (((m * 64 + d.toNat : Nat) : Int) - 128) = ((m * 64 + d.toNat - 128 : Nat) : Int) := by unfold wrap64; omega
                  have eV : wrap64 (wrap64 ((m : Int) * 64 + (d.toNat : Int)) - 128) = ((m * 64 + d.toNat - 128 : Nat) : Int) := by unfold wrap64; omega
                  have e4 : wrap64 (((k + 1 : Nat) : Int) + 1) = ((k + 2 : Nat) : Int) := by unfold wrap64; omega
                  have HX := Lib.hid (HS.out.next HD.out hcc)
                  have HMM : Hid (m * 64 + d.toNat - 128 < 32 * 64 ^ (k + 1)) := Lib.hid (by have := HM.out; rw [Nat.pow_succ]; omega)
                  clear hm8 hcc HS HM
                  go_wp2_with fail
                  go_round
                  case rel => exact ⟨k + 1, m * 64 + d.toNat - 128, by first | rfl | (rw [e4]) | go_num, by first | rfl | (rw [eV]), by omega, HMM.out, HX⟩
                  case measure => (try rw [e4]); simp only [intOf, Int.toNat_natCast]; omega
                · have HZ : Hid (r1 = 0 ∧ r2 = 0) := Lib.hid (by have h := HV.out; rw [tail_no HD.out (by omega) hcc] at h; simpa [eq_comm] using h)
                  clear hcc
                  rcases h with h1 | ⟨h1, h2⟩
                  · go_wp2_with fail
                    go_ret2
                    rw [HZ.out.1, HZ.out.2]
                    exact ⟨rfl, rfl⟩
                  · have h1' : ¬ (d.toNat : Int) < 128 := by omega
                    go_wp2_with fail
                    go_ret2
                    rw [HZ.out.1, HZ.out.2]
                    exact ⟨rfl, rfl⟩
              · obtain rfl : k = 2 := by omega
                have HE : Hid (endR 3 2048 m = (r1, r2)) := Lib.hid (by
                  have h := HV.out
                  rw [tail_yes (by have := HTL.out; have := HN.out; omega) HS.out.1] at h
                  rw [HS.out.2]; exact h)
                clear hlt hk HS HM HV
                rcases end_ways 3 2048 m 2048 rfl with ⟨he, h⟩ | ⟨he, h⟩
                · have HZ : Hid (r1 = 0 ∧ r2 = 0) := Lib.hid (by have h := HE.out; rw [he] at h; simpa [eq_comm] using h)
                  clear he HE
                  rcases h with h1 | ⟨h1, h2⟩ | ⟨h1, h2, h3, h4⟩
                  all_goals
                    (try have g1 : ¬ (m : Int) < 2048 := by omega)
                    (try have g2 : ¬ (1114111 : Int) < (m : Int) := by omega)
                    go_wp2_with fail
                    go_ret2
                    rw [HZ.out.1, HZ.out.2]
                    exact ⟨rfl, rfl⟩
                · have HZ : Hid (r1 = 3 ∧ r2 = m) := Lib.hid (by have h := HE.out; rw [he] at h; simpa [eq_comm] using h)
                  clear he HE
                  rcases h with ⟨h1, h2, h3⟩ | ⟨h1, h2, h3, h4⟩
                  all_goals
                    have g1 : ¬ (m : Int) < 2048 := by omega
                    have g2 : ¬ (1114111 : Int) < (m : Int) := by omega
                    (try have g3 : ¬ (55296 : Int) ≤ (m : Int) := by omega)
                    (try have g4 : ¬ (m : Int) < 57344 := by omega)
                    go_wp2_with fail
                    go_ret2
                    rw [HZ.out.1, HZ.out.2]
                    exact ⟨rfl, rfl⟩
        · by_cases c4 : 240 ≤ c.toNat ∧ c.toNat < 248
          · obtain ⟨q, hq⟩ : ∃ q : Nat, c.toNat = q + 240 := ⟨c.toNat - 240, by omega⟩
            have HV : Hid (tailR 4 65536 q t = (r1, r2)) := Lib.hid (by have h := HR2.out; rw [runeR_cons, if_neg c1, if_neg c2, if_neg c3, if_pos c4, show c.toNat - 240 = q by omega] at h; exact h)
            have HQ : Hid (q < 32) := Lib.hid (by omega)
            have c4a : ¬ (c.toNat : Int) < 128 := by omega
            have c4e : (192 : Int) ≤ c.toNat := by omega
            have c4f : ¬ (c.toNat : Int) < 224 := by omega
            have c4g : (224 : Int) ≤ c.toNat := by omega
            have c4h : ¬ (c.toNat : Int) < 240 := by omega
            have c4b : (240 : Int) ≤ c.toNat := by omega
            have c4c : (c.toNat : Int) < 248 := by omega
            have c4d : (c.toNat : Int) - 240 = q := by omega
            clear HR2 c4 c1 hq
            by_cases hn : s.size < 4
            · have hn' : (s.size : Int) < 4 := by omega
              have HZ : Hid (r1 = 0 ∧ r2 = 0) := Lib.hid (by have h := HV.out; rw [tail_short (by have := HTL.out; omega)] at h; simpa [eq_comm] using h)
              clear hn HV
              go_enter Tryd.func133, Tryd.ntmps133
              go_wp2_with fail
              go_ret2
              rw [HZ.out.1, HZ.out.2]
              exact ⟨rfl, rfl⟩
            · have hn' : ¬ (s.size : Int) < 4 := by omega
              have HN := Lib.hid hn
              clear hn
              go_enter Tryd.func133, Tryd.ntmps133
              go_wp2_with fail
              clear he hc hb hn' c4a c4b c4c c4d c4e c4f c4g c4h
              go_loop [7, 8] (fun v i => ∃ k m : Nat, i = .int .i64 ((k + 1 : Nat) : Int) ∧ v = .int .i64 (m : Int) ∧ k + 1 ≤ 4 ∧ m < 32 * 64 ^ k ∧ Hid (SoR q t (k + 1) m)) (fun _ i => 4 - (intOf i).toNat)
              case atStart => exact ⟨0, q, rfl, rfl, by omega, by have := HQ.out; omega, Lib.hid ⟨by simp, by simp⟩⟩
              case round =>
                obtain ⟨k, m, rfl, rfl, hk, hm, HS⟩ := hrel
                have HM := Lib.hid hm
                clear hm
                by_cases hlt : k + 1 < 4
                · have hks : k + 1 < s.size := by have := HN.out; omega
                  have hd := HT.out k hks
                  obtain ⟨d, hdd⟩ : ∃ d, s[k + 1] = d := ⟨_, rfl⟩
                  rw [hdd] at hd
                  have hd256 : (d.toNat : Int) < 256 := by have := d.toNat_lt; omega
                  have HD := Lib.hid hd
                  clear hd
                  have hlt' : ((k + 1 : Nat) : Int) < 4 := by omega
                  have hk0 : (0 : Int) ≤ ((k + 1 : Nat) : Int) := by omega
                  have hks' : ((k + 1 : Nat) : Int) < (s.size : Int) := by omega
                  rcases cont_ways d with ⟨hcc, h1, h2⟩ | ⟨hcc, h⟩
                  · have h1' : ¬ (d.toNat : Int) < 128 := by omega
                    have h2' : ¬ (192 : Int) ≤ (d.toNat : Int) := by omega
                    have hm8 : m < 8388608 := by
                      have := HM.out
                      have h64 : 64 ^ k ≤ 64 ^ 2 := Nat.pow_le_pow_right (by omega) (by omega)
                      have h65 : 32 * 64 ^ k ≤ 32 * 64 ^ 2 := Nat.mul_le_mul_left _ h64
                      omega
                    have e1 : wrap64 ((m : Int) * 64) = ((m * 64 : Nat) : Int) := by unfold wrap64; omega
                    have e2 : wrap64 (((m * 64 : Nat) : Int) + (d.toNat : Int)) = ((m * 64 + d.toNat : Nat) : Int) := by unfold wrap64; omega
                    have e3 : wrap64 (((m * 64 + d.toNat : Nat) : Int) - 128) = ((m * 64 + d.toNat - 128 : Nat) : Int) := by unfold wrap64; omega
                    have eV : wrap64 (wrap64 ((m : Int) * 64 + (d.toNat : Int)) - 128) = ((m * 64 + d.toNat - 128 : Nat) : Int) := by unfold wrap64; omega
                    have e4 : wrap64 (((k + 1 : Nat) : Int) + 1) = ((k + 2 : Nat) : Int) := by unfold wrap64; omega
                    have HX := Lib.hid (HS.out.next HD.out hcc)
                    have HMM : Hid (m * 64 + d.toNat - 128 < 32 * 64 ^ (k + 1)) := Lib.hid (by have := HM.out; rw [Nat.pow_succ]; omega)
                    clear hm8 hcc HS HM
                    go_wp2_with fail
                    go_round
                    case rel => exact ⟨k + 1, m * 64 + d.toNat - 128, by first | rfl | (rw [e4]) | go_num, by first | rfl | (rw [eV]), by omega, HMM.out, HX⟩
                    case measure => (try rw [e4]); simp only [intOf, Int.toNat_natCast]; omega
                  · have HZ : Hid (r1 = 0 ∧ r2 = 0) := Lib.hid (by have h := HV.out; rw [tail_no HD.out (by omega) hcc] at h; simpa [eq_comm] using h)
                    clear hcc
                    rcases h with h1 | ⟨h1, h2⟩
                    · go_wp2_with fail
                      go_ret2
                      rw [HZ.out.1, HZ.out.2]
                      exact ⟨rfl, rfl⟩
                    · have h1' : ¬ (d.toNat : Int) < 128 := by omega
                      go_wp2_with fail
                      go_ret2
                      rw [HZ.out.1, HZ.out.2]
                      exact ⟨rfl, rfl⟩
                · obtain rfl : k = 3 := by omega
                  have HE : Hid (endR 4 65536 m = (r1, r2)) := Lib.hid (by
                    have h := HV.out
                    rw [tail_yes (by have := HTL.out; have := HN.out; omega) HS.out.1] at h
                    rw [HS.out.2]; exact h)
                  clear hlt hk HS HM HV
                  rcases end_ways 4 65536 m 65536 rfl with ⟨he, h⟩ | ⟨he, h⟩
                  · have HZ : Hid (r1 = 0 ∧ r2 = 0) := Lib.hid (by have h := HE.out; rw [he] at h; simpa [eq_comm] using h)
                    clear he HE
                    rcases h with h1 | ⟨h1, h2⟩ | ⟨h1, h2, h3, h4⟩
                    all_goals
                      (try have g1 : ¬ (m : Int) < 65536 := by omega)
                      (try have g2 : ¬ (1114111 : Int) < (m : Int) := by omega)
                      go_wp2_with fail
                      go_ret2
                      rw [HZ.out.1, HZ.out.2]
                      exact ⟨rfl, rfl⟩
                  · have HZ : Hid (r1 = 4 ∧ r2 = m) := Lib.hid (by have h := HE.out; rw [he] at h; simpa [eq_comm] using h)
                    clear he HE
                    rcases h with ⟨h1, h2, h3⟩ | ⟨h1, h2, h3, h4⟩
                    all_goals
                      have g1 : ¬ (m : Int) < 65536 := by omega
                      have g2 : ¬ (1114111 : Int) < (m : Int) := by omega
                      (try have g3 : ¬ (55296 : Int) ≤ (m : Int) := by omega)
                      (try have g4 : ¬ (m : Int) < 57344 := by omega)
                      go_wp2_with fail
                      go_ret2
                      rw [HZ.out.1, HZ.out.2]
                      exact ⟨rfl, rfl⟩
          · have HZ : Hid (r1 = 0 ∧ r2 = 0) := Lib.hid (by have h := HR2.out; rw [runeR_cons, if_neg c1, if_neg c2, if_neg c3, if_neg c4] at h; simpa [eq_comm] using h)
            have a1 : ¬ (c.toNat : Int) < 128 := by omega
            have hw : (c.toNat : Int) < 192 ∨ (248 : Int) ≤ (c.toNat : Int) := by omega
            clear HR2 HT HTL c1 c2 c3 c4
            rcases hw with h | h
            · have b1 : ¬ (192 : Int) ≤ (c.toNat : Int) := by omega
              have b2 : ¬ (224 : Int) ≤ (c.toNat : Int) := by omega
              have b3 : ¬ (240 : Int) ≤ (c.toNat : Int) := by omega
              go_enter Tryd.func133, Tryd.ntmps133
              go_wp2_with fail
              go_ret2
              rw [HZ.out.1, HZ.out.2]
              exact ⟨rfl, rfl⟩
            · have b1 : (192 : Int) ≤ (c.toNat : Int) := by omega
              have b2 : (224 : Int) ≤ (c.toNat : Int) := by omega
              have b3 : (240 : Int) ≤ (c.toNat : Int) := by omega
              have b4 : ¬ (c.toNat : Int) < 224 := by omega
              have b5 : ¬ (c.toNat : Int) < 240 := by omega
              have b6 : ¬ (c.toNat : Int) < 248 := by omega
              go_enter Tryd.func133, Tryd.ntmps133
              go_wp2_with fail
              go_ret2
              rw [HZ.out.1, HZ.out.2]
              exact ⟨rfl, rfl⟩
theorem tailR_le (n least v : Nat) (t : List UInt8) : (tailR n least v t).1 ≤ t.length + 1 := by
  unfold tailR
  split
  · omega
  · split
    · unfold endR; split <;> simp; omega
    · simp
theorem runeR_le (l : List UInt8) : (runeR l).1 ≤ l.length := by
  cases l with
  | nil => exact Nat.le_refl _
  | cons b t =>
    rw [runeR_cons]
    have h2 := tailR_le 2 128 (b.toNat - 192) t
    have h3 := tailR_le 3 2048 (b.toNat - 224) t
    have h4 := tailR_le 4 65536 (b.toNat - 240) t
    rw [List.length_cons]
    split
    · simp
    · split
      · exact h2
      · split
        · exact h3
        · split
          · exact h4
          · simp
def strSz : Value → Nat | .string b => b.size | _ => 0
theorem valid_at {t : ByteArray} (h : 0 < t.size) : Lib.validD t.data.toList = (!((runeR t.data.toList).1 == 0) && Lib.validD (t.extract (runeR t.data.toList).1 t.size).data.toList) := by
  have e : (t.extract (runeR t.data.toList).1 t.size).data.toList = t.data.toList.drop (runeR t.data.toList).1 := by
    rw [ext_any, ← ln, List.take_of_length_le (by rw [List.length_drop]; omega)]
  rw [e]
  have hl := ln t
  cases hd : t.data.toList with
  | nil => rw [hd] at hl; simp at hl; omega
  | cons b r => exact valid_rune b r
set_option maxHeartbeats 1000000 in
set_option maxRecDepth 100000 in
theorem runes_any (s : ByteArray) (hs : s.size ≤ maxLen) (w : World) :
    Calls Tryd.prog 103 #[.string s] w fun e w' => e = .returned (.bool (Lib.validD s.data.toList)) ∧ w' = w := by
  obtain ⟨R, hR⟩ : ∃ R, R = Lib.validD s.data.toList := ⟨_, rfl⟩
  rw [← hR]
  have HR := Lib.hid hR
  have HS := Lib.hid hs
  have HC := Lib.hid (fun (t : ByteArray) (h : t.size ≤ s.size) (W : World) => rune_any t (Nat.le_trans h HS.out) W)
  clear hR hs
  go_enter Tryd.func103, Tryd.ntmps103
  go_wp2_with fail
  go_loop [0] (fun v => ∃ t : ByteArray, v = .string t ∧ Hid (t.size ≤ s.size) ∧ Hid (R = Lib.validD t.data.toList)) (fun v => strSz v)
  case atStart => exact ⟨s, rfl, Lib.hid (Nat.le_refl _), HR⟩
  case round =>
    obtain ⟨t, rfl, HT, HV⟩ := hrel
    by_cases h0 : t.size = 0
    · have hz : t = ⟨#[]⟩ := by
        apply ByteArray.ext
        exact Array.size_eq_zero_iff.1 h0
      subst hz
      have HE : Hid (R = true) := Lib.hid (by rw [HV.out]; rfl)
      clear HV h0
      go_wp2_with fail
      go_ret
      rw [HE.out]
      exact ⟨rfl, rfl⟩
    · have hp : 0 < t.size := by omega
      have he : t.toList.isEmpty = false := by
        rw [Go.ByteArray.toList_eq, List.isEmpty_eq_false_iff]
        intro h
        have h2 := ln t
        rw [h] at h2
        exact h0 h2.symm
      have HV2 := Lib.hid (HV.out.trans (valid_at hp))
      have hle := runeR_le t.data.toList
      rw [ln] at hle
      have HCC := Lib.hid (fun W => HC.out t HT.out W)
      have HSZ : Hid (t.size ≤ s.size ∧ t.size ≤ maxLen) := Lib.hid ⟨HT.out, Nat.le_trans HT.out HS.out⟩
      clear h0 HV
      generalize (runeR t.data.toList).1 = n at HV2 hle HCC
      generalize (runeR t.data.toList).2 = v at HCC
      by_cases hn : n = 0
      · subst hn
        have HE : Hid (R = false) := Lib.hid (by rw [HV2.out]; rfl)
        clear HV2 hle
        go_wp2_with fail
        refine (HCC.out _).mono ?_
        rintro e w' ⟨rfl, rfl⟩
        go_wp2_with fail
        go_ret
        rw [HE.out]
        exact ⟨rfl, rfl⟩
      · have hn0 : ((n : Int) == 0) = false := by simp; omega
        have hn1 : ¬ (n : Int) = 0 := by omega
        have HE : Hid (R = Lib.validD (t.extract n t.size).data.toList) := Lib.hid (by rw [HV2.out, show (n == 0) = false by simpa using hn]; rfl)
        have hle' : (n : Int) ≤ (t.size : Int) := by omega
        have hn2 : (0 : Int) ≤ (n : Int) := by omega
        have HX : Hid ((t.extract n t.size).size ≤ s.size ∧ (t.extract n t.size).size < t.size) := Lib.hid (by rw [ByteArray.size_extract]; have := HSZ.out; omega)
        clear HV2 hn
        go_wp2_with fail
        refine (HCC.out _).mono ?_
        rintro e w' ⟨rfl, rfl⟩
        go_wp2_with fail
        go_round
        case rel => exact ⟨_, rfl, Lib.hid HX.out.1, HE⟩
        case measure => exact HX.out.2
end Go.Proofs.YtokjmgkoifakdaaDoor
namespace Go.Proofs.YtokjmgkoifakdaaDoor
set_option linter.unusedVariables false
open Go Go.RowKit Go.Shelf Pl
def lessT (a b : Nm) : Bool := Op.bytesLess a.toList b.toList
def eqT (a b : Nm) : Bool := a.toList == b.toList
def cmpV (a b : Val) : Int := if a.kind < b.kind then -1 else if b.kind < a.kind then 1 else if a.n < b.n then -1 else if b.n < a.n then 1 else if lessT a.text b.text = true then -1 else if eqT a.text b.text = true then 0 else 1
def orL : List Int → Int
  | [] => 0
  | x :: r => if x = 0 then orL r else x
theorem orL_at {L : List Int} {k : Nat} {n : Int} (h : L[k]? = some n) : orL (L.drop k) = if n = 0 then orL (L.drop (k + 1)) else n := by
  have hk : k < L.length := (List.getElem?_eq_some_iff.1 h).1
  have e := (List.getElem?_eq_some_iff.1 h).2
  rw [List.drop_eq_getElem_cons hk, e]
  rfl
set_option maxHeartbeats 1000000 in
theorem or_any (L : List Int) (g c : Nat) (w : World) (hc : ∀ j (h : j < L.length), w.cell? ⟨g, j, none⟩ = some (.int .i64 L[j])) (hl : L.length ≤ 1000) :
    Calls Tryd.prog 120 #[.slice (some ⟨g, 0, none⟩) L.length c] w fun e w' => e = .returned (.int .i64 (orL L)) ∧ w' = w := by
  obtain ⟨r, hr⟩ : ∃ r, r = orL L := ⟨_, rfl⟩
  rw [← hr]
  have HC := Lib.hid hc
  have HS : Hid (L.length ≤ maxLen) := Lib.hid (by unfold maxLen; omega)
  have HR := Lib.hid hr
  clear hc hl hr
  go_enter Tryd.func120, Tryd.ntmps120
  go_wp2
  go_loop [8] (fun i => ∃ k : Nat, k ≤ L.length ∧ i = .int .i64 k ∧ Hid (r = orL (L.drop k))) (fun i => L.length - (intOf i).toNat)
  case atStart => exact ⟨0, Nat.zero_le _, rfl, HR⟩
  case round =>
    obtain ⟨k, hk, rfl, HA⟩ := hrel
    by_cases hlt : k < L.length
    · have hcell := HC.out k hlt
      have hx : L[k]? = some L[k] := List.getElem?_eq_getElem hlt
      generalize hcc : L[k] = n at hx hcell
      have HA2 := Lib.hid (HA.out.trans (orL_at hx))
      clear hx HA hcc
      by_cases h0 : n = 0
      · subst h0
        have HN := Lib.hid (HA2.out.trans (if_pos rfl))
        go_wp2_with fail
        go_round
        case rel => exact ⟨k + 1, by omega, congrArg _ (wrap_s HS.out hlt), HN⟩
        case measure =>
          rw [wrap_s HS.out hlt]
          exact int_less hlt
      · have HN := Lib.hid (HA2.out.trans (if_neg h0))
        go_wp2_with fail
        go_ret
        rw [HN.out]
        exact ⟨rfl, rfl⟩
    · obtain rfl : k = L.length := by omega
      have HE : Hid (r = 0) := Lib.hid (by rw [HA.out, List.drop_length]; rfl)
      go_wp2_with fail
      go_ret
      rw [HE.out]
      exact ⟨rfl, rfl⟩
end Go.Proofs.YtokjmgkoifakdaaDoor
namespace Go.Proofs.YtokjmgkoifakdaaDoor
set_option linter.unusedVariables false
open Go Go.RowKit Go.Shelf Pl
end Go.Proofs.YtokjmgkoifakdaaDoor
namespace Go.Proofs.YtokjmgkoifakdaaDoor
set_option linter.unusedVariables false
open Go Go.RowKit Go.Shelf Pl
theorem cmp_bytes : ∀ a b : List UInt8, Lib.compareBytes a b = if Op.bytesLess a b = true then -1 else if (a == b) = true then 0 else 1
  | [], [] => by simp [Lib.compareBytes, Op.bytesLess]
  | [], _ :: _ => by simp [Lib.compareBytes, Op.bytesLess]
  | _ :: _, [] => by simp [Lib.compareBytes, Op.bytesLess]
  | x :: a, y :: b => by
    have ih := cmp_bytes a b
    rw [Lib.compareBytes, Op.bytesLess, ih]
    by_cases h1 : x < y
    · simp [h1]
    · by_cases h2 : y < x
      · have h3 : ¬ x = y := fun e => by subst e; exact h1 h2
        simp [h1, h2, h3]
      · have h3 : x = y := UInt8.toNat_inj.1 (by rw [UInt8.lt_iff_toNat_lt] at h1 h2; omega)
        subst h3
        simp
theorem or_cmp (k n k' n' : Int) (t t' : Nm) : orL [Lib.compareInt k k', Lib.compareInt n n', Lib.compareBytes t.data.toList t'.data.toList] = cmpV ⟨k, n, t⟩ ⟨k', n', t'⟩ := by
  rw [cmp_bytes]
  unfold cmpV lessT eqT Lib.compareInt
  rw [Go.ByteArray.toList_eq, Go.ByteArray.toList_eq]
  simp only [orL]
  rcases Int.lt_trichotomy k k' with h | h | h
  · simp [h]
  · subst h
    rcases Int.lt_trichotomy n n' with h | h | h
    · simp [h]
    · subst h
      cases Op.bytesLess t.data.toList t'.data.toList <;> cases t.data.toList == t'.data.toList <;> simp
    · have h2 : ¬ n < n' := by omega
      simp [h, h2]
  · have h2 : ¬ k < k' := by omega
    simp [h, h2]
end Go.Proofs.YtokjmgkoifakdaaDoor
namespace Go.Proofs.YtokjmgkoifakdaaDoor
set_option linter.unusedVariables false
open Go Go.RowKit Go.Shelf Pl
/-- The first field of a name. -/
def getL (L : List Fld) (s : Nm) : Option Val := (L.find? fun x => x.name.toList == s.toList).map fun x => x.val
theorem getL_hit {L : List Fld} {k : Nat} {x : Fld} {s : Nm} (hx : L[k]? = some x) (e : (x.name.toList == s.toList) = true) : getL (L.drop k) s = some x.val := by
  have hk : k < L.length := (List.getElem?_eq_some_iff.1 hx).1
  have e2 := (List.getElem?_eq_some_iff.1 hx).2
  unfold getL
  rw [List.drop_eq_getElem_cons hk, e2, List.find?_cons_of_pos (p := fun x : Fld => x.name.toList == s.toList) e]
  rfl
theorem getL_miss {L : List Fld} {k : Nat} {x : Fld} {s : Nm} (hx : L[k]? = some x) (e : (x.name.toList == s.toList) = false) : getL (L.drop k) s = getL (L.drop (k + 1)) s := by
  have hk : k < L.length := (List.getElem?_eq_some_iff.1 hx).1
  have e2 := (List.getElem?_eq_some_iff.1 hx).2
  unfold getL
  rw [List.drop_eq_getElem_cons hk, e2, List.find?_cons_of_neg (p := fun x : Fld => x.name.toList == s.toList) (by simp [e])]
def gotV : Option Val → Value
  | none => .tuple #[.agg #[.int .i64 0, .int .i64 0, .string ⟨#[]⟩], .bool false]
  | some v => .tuple #[.agg #[.int .i64 v.kind, .int .i64 v.n, .string v.text], .bool true]
end Go.Proofs.YtokjmgkoifakdaaDoor
