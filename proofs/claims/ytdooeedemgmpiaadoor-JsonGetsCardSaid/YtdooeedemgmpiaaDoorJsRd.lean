/- The reader of package json in memory, and its smallest calls. Conditions: none but those that each theorem names. -/
import Derived.Test.YtdooeedemgmpiaaDoorJsPlain
import Derived.Test.YtdooeedemgmpiaaDoorGr
import Derived.Test.YtdooeedemgmpiaaDoorShelf
namespace Go.Proofs.YtdooeedemgmpiaaDoor
set_option linter.unusedVariables false
open Go Go.RowKit Js

theorem ret_bool {a b : Bool} (h : a = b) : Ending.returned (.bool a) = .returned (.bool b) := by rw [h]
theorem ret_int {k : IntKind} {a b : Int} (h : a = b) : Ending.returned (.int k a) = .returned (.int k b) := by rw [h]
/-- The reader of s at block R has l before it. -/
structure Rd (R : Nat) (s : ByteArray) (l : Bs) (w : World) : Prop where
  suffix : s.data.toList.drop (s.size - l.length) = l
  le : l.length ≤ s.size
  block : w.heap[R]? = some (.cells #[.string s, .int .i64 ((s.size - l.length : Nat) : Int)] 44 (0, 0))

theorem Rd.lt {R : Nat} {s : ByteArray} {l : Bs} {w : World} (h : Rd R s l w) : R < w.heap.size := (Array.getElem?_eq_some_iff.1 h.block).1
theorem Rd.kept {R : Nat} {s : ByteArray} {l : Bs} {w w' : World} (h : Rd R s l w) (hb : w'.heap[R]? = w.heap[R]?) : Rd R s l w' := ⟨h.suffix, h.le, hb.trans h.block⟩
theorem Rd.drewN {R : Nat} {s : ByteArray} {l : Bs} {w : World} (h : Rd R s l w) (n : Nat) : Rd R s l (w.drewN n) := h.kept rfl
theorem Rd.alloc {R : Nat} {s : ByteArray} {l : Bs} {w : World} (h : Rd R s l w) (o : Obj) : Rd R s l (w.alloc o) := h.kept (Below.heap_alloc _ _ _ h.lt)
theorem Rd.cells {R : Nat} {s : ByteArray} {l : Bs} {w : World} (h : Rd R s l w) : w.cell? ⟨R, 0, none⟩ = some (.string s) ∧ w.cell? ⟨R, 1, none⟩ = some (.int .i64 ((s.size - l.length : Nat) : Int)) ∧ w.frozen? ⟨R, 1, none⟩ = false := by
  have := h.block
  refine ⟨?_, ?_, ?_⟩ <;> simp [World.cell?, World.frozen?, this]
/-- The byte that comes. -/
theorem Rd.head {R : Nat} {s : ByteArray} {c : UInt8} {l : Bs} {w : World} (h : Rd R s (c :: l) w) : ∃ (k : Nat) (hk : k < s.size), s.size - (c :: l).length = k ∧ s.size - l.length = k + 1 ∧ s[k]'hk = c := by
  have hl := h.le
  simp only [List.length_cons] at hl
  have hd := h.suffix
  simp only [List.length_cons] at hd ⊢
  refine ⟨s.size - (l.length + 1), by omega, rfl, by omega, ?_⟩
  have e : s.data.toList[s.size - (l.length + 1)]? = some c := by
    have := congrArg List.head? hd
    rw [List.head?_drop] at this
    simpa using this
  rw [List.getElem?_eq_some_iff] at e
  obtain ⟨_, e⟩ := e
  exact e
/-- The reader goes on by one byte. -/
theorem Rd.tail {R : Nat} {s : ByteArray} {c : UInt8} {l : Bs} {w w' : World} (h : Rd R s (c :: l) w) (hb : w'.heap[R]? = some (.cells #[.string s, .int .i64 ((s.size - l.length : Nat) : Int)] 44 (0, 0))) : Rd R s l w' := by
  have hl := h.le
  simp only [List.length_cons] at hl
  refine ⟨?_, by omega, hb⟩
  have hd := congrArg List.tail h.suffix
  rw [List.tail_drop] at hd
  simp only [List.length_cons, List.tail_cons] at hd
  rwa [show s.size - (l.length + 1) + 1 = s.size - l.length by omega] at hd

set_option maxHeartbeats 400000 in
theorem next_end (R : Nat) (s : ByteArray) (w : World) (h : Rd R s [] w) (hs : s.size ≤ maxLen) :
    Calls Tryd.prog 29 #[.pointer (some ⟨R, 0, none⟩)] w fun e w' => e = .returned (.int .u8 0) ∧ ∃ n, w' = w.drewN n := by
  unfold maxLen at hs
  obtain ⟨c0, c1, _⟩ := h.cells
  rw [show s.size - ([] : Bs).length = s.size from rfl] at c1
  clear h
  go_enter Tryd.func29, Tryd.ntmps29
  go_wp2
  go_quiet (fail)
  go_wp2
  go_ret
  exact ⟨rfl, _, rfl⟩
set_option maxHeartbeats 400000 in
theorem next_byte (R : Nat) (s : ByteArray) (c : UInt8) (l : Bs) (w : World) (h : Rd R s (c :: l) w) (hs : s.size ≤ maxLen) :
    Calls Tryd.prog 29 #[.pointer (some ⟨R, 0, none⟩)] w fun e w' => e = .returned (.int .u8 c.toNat) ∧ ∃ n, w' = w.drewN n := by
  unfold maxLen at hs
  obtain ⟨c0, c1, _⟩ := h.cells
  obtain ⟨k, hk, e1, _, e2⟩ := h.head
  rw [e1] at c1
  clear h e1
  subst e2
  have hk' : (k : Int) < s.size := by omega
  go_enter Tryd.func29, Tryd.ntmps29
  go_wp2
  go_quiet (fail)
  go_wp2
  go_quiet (fail)
  go_wp2
  go_ret
  exact ⟨rfl, _, World.drewN_drewN _ _ _⟩

/-- What the reader stands at: 0 behind the end. -/
def headZ : Bs → Int | [] => 0 | c :: _ => c.toNat
theorem next_any (R : Nat) (s : ByteArray) (l : Bs) (w : World) (h : Rd R s l w) (hs : s.size ≤ maxLen) :
    Calls Tryd.prog 29 #[.pointer (some ⟨R, 0, none⟩)] w fun e w' => e = .returned (.int .u8 (headZ l)) ∧ ∃ n, w' = w.drewN n := by
  cases l with
  | nil => exact next_end R s w h hs
  | cons c l => exact next_byte R s c l w h hs
/-- Is the byte that comes one of these? -/
def takes (t : ByteArray) : Bs → Bool | [] => false | c :: _ => t.data.toList.contains c
theorem index_neg (l : Bs) (c : UInt8) : Lib.indexByte l c < 0 ↔ l.contains c = false := by
  induction l with
  | nil => simp [Lib.indexByte]
  | cons b l ih =>
    unfold Lib.indexByte
    have hg := Lib.indexByte_ge l c
    by_cases h : b = c
    · subst h; simp
    · have h' : ¬ c = b := fun e => h e.symm
      have e1 : (b == c) = false := by simpa using h
      have e2 : (b :: l).contains c = l.contains c := by simp [h']
      rw [e1, e2, ← ih]
      by_cases hx : Lib.indexByte l c = -1
      · simp [hx]
      · simp [hx]; omega
set_option maxHeartbeats 400000 in
theorem take_no (R : Nat) (s t : ByteArray) (l : Bs) (w : World) (h : Rd R s l w) (hs : s.size ≤ maxLen) (h0 : t.data.toList.contains 0 = false) (hn : takes t l = false) :
    Calls Tryd.prog 28 #[.pointer (some ⟨R, 0, none⟩), .string t] w fun e w' => e = .returned (.bool false) ∧ Gr none' w w' := by
  have hi : Lib.indexByte t.data.toList (headZ l).toNat.toUInt8 < 0 := by
    rw [index_neg]
    cases l with
    | nil => exact h0
    | cons c l => simpa [headZ, takes] using hn
  clear hn h0
  go_enter Tryd.func28, Tryd.ntmps28
  go_wp2_with fail
  refine (next_any R s l _ h hs).mono ?_
  rintro e w' ⟨rfl, n, rfl⟩
  go_wp2_with fail
  refine (Tryd.strings_IndexByte _ _ _).mono ?_
  rintro e w' ⟨rfl, rfl⟩
  go_wp2_with fail
  go_ret
  exact ⟨rfl, (Gr.refl _ _).drewN _⟩
set_option maxHeartbeats 400000 in
theorem take_yes (R : Nat) (s t : ByteArray) (c : UInt8) (l : Bs) (w : World) (h : Rd R s (c :: l) w) (hs : s.size ≤ maxLen) (hn : takes t (c :: l) = true) :
    Calls Tryd.prog 28 #[.pointer (some ⟨R, 0, none⟩), .string t] w fun e w' => e = .returned (.bool true) ∧ Gr (one' R) w w' ∧ Rd R s l w' := by
  have hi : ¬ Lib.indexByte t.data.toList (headZ (c :: l)).toNat.toUInt8 < 0 := by
    rw [index_neg]
    simpa [headZ, takes] using hn
  obtain ⟨c0, c1, f1⟩ := h.cells
  obtain ⟨k, hk, e1, e2, e3⟩ := h.head
  rw [e1] at c1
  have E2 := Lib.hid e2
  clear hn e1 e3 e2
  unfold maxLen at hs
  go_enter Tryd.func28, Tryd.ntmps28
  go_wp2_with fail
  refine (next_any R s (c :: l) _ h hs).mono ?_
  rintro e w' ⟨rfl, n, rfl⟩
  go_wp2_with fail
  refine (Tryd.strings_IndexByte _ _ _).mono ?_
  rintro e w' ⟨rfl, rfl⟩
  generalize Lib.indexByte t.data.toList (headZ (c :: l)).toNat.toUInt8 = x at hi
  go_wp2_with fail
  go_ret
  refine ⟨rfl, Gr.setCell (S := one' R) (a := ⟨R, 1, none⟩) ((Gr.refl _ _).drewN _) (fun _ => rfl) _, (h.drewN n).tail ?_⟩
  rw [E2.out, show ((k + 1 : Nat) : Int) = (k : Int) + 1 from rfl]
  exact heap_setCell_same _ _ _ _ _ _ (h.drewN n).block
theorem drop_takes {t : ByteArray} {c : UInt8} {l : Bs} (h : takes t (c :: l) = true) : (c :: l).dropWhile t.data.toList.contains = l.dropWhile t.data.toList.contains := by
  rw [List.dropWhile_cons_of_pos]; exact h
theorem drop_stays {t : ByteArray} {l : Bs} (h : takes t l = false) : l.dropWhile t.data.toList.contains = l := by
  cases l with
  | nil => rfl
  | cons c l => rw [List.dropWhile_cons_of_neg]; simpa [takes] using h
/-- The rest behind all of these bytes. -/
def skips (t : ByteArray) (l : Bs) : Bs := l.dropWhile t.data.toList.contains
theorem skips_le (t : ByteArray) (l : Bs) : (skips t l).length ≤ l.length := by
  unfold skips
  induction l with
  | nil => simp
  | cons c l ih => rw [List.dropWhile_cons]; split <;> simp <;> omega
def SkipR (R : Nat) (s t : ByteArray) (l : Bs) (w : World) (g : Nat) (wr : World) : Prop := ∃ l', Rd R s l' wr ∧ Gr (one' R) w wr ∧ skips t l' = skips t l ∧ l'.length = g
set_option maxHeartbeats 1000000 in
theorem skip_any (R : Nat) (s t : ByteArray) (l : Bs) (w : World) (h : Rd R s l w) (hs : s.size ≤ maxLen) (h0 : t.data.toList.contains 0 = false) :
    Calls Tryd.prog 20 #[.pointer (some ⟨R, 0, none⟩), .string t] w fun e w' => e = .returned (.bool (decide ((skips t l).length < l.length))) ∧ Gr (one' R) w w' ∧ Rd R s (skips t l) w' := by
  obtain ⟨c0, c1, f1⟩ := h.cells
  have hle := h.le
  have H := Lib.hid h
  have hs' := hs
  unfold maxLen at hs'
  have H0 := Lib.hid h0
  clear h h0 f1
  go_enter Tryd.func20, Tryd.ntmps20
  go_wp2_with fail
  go_loopg [12] l.length (fun g _ wr => SkipR R s t l w g wr)
  case atStart => exact ⟨l, H.out, Gr.refl _ _, rfl, rfl⟩
  case round =>
    obtain ⟨l', hr, hg, hk, hgk⟩ := hrel
    have HG := Lib.hid hg
    have HK := Lib.hid hk
    have HGK := Lib.hid hgk
    clear hg hk hgk
    by_cases ht : takes t l' = true
    · obtain ⟨c, l'', rfl⟩ : ∃ c l'', l' = c :: l'' := by
        cases l' with
        | nil => simp [takes] at ht
        | cons c l'' => exact ⟨_, _, rfl⟩
      have HT := Lib.hid ht
      have HR := Lib.hid hr
      clear ht hr
      go_wp2_with fail
      refine (take_yes R s t c l'' _ HR.out hs HT.out).mono ?_
      rintro e w1 ⟨rfl, hg1, hr1⟩
      have HF : Hid (SkipR R s t l w l''.length w1) := Lib.hid ⟨l'', hr1, HG.out.trans hg1, (drop_takes HT.out).symm.trans HK.out, rfl⟩
      have hgk := HGK.out
      simp only [List.length_cons] at hgk
      clear hg1 hr1
      go_wp2_with fail
      go_roundg l''.length
      case rel => exact HF.out
      case measure => omega
    · have ht' : takes t l' = false := by simpa using ht
      have he := (drop_stays ht').symm.trans HK.out
      have hle' := skips_le t l
      have HE := Lib.hid he
      have HT := Lib.hid ht'
      have HR := Lib.hid hr
      clear ht ht' hr he
      go_wp2_with fail
      refine (take_no R s t l' _ HR.out hs H0.out HT.out).mono ?_
      rintro e w1 ⟨rfl, hg1⟩
      have hr1 := HR.out.kept (hg1.block R HR.out.lt (fun x => x))
      rw [HE.out] at hr1
      obtain ⟨d0, d1, _⟩ := hr1.cells
      have HR1 := Lib.hid hr1
      have HG1 := Lib.hid hg1
      clear hr1 hg1 c0 c1 d0
      go_wp2_with fail
      go_ret
      exact ⟨ret_bool (by rw [decide_eq_decide]; omega), HG.out.trans HG1.out.weak, HR1.out⟩
end Go.Proofs.YtdooeedemgmpiaaDoor
