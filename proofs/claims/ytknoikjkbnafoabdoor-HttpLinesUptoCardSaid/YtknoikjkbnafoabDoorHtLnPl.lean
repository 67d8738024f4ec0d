/- A line of another name in the head of what Write told: what Parse reads then. Over plain bytes. Conditions: none. -/
import Derived.Test.YtknoikjkbnafoabDoorHtLBack
namespace Go.Proofs.YtknoikjkbnafoabDoor
set_option linter.unusedVariables false
open Go Go.RowKit Go.Shelf Ht
namespace Ht
def letB (c : UInt8) : Bool := smallB c || capB c
def plainOk (n : Bs) : Bool := decide (n ≠ []) && (n.all letB && decide (n.length < 10))
def lineX (n v : Bs) : Bs := n ++ ([58, 32] ++ v)
theorem plain_parts {n : Bs} (h : plainOk n = true) : n ≠ [] ∧ n.length < 10 ∧ n.all letB = true := by
  unfold plainOk at h
  simp only [Bool.and_eq_true, decide_eq_true_eq] at h
  exact ⟨h.1, h.2.2, h.2.1⟩
theorem let_name (b : UInt8) (h : letB b = true) : nameB b = true := by
  unfold letB at h; unfold nameB
  cases h1 : smallB b <;> cases h2 : capB b <;> simp [h1, h2] at h ⊢
theorem let_asc (b : UInt8) (h : letB b = true) : b.toNat < 128 := by
  unfold letB at h
  rcases Bool.or_eq_true _ _ ▸ h with h | h
  · simp only [smallB, Bool.and_eq_true, decide_eq_true_eq] at h
    have := le_of h.2
    have e : (122 : UInt8).toNat = 122 := rfl
    omega
  · exact cap_asc b h
theorem all_to {p q : UInt8 → Bool} {l : Bs} (hpq : ∀ b, p b = true → q b = true) (h : l.all p = true) : l.all q = true :=
  List.all_eq_true.2 fun b hb => hpq b (List.all_eq_true.1 h b hb)
theorem high_mem {v : Bs} (hv : ∀ b ∈ v, 32 ≤ b.toNat) {c : UInt8} (hc : c.toNat < 32) : c ∉ v := fun h => by have := hv c h; omega
theorem cut_x {n : Bs} (v : Bs) (hn : n.all letB = true) : Lib.cut (lineX n v) [58] = (n, 32 :: v, true) := by
  have := cut_at 58 [] n (32 :: v) (all_not hn (by decide))
  rw [← this]
  simp [lineX]
theorem x_ok {n v : Bs} (hn : plainOk n = true) (hv : ∀ b ∈ v, 32 ≤ b.toNat) : lineOk (lineX n v) := by
  obtain ⟨h1, -, h3⟩ := plain_parts hn
  refine ⟨by simp [lineX], ?_⟩
  simp only [lineX, List.mem_append, not_or]
  exact ⟨all_not h3 (by decide), by decide, high_mem hv (by decide)⟩
theorem x_dumb {n v : Bs} (hn : plainOk n = true) (hv : ∀ b ∈ v, 32 ≤ b.toNat) : dumb (lineX n v) := by
  obtain ⟨h1, h2, h3⟩ := plain_parts hn
  have hany : Lib.containsAny (32 :: v) [10, 13, 0] = false := any_not fun b hb hm => by
    have hb2 : 32 ≤ b.toNat := by
      rcases List.mem_cons.1 hb with rfl | hb
      · decide
      · exact hv b hb
    have : b = 10 ∨ b = 13 ∨ b = 0 := by simpa using hm
    rcases this with rfl | rfl | rfl <;> revert hb2 <;> decide
  have hc : cutLine (lineX n v) = (Lib.toLowerA n, Lib.trimS (32 :: v) [32, 9], true) := by
    unfold cutLine
    rw [cut_x v h3]
    simp only [hany, all_to let_name h3]
    rw [decide_eq_true h1]
    rfl
  have hl : (Lib.toLowerA n).length < 10 := by simpa [Lib.toLowerA] using h2
  refine ⟨x_ok hn hv, by rw [hc], ?_, ?_⟩
  · rw [hc]
    intro h
    rw [show (Lib.toLowerA n, Lib.trimS (32 :: v) [32, 9], true).1 = Lib.toLowerA n from rfl] at h
    rw [h] at hl
    exact absurd hl (by decide)
  · rw [hc]
    intro h
    rw [show (Lib.toLowerA n, Lib.trimS (32 :: v) [32, 9], true).1 = Lib.toLowerA n from rfl] at h
    rw [h] at hl
    exact absurd hl (by decide)
/-- The text with the line in it. -/
def withX (m p b n v : Bs) : Bs := lines [firstL m p, lineX n v, lenL b.length] ++ (crlf ++ b)
theorem all_ok {m p b n v : Bs} (hm : methodOk m = true) (hp : pathOk p = true) (hn : plainOk n = true) (hv : ∀ b ∈ v, 32 ≤ b.toNat) : ∀ x ∈ [firstL m p, lineX n v, lenL b.length], lineOk x := fun x hx => by
  rcases List.mem_cons.1 hx with rfl | hx
  · exact (first_ok hm hp).1
  · rcases List.mem_cons.1 hx with rfl | hx
    · exact x_ok hn hv
    · rw [List.mem_singleton.1 hx]; exact lenL_ok _
theorem head_x {m p b n v : Bs} (hm : methodOk m = true) (hp : pathOk p = true) (hn : plainOk n = true) (hv : ∀ b ∈ v, 32 ≤ b.toNat) : headOf (withX m p b n v) = lines [firstL m p, lineX n v, lenL b.length] ++ crlf :=
  head_lines _ b (all_ok hm hp hn hv) (by simp)
/-- The names of the head's lines are of ASCII. -/
def readN (s : Bs) : Prop := (Lib.cut s hend).2.2 = true → ascN ((Lib.cut (headOf s) crlf).2.1.length + 1) (Lib.cut (headOf s) crlf).2.1
theorem read_x {m p b n v : Bs} (hm : methodOk m = true) (hp : pathOk p = true) (hn : plainOk n = true) (hv : ∀ b ∈ v, 32 ≤ b.toNat) : readN (withX m p b n v) := fun _ => by
  rw [head_x hm hp hn hv, cut_line _ _ _ (first_ok hm hp).1]
  have hc := cut_line (lineX n v) [lenL b.length] crlf (x_ok hn hv)
  obtain ⟨-, -, h3⟩ := plain_parts hn
  refine ⟨?_, fun _ => ?_⟩
  · rw [hc, cut_x v h3]
    exact asc_of let_asc h3
  · rw [hc]
    exact asc_ascN _ (asc_app (asc_lines fun x hx => by rw [List.mem_singleton.1 hx]; exact asc_len _) asc_crlf)
theorem parse_x {m p b n v : Bs} (hm : methodOk m = true) (hp : pathOk p = true) (hb : b.length ≤ 262144) (hn : plainOk n = true) (hv : ∀ b ∈ v, 32 ≤ b.toNat)
    (hl : (withX m p b n v).length - b.length ≤ 4096) : parse (withX m p b n v) = ((m, p, b), 0) := by
  have := parse_lines hm hp [lineX n v, lenL b.length] (fun x hx => all_ok (b := b) hm hp hn hv x (List.mem_cons_of_mem _ hx)) b.length (body_dumb _ _ (x_dumb hn hv) hb)
    (by unfold withX at hl; rw [List.length_append, List.length_append] at hl; rw [List.length_append]; omega) b
  rw [if_pos rfl] at this
  exact this
theorem parse_xbig {m p b n v : Bs} (hm : methodOk m = true) (hp : pathOk p = true) (hn : plainOk n = true) (hv : ∀ b ∈ v, 32 ≤ b.toNat)
    (hl : 4096 < (withX m p b n v).length - b.length) : parse (withX m p b n v) = (([], [], []), 41) := by
  unfold parse
  rw [head_x hm hp hn hv, if_pos (by unfold withX at hl; rw [List.length_append, List.length_append] at hl; rw [List.length_append]; omega)]
theorem head_split (m p b : Bs) : headW m p b ++ b = firstL m p ++ (crlf ++ (lenL b.length ++ (hend ++ b))) := by
  rw [headW_lines]
  simp [lines, crlf, hend]
theorem with_split (m p b n v : Bs) : withX m p b n v = (((((firstL m p ++ crlf) ++ n) ++ [58, 32]) ++ v) ++ [13, 10]) ++ (lenL b.length ++ (hend ++ b)) := by
  unfold withX
  simp [lines, crlf, hend, lineX]
theorem no10 {m p : Bs} (hm : methodOk m = true) (hp : pathOk p = true) : (10 : UInt8) ∉ firstL m p := by
  simp only [firstL, List.mem_append, List.mem_singleton, not_or]
  exact ⟨⟨⟨⟨all_not (method_parts hm).2.2 (by decide), by decide⟩, all_not (path_parts hp).2 (by decide)⟩, by decide⟩, by decide⟩
end Ht
theorem parse_w (s : ByteArray) (m p b : List UInt8) (e : Int) (h : parse s.data.toList = ((m, p, b), e)) (hs : s.size ≤ 16777215) (hr : readN s.data.toList) (w : World) (G : Gh w) :
    Calls Tryd.prog 8 #[.string s] w fun e' w' => e' = .returned (.tuple #[.agg #[.string (B m), .string (B p), .string (B b)], .int .i64 e]) ∧ Below w.heap.size w w' := by
  have := parse_gen s w hs hr G
  unfold parseV reqV at this
  rw [h] at this
  exact this
end Go.Proofs.YtknoikjkbnafoabDoor
