/- Vectors as lists of whole numbers: sums of products, of squares, and how they hold together. Plain mathematics, no condition but those that each theorem names. -/
import Derived.Test.YtfgmkdghpdpdkaaNumPlain
namespace Go.Proofs.Ytfgmkdghpdpdkaa
namespace Vc
def partB (n : Int) : Bool := decide (-32768 ≤ n) && decide (n ≤ 32767)
def vecB (L : List Int) : Bool := decide (1 ≤ L.length) && decide (L.length ≤ 64) && L.all partB
def zeroL (L : List Int) : Bool := L.all fun n => n == 0
def metB (m : Int) : Bool := decide (m = 1 ∨ m = 2 ∨ m = 3)
def alikeB (a b : List Int) : Bool := decide (a.length = b.length) && vecB a && vecB b
def dot : List Int → List Int → Int
  | a :: as, b :: bs => a * b + dot as bs
  | _, _ => 0
def sub : List Int → List Int → List Int
  | a :: as, b :: bs => (a - b) :: sub as bs
  | _, _ => []
def sq (a b : List Int) : Int := dot (sub a b) (sub a b)
theorem partB_is {n : Int} : partB n = true ↔ -32768 ≤ n ∧ n ≤ 32767 := by simp [partB]
theorem sub_length : ∀ (a b : List Int), a.length = b.length → (sub a b).length = a.length
  | [], [], _ => rfl
  | _ :: as, _ :: bs, h => by simp [sub, sub_length as bs (by simpa using h)]
theorem sub_at : ∀ (a b : List Int) (_ : a.length = b.length) (k : Nat) (ha : k < a.length) (hb : k < b.length) (hs : k < (sub a b).length), (sub a b)[k] = a[k] - b[k]
  | _ :: as, _ :: bs, h, 0, _, _, _ => rfl
  | _ :: as, _ :: bs, h, k + 1, ha, hb, hs => by
    have := sub_at as bs (by simpa using h) k (by simpa using ha) (by simpa using hb) (by simpa [sub] using hs)
    simpa [sub] using this
theorem dot_take : ∀ (a b : List Int) (k : Nat) (ha : k < a.length) (hb : k < b.length), dot (a.take (k + 1)) (b.take (k + 1)) = dot (a.take k) (b.take k) + a[k] * b[k]
  | a :: as, b :: bs, 0, _, _ => by simp [dot]
  | a :: as, b :: bs, k + 1, ha, hb => by
    have := dot_take as bs k (by simpa using ha) (by simpa using hb)
    simp only [List.take_succ_cons, dot, List.getElem_cons_succ]
    omega
/-- Bounds of a sum of products. -/
theorem dot_bd (M : Int) : ∀ (a b : List Int), (∀ i (h : i < a.length) (h' : i < b.length), -M ≤ a[i] * b[i] ∧ a[i] * b[i] ≤ M) → -((a.length : Int) * M) ≤ dot a b ∧ dot a b ≤ (a.length : Int) * M ∨ M < 0
  | [], b, _ => by left; simp [dot]
  | a :: as, [], h => by
    rcases Int.lt_or_le M 0 with hm | hm
    · exact .inr hm
    · left; have := Int.mul_nonneg (Int.natCast_nonneg (as.length + 1)) hm; simp only [dot, List.length_cons]; omega
  | a :: as, b :: bs, h => by
    rcases dot_bd M as bs (fun i h1 h2 => by have := h (i + 1) (by simpa using h1) (by simpa using h2); simpa using this) with ih | ih
    · left
      have h0 := h 0 (by simp) (by simp)
      simp only [List.getElem_cons_zero] at h0
      have e : (((a :: as).length : Nat) : Int) * M = (as.length : Int) * M + M := by rw [List.length_cons]; push_cast; rw [Int.add_mul, Int.one_mul]
      rw [e]
      simp only [dot]
      omega
    · exact .inr ih
theorem mul_bd {x y P Q : Int} (h1 : -P ≤ x) (h2 : x ≤ P) (h3 : -Q ≤ y) (h4 : y ≤ Q) : -(P * Q) ≤ x * y ∧ x * y ≤ P * Q := by
  have e : (x * y).natAbs ≤ (P * Q).natAbs := by
    rw [Int.natAbs_mul, Int.natAbs_mul]
    exact Nat.mul_le_mul (by omega) (by omega)
  have hp : 0 ≤ P * Q := Int.mul_nonneg (by omega) (by omega)
  omega
theorem parts_of {L : List Int} (h : vecB L = true) : 1 ≤ L.length ∧ L.length ≤ 64 ∧ ∀ i (hi : i < L.length), -32768 ≤ L[i] ∧ L[i] ≤ 32767 := by
  simp only [vecB, Bool.and_eq_true, decide_eq_true_eq, List.all_eq_true] at h
  exact ⟨h.1.1, h.1.2, fun i hi => partB_is.mp (h.2 _ (List.getElem_mem hi))⟩
theorem take_bd {a b : List Int} (ha : vecB a = true) (hb : vecB b = true) (k : Nat) : -68719476736 ≤ dot (a.take k) (b.take k) ∧ dot (a.take k) (b.take k) ≤ 68719476736 := by
  obtain ⟨a1, a2, a3⟩ := parts_of ha
  obtain ⟨b1, b2, b3⟩ := parts_of hb
  rcases dot_bd 1073741824 (a.take k) (b.take k) (fun i h h' => by
    simp only [List.getElem_take]
    have x := a3 i (by simp at h; omega)
    have y := b3 i (by simp at h'; omega)
    exact mul_bd (P := 32768) (Q := 32768) (by omega) (by omega) (by omega) (by omega)) with h | h
  · have : (a.take k).length ≤ 64 := by simp; omega
    omega
  · omega
theorem sub_bd {a b : List Int} (h : a.length = b.length) (ha : vecB a = true) (hb : vecB b = true) (i : Nat) (hi : i < (sub a b).length) : -65535 ≤ (sub a b)[i] ∧ (sub a b)[i] ≤ 65535 := by
  obtain ⟨a1, a2, a3⟩ := parts_of ha
  obtain ⟨b1, b2, b3⟩ := parts_of hb
  have hl := sub_length a b h
  rw [sub_at a b h i (by omega) (by omega) hi]
  have x := a3 i (by omega)
  have y := b3 i (by omega)
  omega
theorem sq_take_bd {a b : List Int} (h : a.length = b.length) (ha : vecB a = true) (hb : vecB b = true) (k : Nat) :
    -274869518400 ≤ dot ((sub a b).take k) ((sub a b).take k) ∧ dot ((sub a b).take k) ((sub a b).take k) ≤ 274869518400 := by
  obtain ⟨a1, a2, a3⟩ := parts_of ha
  have hl := sub_length a b h
  rcases dot_bd 4294836225 ((sub a b).take k) ((sub a b).take k) (fun i h' h'' => by
    simp only [List.getElem_take]
    have x := sub_bd h ha hb i (by simp at h'; omega)
    exact mul_bd (P := 65535) (Q := 65535) (by omega) (by omega) (by omega) (by omega)) with h' | h'
  · have : ((sub a b).take k).length ≤ 64 := by simp; omega
    omega
  · omega
theorem dot_comm : ∀ a b : List Int, dot a b = dot b a
  | [], [] => rfl
  | [], _ :: _ => rfl
  | _ :: _, [] => rfl
  | a :: as, b :: bs => by simp only [dot]; rw [dot_comm as bs, Int.mul_comm]
theorem sq_comm : ∀ a b : List Int, sq a b = sq b a
  | [], [] => rfl
  | [], _ :: _ => rfl
  | _ :: _, [] => rfl
  | a :: as, b :: bs => by
    have := sq_comm as bs
    unfold sq at this ⊢
    simp only [sub, dot]
    have e : (b - a) * (b - a) = (a - b) * (a - b) := by rw [← Int.neg_sub a b, Int.neg_mul_neg]
    rw [this, e]
theorem sqr_nonneg (x : Int) : 0 ≤ x * x := by
  rcases Int.le_total 0 x with h | h
  · exact Int.mul_nonneg h h
  · have := Int.mul_nonneg (Int.neg_nonneg_of_nonpos h) (Int.neg_nonneg_of_nonpos h); rwa [Int.neg_mul_neg] at this
theorem dot_self_nonneg : ∀ a : List Int, 0 ≤ dot a a
  | [] => by simp [dot]
  | a :: as => by simp only [dot]; have := dot_self_nonneg as; have := sqr_nonneg a; omega
theorem sq_nonneg (a b : List Int) : 0 ≤ sq a b := dot_self_nonneg _
theorem sq_zero : ∀ a b : List Int, a.length = b.length → (sq a b = 0 ↔ a = b)
  | [], [], _ => by simp [sq, sub, dot]
  | a :: as, b :: bs, h => by
    have ih := sq_zero as bs (by simpa using h)
    have h1 := sqr_nonneg (a - b)
    have h2 := sq_nonneg as bs
    have e : sq (a :: as) (b :: bs) = (a - b) * (a - b) + sq as bs := rfl
    rw [e]
    constructor
    · intro h0
      have e1 : (a - b) * (a - b) = 0 := by omega
      have e2 : a - b = 0 := by rcases Int.mul_eq_zero.mp e1 with h | h <;> exact h
      have e3 := ih.mp (by omega)
      rw [e3, show a = b by omega]
    · intro h0
      injection h0 with h3 h4
      rw [ih.mpr h4, h3]; simp
theorem sq_sum : ∀ a b : List Int, a.length = b.length → dot a a + dot b b = sq a b + 2 * dot a b
  | [], [], _ => by simp [sq, sub, dot]
  | a :: as, b :: bs, h => by
    have ih := sq_sum as bs (by simpa using h)
    have e : sq (a :: as) (b :: bs) = (a - b) * (a - b) + sq as bs := rfl
    have e2 : (a - b) * (a - b) = a * a + b * b - 2 * (a * b) := by
      rw [Int.sub_mul, Int.mul_sub, Int.mul_sub, Int.mul_comm b a]; omega
    rw [e, e2]
    simp only [dot]
    omega
theorem sub_moved (m : Int) : ∀ a b : List Int, sub (a.map (· + m)) (b.map (· + m)) = sub a b
  | [], _ => by simp [sub]
  | _ :: _, [] => by simp [sub]
  | a :: as, b :: bs => by simp only [List.map_cons, sub, sub_moved m as bs]; rw [show a + m - (b + m) = a - b by omega]
theorem sq_moved (m : Int) (a b : List Int) : sq (a.map (· + m)) (b.map (· + m)) = sq a b := by unfold sq; rw [sub_moved]
/-- The form that is never less than nothing. -/
theorem form_nonneg (s t : Int) : ∀ u v : List Int, u.length = v.length → 0 ≤ s * s * dot u u - 2 * (s * t) * dot u v + t * t * dot v v
  | [], [], _ => by simp [dot]
  | u :: us, v :: vs, h => by
    have ih := form_nonneg s t us vs (by simpa using h)
    have h1 := sqr_nonneg (s * u - t * v)
    have e : s * s * dot (u :: us) (u :: us) - 2 * (s * t) * dot (u :: us) (v :: vs) + t * t * dot (v :: vs) (v :: vs) =
        (s * s * dot us us - 2 * (s * t) * dot us vs + t * t * dot vs vs) + (s * u - t * v) * (s * u - t * v) := by
      simp only [dot]; grind
    omega
theorem schwarz : ∀ u v : List Int, u.length = v.length → dot u v * dot u v ≤ dot u u * dot v v
  | [], [], _ => by simp [dot]
  | u :: us, v :: vs, h => by
    have hl : us.length = vs.length := by simpa using h
    have ih := schwarz us vs hl
    have h1 := form_nonneg v u us vs hl
    have e : dot (u :: us) (u :: us) * dot (v :: vs) (v :: vs) - dot (u :: us) (v :: vs) * dot (u :: us) (v :: vs) =
        (dot us us * dot vs vs - dot us vs * dot us vs) + (v * v * dot us us - 2 * (v * u) * dot us vs + u * u * dot vs vs) := by
      simp only [dot]; grind
    omega
theorem less_of_sqr {x y : Int} (hy : 0 ≤ y) (h : x * x < y * y) : x < y := by
  rcases Int.lt_or_le x y with c | c
  · exact c
  · exfalso
    have := Int.mul_le_mul c c hy (by omega)
    omega
theorem rootN_lt (n r : Nat) (h : n < (r + 1) * (r + 1)) : rootN n ≤ r := by
  have := (rootN_spec n).1
  rcases Nat.lt_or_ge r (rootN n) with c | c
  · exfalso
    have := Nat.mul_le_mul (show r + 1 ≤ rootN n by omega) (show r + 1 ≤ rootN n by omega)
    omega
  · exact c
theorem prod_below {z x y : Int} {p q : Nat} (h : z * z ≤ x * y) (hx : 0 ≤ x) (hy : 0 ≤ y) (hp : x < ((p + 1) * (p + 1) : Nat)) (hq : y < ((q + 1) * (q + 1) : Nat)) : z < ((p + 1) * (q + 1) : Nat) := by
  refine less_of_sqr (Int.natCast_nonneg _) ?_
  have h1 : x * y ≤ x * ((q + 1) * (q + 1) : Nat) := Int.mul_le_mul_of_nonneg_left (Int.le_of_lt hq) hx
  have h2 : x * ((q + 1) * (q + 1) : Nat) < ((p + 1) * (p + 1) : Nat) * ((q + 1) * (q + 1) : Nat) := Int.mul_lt_mul_of_pos_right hp (by have : 0 < (q + 1) * (q + 1) := Nat.mul_pos (by omega) (by omega); omega)
  have e : (((p + 1) * (q + 1) : Nat) : Int) * ((p + 1) * (q + 1) : Nat) = ((p + 1) * (p + 1) : Nat) * ((q + 1) * (q + 1) : Nat) := by push_cast; grind
  omega
/-- The root of a sum that is not less than nothing. -/
def rootI (n : Int) : Int := (rootN n.toNat : Int)
theorem rootI_hi (n : Int) (h : 0 ≤ n) : n < (((rootN n.toNat) + 1) * ((rootN n.toNat) + 1) : Nat) := by
  have := (rootN_spec n.toNat).2
  omega
theorem dot_most (a b : List Int) (h : a.length = b.length) : dot a b ≤ (rootI (dot a a) + 1) * (rootI (dot b b) + 1) ∧ -dot a b ≤ (rootI (dot a a) + 1) * (rootI (dot b b) + 1) := by
  have ha := dot_self_nonneg a
  have hb := dot_self_nonneg b
  have hs := schwarz a b h
  have hn : -dot a b * -dot a b ≤ dot a a * dot b b := by rw [Int.neg_mul_neg]; exact hs
  have h1 := prod_below hs ha hb (rootI_hi _ ha) (rootI_hi _ hb)
  have h2 := prod_below hn ha hb (rootI_hi _ ha) (rootI_hi _ hb)
  unfold rootI
  push_cast at h1 h2
  omega
theorem sub_sub : ∀ a b c : List Int, a.length = b.length → b.length = c.length → sq a c = sq a b + sq b c + 2 * dot (sub a b) (sub b c)
  | [], [], [], _, _ => by simp [sq, sub, dot]
  | a :: as, b :: bs, c :: cs, h, h' => by
    have ih := sub_sub as bs cs (by simpa using h) (by simpa using h')
    have e1 : sq (a :: as) (c :: cs) = (a - c) * (a - c) + sq as cs := rfl
    have e2 : sq (a :: as) (b :: bs) = (a - b) * (a - b) + sq as bs := rfl
    have e3 : sq (b :: bs) (c :: cs) = (b - c) * (b - c) + sq bs cs := rfl
    have e4 : (a - c) * (a - c) = (a - b) * (a - b) + (b - c) * (b - c) + 2 * ((a - b) * (b - c)) := by grind
    rw [e1, e2, e3, e4, ih]
    simp only [sub, dot]
    omega
theorem triangle (a b c : List Int) (h : a.length = b.length) (h' : b.length = c.length) : rootI (sq a c) ≤ rootI (sq a b) + rootI (sq b c) + 1 := by
  have e := sub_sub a b c h h'
  have hl : (sub a b).length = (sub b c).length := by rw [sub_length a b h, sub_length b c h', h]
  have h1 := sq_nonneg a b
  have h2 := sq_nonneg b c
  have h0 := sq_nonneg a c
  have hs : dot (sub a b) (sub b c) * dot (sub a b) (sub b c) ≤ sq a b * sq b c := schwarz _ _ hl
  have p1 := rootI_hi _ h1
  have p2 := rootI_hi _ h2
  have hp := prod_below hs h1 h2 p1 p2
  unfold rootI
  generalize rootN (sq a b).toNat = p at *
  generalize rootN (sq b c).toNat = q at *
  have e9 : (p + q + 1 + 1) * (p + q + 1 + 1) = (p + 1) * (p + 1) + (q + 1) * (q + 1) + 2 * ((p + 1) * (q + 1)) := by grind
  have := rootN_lt (sq a c).toNat (p + q + 1) (by rw [e9]; omega)
  omega
/-- Cos of vectors that are alike. -/
def cosN (a b : List Int) : Int := if rootI (dot a a) * rootI (dot b b) = 0 then 0 else (1048576 * dot a b).fdiv (rootI (dot a a) * rootI (dot b b))
theorem cos_comm (a b : List Int) : cosN a b = cosN b a := by
  unfold cosN; rw [dot_comm b a, Int.mul_comm (rootI (dot b b))]
theorem root_sq (n : Int) (h : 0 ≤ n) : rootI n * rootI n ≤ n := by
  have := (rootN_spec n.toNat).1
  unfold rootI
  have e : ((rootN n.toNat * rootN n.toNat : Nat) : Int) = (rootN n.toNat : Int) * (rootN n.toNat : Int) := by push_cast; rfl
  omega
theorem root_pos (n : Int) (h : 1 ≤ n) : 1 ≤ rootI n := by have := rootN_pos n.toNat (by omega); unfold rootI; omega
theorem cos_self (a : List Int) (h : dot a a ≠ 0) : 1048576 ≤ cosN a a := by
  have h0 := dot_self_nonneg a
  have h1 := root_pos (dot a a) (by omega)
  have h2 := root_sq (dot a a) h0
  have h3 : 1 ≤ rootI (dot a a) * rootI (dot a a) := by have := Int.mul_le_mul h1 h1 (by omega) (by omega); omega
  unfold cosN
  rw [if_neg (by omega)]
  rw [Int.fdiv_eq_ediv_of_nonneg _ (by omega)]
  exact Int.le_ediv_of_mul_le (by omega) (by omega)
end Vc
end Go.Proofs.Ytfgmkdghpdpdkaa
