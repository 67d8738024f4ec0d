/- A point's bytes tell the point: no two points that may be have bytes of which one is a beginning of the other's. Plain mathematics, no condition but those that each theorem names. -/
import Derived.Test.YtfppemgagifmpaaDoorPlBy
namespace Go.Proofs.YtfppemgagifmpaaDoor
set_option linter.unusedVariables false
open Go Go.RowKit Go.Shelf Pl
theorem nm_of {a b : Nm} (h : a.data.toList = b.data.toList) : a = b := by
  cases a; cases b
  simp only at h
  rw [Array.toList_inj.mp h]
theorem fixL_in {w n m : Nat} {r s : List UInt8} (hn : n < 256 ^ w) (hm : m < 256 ^ w) (h : fixL w n ++ r = fixL w m ++ s) : n = m ∧ r = s := by
  obtain ⟨h1, h2⟩ := List.append_inj h (by rw [fixL_length, fixL_length])
  refine ⟨?_, h2⟩
  have := congrArg unfL h1
  rwa [unfL_fixL w n hn, unfL_fixL w m hm] at this
theorem flat_in {α} {f : α → List UInt8} {V : α → Prop} (hf : ∀ x y, V x → V y → ∀ r s, f x ++ r = f y ++ s → x = y ∧ r = s) :
    ∀ (L M : List α), L.length = M.length → (∀ x ∈ L, V x) → (∀ x ∈ M, V x) → ∀ r s, L.flatMap f ++ r = M.flatMap f ++ s → L = M ∧ r = s
  | [], [], _, _, _, r, s, h => ⟨rfl, by simpa using h⟩
  | x :: L, y :: M, hl, hL, hM, r, s, h => by
    rw [List.flatMap_cons, List.flatMap_cons, List.append_assoc, List.append_assoc] at h
    obtain ⟨h1, h2⟩ := hf x y (hL x (List.mem_cons_self ..)) (hM y (List.mem_cons_self ..)) _ _ h
    obtain ⟨h3, h4⟩ := flat_in hf L M (by simpa using hl) (fun z hz => hL z (List.mem_cons_of_mem _ hz)) (fun z hz => hM z (List.mem_cons_of_mem _ hz)) _ _ h2
    exact ⟨by rw [h1, h3], h4⟩
theorem name_in {a b : Nm} (ha : a.size ≤ 255) (hb : b.size ≤ 255) {r s : List UInt8} (h : fixL 1 a.size ++ a.data.toList ++ r = fixL 1 b.size ++ b.data.toList ++ s) : a = b ∧ r = s := by
  rw [List.append_assoc, List.append_assoc] at h
  obtain ⟨h1, h2⟩ := fixL_in (by omega) (by omega) h
  obtain ⟨h3, h4⟩ := List.append_inj h2 (by rw [Array.length_toList, Array.length_toList]; exact h1)
  exact ⟨nm_of h3, h4⟩
theorem ints_in {L M : List Int} (hl : L.length = M.length) (hL : ∀ n ∈ L, -32768 ≤ n ∧ n ≤ 32767) (hM : ∀ n ∈ M, -32768 ≤ n ∧ n ≤ 32767) {r s : List UInt8} (h : bInts L ++ r = bInts M ++ s) : L = M ∧ r = s :=
  flat_in (V := fun n => -32768 ≤ n ∧ n ≤ 32767) (fun x y hx hy r s e => by
    obtain ⟨h1, h2⟩ := fixL_in (w := 2) (by omega) (by omega) e
    exact ⟨by omega, h2⟩) L M hl hL hM r s h
def VecIs (x : Vec) : Prop := x.name.size ≤ 32 ∧ 1 ≤ x.v.length ∧ x.v.length ≤ 64 ∧ ∀ n ∈ x.v, -32768 ≤ n ∧ n ≤ 32767
theorem vec_in (x y : Vec) (hx : VecIs x) (hy : VecIs y) (r s : List UInt8) (h : bVec x ++ r = bVec y ++ s) : x = y ∧ r = s := by
  obtain ⟨x1, x2, x3, x4⟩ := hx
  obtain ⟨y1, y2, y3, y4⟩ := hy
  obtain ⟨xn, xv⟩ := x
  obtain ⟨yn, yv⟩ := y
  simp only at x1 x2 x3 x4 y1 y2 y3 y4
  unfold bVec at h
  simp only [List.append_assoc] at h
  rw [← List.append_assoc, ← List.append_assoc (fixL 1 yn.size)] at h
  obtain ⟨rfl, h2⟩ := name_in (by omega) (by omega) h
  obtain ⟨h3, h4⟩ := fixL_in (by omega) (by omega) h2
  obtain ⟨rfl, h5⟩ := ints_in h3 x4 y4 h4
  exact ⟨rfl, h5⟩
theorem u64_in {n m : Int} (hn : -4503599627370496 ≤ n ∧ n ≤ 4503599627370496) (hm : -4503599627370496 ≤ m ∧ m ≤ 4503599627370496) (h : u64N n = u64N m) : n = m := by
  unfold u64N IntKind.wrap at h
  simp [IntKind.bits, IntKind.signed] at h
  omega
theorem u64_top (n : Int) : u64N n < 256 ^ 8 := by
  unfold u64N IntKind.wrap
  simp [IntKind.bits, IntKind.signed]
  omega
theorem u64_small {n : Int} (h : 0 ≤ n ∧ n ≤ 1) : u64N n < 256 ^ 1 := by
  unfold u64N IntKind.wrap
  simp [IntKind.bits, IntKind.signed]
  omega
/-- What a value that may be is like. -/
theorem val_kinds {v : Val} (h : valB v = true) : (v.kind = 1 ∧ (-4503599627370496 ≤ v.n ∧ v.n ≤ 4503599627370496) ∧ v.text = ⟨#[]⟩) ∨ (v.kind = 2 ∧ v.n = 0 ∧ v.text.size ≤ 256) ∨ (v.kind = 3 ∧ (0 ≤ v.n ∧ v.n ≤ 1) ∧ v.text = ⟨#[]⟩) := by
  obtain ⟨k, n, t⟩ := v
  have hempty : (t.size : Int) ≤ 0 → t = ⟨#[]⟩ := fun hz => by
    obtain ⟨d⟩ := t
    have h0 : d.size = 0 := by have : (ByteArray.mk d).size = d.size := rfl; omega
    rw [Array.size_eq_zero_iff.mp h0]
  unfold valB at h
  simp only at h ⊢
  split at h
  · rename_i hk
    have hk' : k = 1 ∨ k = 2 ∨ k = 3 := by omega
    rcases hk' with rfl | rfl | rfl
    · simp only [show (1 : Int).toNat = 1 from rfl, szT, Bool.and_eq_true, decide_eq_true_eq] at h
      exact .inl ⟨rfl, ⟨h.1, h.2.1⟩, hempty h.2.2.1⟩
    · simp only [show (2 : Int).toNat = 2 from rfl, szT, Bool.and_eq_true, decide_eq_true_eq] at h
      exact .inr (.inl ⟨rfl, by omega, by omega⟩)
    · simp only [show (3 : Int).toNat = 3 from rfl, szT, Bool.and_eq_true, decide_eq_true_eq] at h
      exact .inr (.inr ⟨rfl, ⟨h.1, h.2.1⟩, hempty h.2.2.1⟩)
  · cases h
theorem val_in (x y : Val) (hx : valB x = true) (hy : valB y = true) (r s : List UInt8) (h : bVal x ++ r = bVal y ++ s) : x = y ∧ r = s := by
  have kx := val_kinds hx
  have ky := val_kinds hy
  clear hx hy
  obtain ⟨xk, xn, xt⟩ := x
  obtain ⟨yk, yn, yt⟩ := y
  simp only at kx ky
  have hk : ∀ (k l : Nat), k < 256 → l < 256 → ∀ a b : List UInt8, fixL 1 k ++ a = fixL 1 l ++ b → k = l ∧ a = b := fun k l h1 h2 a b e => fixL_in (by omega) (by omega) e
  rcases kx with ⟨rfl, x1, rfl⟩ | ⟨rfl, rfl, x2⟩ | ⟨rfl, x1, rfl⟩ <;> rcases ky with ⟨rfl, y1, rfl⟩ | ⟨rfl, rfl, y2⟩ | ⟨rfl, y1, rfl⟩ <;> simp only [bVal, List.append_assoc] at h
  · obtain ⟨_, h2⟩ := hk 1 1 (by decide) (by decide) _ _ h
    obtain ⟨h3, h4⟩ := fixL_in (w := 8) (u64_top _) (u64_top _) h2
    exact ⟨by rw [u64_in x1 y1 h3], h4⟩
  · exact absurd (hk 1 2 (by decide) (by decide) _ _ h).1 (by decide)
  · exact absurd (hk 1 3 (by decide) (by decide) _ _ h).1 (by decide)
  · exact absurd (hk 2 1 (by decide) (by decide) _ _ h).1 (by decide)
  · obtain ⟨_, h2⟩ := hk 2 2 (by decide) (by decide) _ _ h
    obtain ⟨h3, h4⟩ := fixL_in (w := 2) (by omega) (by omega) h2
    obtain ⟨h5, h6⟩ := List.append_inj h4 (by rw [Array.length_toList, Array.length_toList]; exact h3)
    exact ⟨by rw [nm_of h5], h6⟩
  · exact absurd (hk 2 3 (by decide) (by decide) _ _ h).1 (by decide)
  · exact absurd (hk 3 1 (by decide) (by decide) _ _ h).1 (by decide)
  · exact absurd (hk 3 2 (by decide) (by decide) _ _ h).1 (by decide)
  · obtain ⟨_, h2⟩ := hk 3 3 (by decide) (by decide) _ _ h
    obtain ⟨h3, h4⟩ := fixL_in (w := 1) (u64_small x1) (u64_small y1) h2
    exact ⟨by rw [u64_in (by omega) (by omega) h3], h4⟩
def FldIs (x : Fld) : Prop := x.name.size ≤ 32 ∧ valB x.val = true
theorem fld_in (x y : Fld) (hx : FldIs x) (hy : FldIs y) (r s : List UInt8) (h : bFld x ++ r = bFld y ++ s) : x = y ∧ r = s := by
  obtain ⟨x1, x2⟩ := hx
  obtain ⟨y1, y2⟩ := hy
  obtain ⟨xn, xv⟩ := x
  obtain ⟨yn, yv⟩ := y
  simp only at x1 x2 y1 y2
  unfold bFld at h
  simp only at h
  rw [List.append_assoc, List.append_assoc (fixL 1 yn.size ++ yn.data.toList)] at h
  obtain ⟨rfl, h2⟩ := name_in (by omega) (by omega) h
  obtain ⟨rfl, h3⟩ := val_in _ _ x2 y2 _ _ h2
  exact ⟨rfl, h3⟩
theorem pt_in (a b : Pt) (ha : ptMay a = true) (hb : ptMay b = true) (r s : List UInt8) (h : bPt a ++ r = bPt b ++ s) : a = b ∧ r = s := by
  have pa := ptIs ha
  have pb := ptIs hb
  clear ha hb
  obtain ⟨i, v, f⟩ := a
  obtain ⟨j, u, g⟩ := b
  have a1 := pa.id1
  have a2 := pa.id2
  have a3 := pa.nv
  have a4 := pa.nf
  have b1 := pb.id1
  have b2 := pb.id2
  have b3 := pb.nv
  have b4 := pb.nf
  unfold maxId at a2 b2
  simp only at a1 a2 a3 a4 b1 b2 b3 b4
  unfold bPt at h
  simp only [List.append_assoc] at h
  obtain ⟨h1, h2⟩ := fixL_in (w := 8) (by omega) (by omega) h
  obtain ⟨h3, h4⟩ := fixL_in (w := 1) (by omega) (by omega) h2
  obtain ⟨rfl, h5⟩ := flat_in vec_in v u h3 (fun x hx => ⟨pa.vn x hx, pa.vv x hx⟩) (fun x hx => ⟨pb.vn x hx, pb.vv x hx⟩) _ _ h4
  obtain ⟨h6, h7⟩ := fixL_in (w := 1) (by omega) (by omega) h5
  obtain ⟨rfl, h8⟩ := flat_in fld_in f g h6 (fun x hx => ⟨pa.fn x hx, pa.fv x hx⟩) (fun x hx => ⟨pb.fn x hx, pb.fv x hx⟩) _ _ h7
  obtain rfl : i = j := by omega
  exact ⟨rfl, h8⟩
theorem bytes_tell {a b : Pt} (ha : ptMay a = true) (hb : ptMay b = true) : bPt a = bPt b ↔ a = b := by
  constructor
  · intro h
    exact (pt_in a b ha hb [] [] (by rw [h])).1
  · rintro rfl; rfl
end Go.Proofs.YtfppemgagifmpaaDoor
