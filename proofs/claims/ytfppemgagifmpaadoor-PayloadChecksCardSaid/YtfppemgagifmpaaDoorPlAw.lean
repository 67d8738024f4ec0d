/- Layer 5's awake. Conditions: those that the theorem names. -/
import Derived.Test.YtfppemgagifmpaaDoorPlEn
namespace Go.Proofs.YtfppemgagifmpaaDoor
set_option linter.unusedVariables false
open Go Go.RowKit Go.Shelf Pl
def aV : List Vec := [⟨⟨#[118]⟩, [1, -1]⟩]
def aF : List Fld := [⟨⟨#[111, 112, 101, 110]⟩, ⟨3, 1, ⟨#[]⟩⟩⟩]
theorem less_nil (l : List UInt8) : Op.bytesLess l [] = false := by cases l <;> rfl
theorem rises_one {x : Nm} (h : isName x = true) (h0 : x.data.toList ≠ []) : rises ⟨#[]⟩ [x] = true := by
  unfold rises
  rw [h, Go.ByteArray.toList_eq, Go.ByteArray.toList_eq]
  show (true && (!(Op.bytesLess x.data.toList [] || x.data.toList == []) && true)) = true
  rw [less_nil]
  cases hx : x.data.toList with
  | nil => exact absurd hx h0
  | cons a r => rfl
theorem a_yes : ptMay ⟨1, aV, aF⟩ = true := by
  have e1 : outl (vNames aV) 1 4 = true := by
    unfold outl
    rw [show vNames aV = [⟨#[118]⟩] from rfl, rises_one (by decide +kernel) (by simp)]
    rfl
  have e2 : outl (fNames aF) 0 16 = true := by
    unfold outl
    rw [show fNames aF = [⟨#[111, 112, 101, 110]⟩] from rfl, rises_one (by decide +kernel) (by simp)]
    rfl
  unfold ptMay ptOutl
  rw [e1, e2]
  decide +kernel
theorem a_no : ptMay ⟨1, [], []⟩ = false := by decide +kernel
def aS : ByteArray := ⟨#[1, 0, 0, 0, 0, 0, 0, 0, 1, 1, 118, 2, 1, 128, 255, 127, 1, 4, 111, 112, 101, 110, 3, 1]⟩
theorem a_bytes : (⟨(bPt ⟨1, aV, aF⟩).toArray⟩ : ByteArray) = aS := by decide +kernel
theorem aV_at {w : World} {g : Nat} (h1 : w.heap[g]? = some (.cells #[.int .i64 1, .int .i64 (-1)] 3 (0, 0))) (h2 : w.heap[g + 1]? = some (.cells #[.string ⟨#[118]⟩, .slice (some ⟨g, 0, none⟩) 2 2] 43 (0, 0))) :
    VecsAt w (.slice (some ⟨g + 1, 0, none⟩) 1 1) aV := by
  have l1 := (Array.getElem?_eq_some_iff.1 h1).1
  have l2 := (Array.getElem?_eq_some_iff.1 h2).1
  refine .inr ⟨g + 1, 0, 1, fun _ => .slice (some ⟨g, 0, none⟩) 2 2, rfl, l2, fun W hW j hj => ?_, fun j hj => ?_⟩
  · obtain rfl : j = 0 := by have hj2 : j < 1 := hj; omega
    rw [← hW] at h2
    exact ⟨by rw [Lib.cell_of_heap h2]; rfl, by rw [Lib.cell_of_heap h2]; rfl⟩
  · obtain rfl : j = 0 := by have hj2 : j < 1 := hj; omega
    refine .inr ⟨g, 0, 2, rfl, l1, fun W hW k hk => ?_⟩
    rw [← hW] at h1
    have hk2 : k < 2 := hk
    have hk' : k = 0 ∨ k = 1 := by omega
    rcases hk' with rfl | rfl <;> (rw [Lib.cell_of_heap h1]; rfl)
theorem aF_at {w : World} {g : Nat} (h : w.heap[g]? = some (.cells #[.string ⟨#[111, 112, 101, 110]⟩, .int .i64 3, .int .i64 1, .string ⟨#[]⟩] 47 (0, 0))) :
    FldsAt w (.slice (some ⟨g, 0, none⟩) 1 1) aF := by
  have l := (Array.getElem?_eq_some_iff.1 h).1
  refine .inr ⟨g, 0, 1, rfl, l, fun W hW j hj => ?_⟩
  obtain rfl : j = 0 := by have hj2 : j < 1 := hj; omega
  rw [← hW] at h
  exact ⟨by rw [Lib.cell_of_heap h]; rfl, by rw [Lib.cell_of_heap h]; rfl, by rw [Lib.cell_of_heap h]; rfl, by rw [Lib.cell_of_heap h]; rfl⟩
theorem aV_ok : VecsOk aV := ⟨by decide +kernel, fun x hx => by unfold aV at hx; simp at hx; subst hx; decide +kernel⟩
theorem aF_ok : FldsOk aF := ⟨by decide +kernel, fun x hx => by unfold aF at hx; simp at hx; subst hx; decide +kernel⟩
set_option maxHeartbeats 1000000 in
set_option maxRecDepth 100000 in
theorem awake_yes (w : World) (G : Gp w) :
    Calls Tryd.prog 11 #[] w fun e w' => e = .returned (.bool true) ∧ Below w.heap.size w w' := by
  have HW : Hid (∃ W, (((w.alloc (.cells #[.int .i64 1, .int .i64 (-1)] 3)).alloc (.cells #[.string ⟨#[118]⟩, .slice (some ⟨w.heap.size, 0, none⟩) 2 2] 43)).alloc
      (.cells #[.string ⟨#[111, 112, 101, 110]⟩, .int .i64 3, .int .i64 1, .string ⟨#[]⟩] 47)).alloc (.cells #[.int .i64 1, .slice (some ⟨w.heap.size + 1, 0, none⟩) 1 1, .slice (some ⟨w.heap.size + 1 + 1, 0, none⟩) 1 1] 29) = W ∧
      VecsAt W (.slice (some ⟨w.heap.size + 1, 0, none⟩) 1 1) aV ∧ FldsAt W (.slice (some ⟨w.heap.size + 1 + 1, 0, none⟩) 1 1) aF ∧ Below w.heap.size w W) := Lib.hid (by
    refine ⟨_, rfl, aV_at ?_ ?_, aF_at ?_, (((fresh_alloc w _).alloc (by simp) _).alloc (by simp <;> omega) _).alloc (by simp <;> omega) _⟩
    · rw [heap_old _ _ (by simp <;> omega), heap_old _ _ (by simp <;> omega), heap_old _ _ (by simp)]; exact heap_last _ _
    · rw [heap_old _ _ (by simp <;> omega), heap_old _ _ (by simp)]
      have h := heap_last (w.alloc (.cells #[.int .i64 1, .int .i64 (-1)] 3)) (.cells #[.string ⟨#[118]⟩, .slice (some ⟨w.heap.size, 0, none⟩) 2 2] 43)
      rw [show (w.alloc (.cells #[.int .i64 1, .int .i64 (-1)] 3)).heap.size = w.heap.size + 1 by simp] at h
      exact h
    · rw [heap_old _ _ (by simp)]
      have h := heap_last ((w.alloc (.cells #[.int .i64 1, .int .i64 (-1)] 3)).alloc (.cells #[.string ⟨#[118]⟩, .slice (some ⟨w.heap.size, 0, none⟩) 2 2] 43)) (.cells #[.string ⟨#[111, 112, 101, 110]⟩, .int .i64 3, .int .i64 1, .string ⟨#[]⟩] 47)
      rw [show ((w.alloc (.cells #[.int .i64 1, .int .i64 (-1)] 3)).alloc (.cells #[.string ⟨#[118]⟩, .slice (some ⟨w.heap.size, 0, none⟩) 2 2] 43)).heap.size = w.heap.size + 1 + 1 by simp] at h
      exact h)
  have HG := Lib.hid G
  clear G
  go_enter Tryd.func11, Tryd.ntmps11
  go_wp2_with fail
  obtain ⟨W, eW, hv, hf, hb⟩ := HW.out
  rw [eW]
  have HY := Lib.hid (encode_yes 1 _ _ aV aF W (HG.out.fresh hb) hv hf aV_ok aF_ok a_yes)
  rw [a_bytes] at HY
  have HB := Lib.hid hb
  clear eW hv hf hb
  refine HY.out.mono ?_
  rintro e w2 ⟨rfl, b2⟩
  have HB2 := Lib.hid (HB.out.trans (b2.mono HB.out.size))
  clear b2
  unfold aS
  go_wp2_with fail
  have HZ := Lib.hid (encode_no 1 (.slice none 0 0) (.slice none 0 0) [] [] w2 (HG.out.fresh HB2.out) (.inl ⟨rfl, none, 0, rfl⟩) (.inl ⟨rfl, none, 0, rfl⟩) ⟨Nat.zero_le _, fun _ h => nomatch h⟩ ⟨Nat.zero_le _, fun _ h => nomatch h⟩ a_no)
  unfold notMay at HZ
  refine HZ.out.mono ?_
  rintro e w3 ⟨rfl, b3⟩
  have HB3 := Lib.hid (HB2.out.trans (b3.mono HB2.out.size))
  clear b3
  go_wp2_with fail
  go_ret
  exact ⟨rfl, HB3.out⟩
end Go.Proofs.YtfppemgagifmpaaDoor
