/- strings.ContainsAny at whatever text, for the nrz3 bytes that a value may not have. Conditions: those that each theorem names. -/
import Derived.Test.YtihcihpndckfjabGreatDoorHtI
import Derived.Lib.MapLaws
import Derived.Lib.IndexBytes
import Derived.Lib.OthersKept
import Derived.Shelf.Strings.SlTrimAscii
namespace Go.Proofs.YtihcihpndckfjabGreatDoor
set_option linter.unusedVariables false
open Go Go.RowKit Go.Shelf Ht

theorem rune_bytes (r : Nat) (h0 : 128 ≤ r) (h1 : r ≤ 1114111) : ∀ b ∈ Lib.encodeRune (r : Int), 128 ≤ b.toNat := by
  intro b hb
  unfold Lib.encodeRune at hb
  obtain ⟨z, hz, rfl⟩ := List.mem_map.1 hb
  have hz2 : 128 ≤ z ∧ z ≤ 255 := by
    unfold Lib.encodeRuneZ at hz
    repeat' split at hz
    all_goals simp at hz
    all_goals omega
  simp
  omega
theorem high_span (l : List UInt8) (b0 : UInt8) (t : List UInt8) (hl : l = b0 :: t) (h0 : 128 ≤ b0.toNat) (hr : 128 ≤ (Lib.decodeL l).1) : ∀ j, j < (Lib.decodeL l).2 → ∀ b, l[j]? = some b → 128 ≤ b.toNat := by
  intro j hj b hb
  by_cases hv : (Lib.decodeL l).1 = 65533 ∧ (Lib.decodeL l).2 = 1
  · have : j = 0 := by omega
    subst this
    rw [hl] at hb
    simp at hb
    rw [← hb]; exact h0
  · have he := Lib.encode_decode l (by rw [hl]; simp) hv
    have hm : b ∈ l.take (Lib.decodeL l).2 := by
      have : (l.take (Lib.decodeL l).2)[j]? = some b := by rw [List.getElem?_take, if_pos hj, hb]
      exact List.mem_of_getElem? this
    rw [← he] at hm
    exact rune_bytes _ hr (Lib.decodeL_rune l) b hm
theorem noany_span {l cs : List UInt8} {i n : Nat} (h : Lib.NoAny l cs i) (hn : ∀ j, j < n → ∀ b, l[i + j]? = some b → cs.contains b = false) : Lib.NoAny l cs (i + n) := fun j b hj hb => by
  by_cases hlt : j < i
  · exact h j b hlt hb
  · have := hn (j - i) (by omega) b (by rw [show i + (j - i) = j by omega]; exact hb)
    exact this
theorem high_not (b : UInt8) (h : 128 ≤ b.toNat) : ([10, 13, 0] : List UInt8).contains b = false := by
  rw [← Bool.not_eq_true, List.contains_iff_mem]
  intro hm
  have : b = 10 ∨ b = 13 ∨ b = 0 := by simpa using hm
  rcases this with rfl | rfl | rfl <;> revert h <;> decide
theorem irune_high (c : Nat) (h0 : 128 ≤ c) (h1 : c ≤ 1114111) (w : World) :
    Calls Tryz.prog 75 #[.string ⟨#[10, 13, 0]⟩, .int .i32 c] w fun e w' => e = .returned (.int .i64 (-1)) ∧ Below w.heap.size w w' := by
  by_cases hc : c = 65533
  · subst hc; exact irune_error w
  · cases hv : Lib.validRune (c : Int) with
    | true => exact irune_good c h0 h1 hv hc w
    | false => exact irune_bad c h0 h1 hv hc w
/-- Where the walk over the runes stands: the iterator at a place, nothing found ahead. -/
def AnyR (s : ByteArray) (w : World) (i : Nat) (wx : World) : Prop := i ≤ s.size ∧ wx.heap[w.heap.size]? = some (.stringIter s i) ∧ Below w.heap.size w wx ∧ Lib.NoAny s.data.toList [10, 13, 0] i
set_option maxHeartbeats 2000000 in
set_option maxRecDepth 1000000 in
theorem any_short (s : ByteArray) (w : World) (h8 : s.size ≤ 8) :
    Calls Tryz.prog 53 #[.string s, .string ⟨#[10, 13, 0]⟩] w fun e w' => e = .returned (.int .i64 (Lib.indexAny s.data.toList [10, 13, 0])) ∧ Below w.heap.size w w' := by
  have hd : decide ((8 : Int) < (s.size : Int)) = false := decide_eq_false (by omega)
  have HS := Lib.hid (Tryz.strings_shouldUseASCIISet s.size)
  rw [hd] at HS
  clear hd
  go_enter Tryz.func53, Tryz.ntmps53
  go_wp2_with fail
  refine (HS.out _).mono ?_
  rintro e w1 ⟨rfl, rfl⟩
  go_wp2_with fail
  go_loopg [9, 10] (s.size + 1) (fun g _ _ wx => ∃ i : Nat, s.size < i + g ∧ AnyR s w1 i wx)
  case atStart => exact ⟨0, by omega, Nat.zero_le _, heap_alloc_new _ _, (Below.refl _ _).alloc (Nat.le_refl _) _, Lib.NoAny.zero _ _⟩
  case round =>
    obtain ⟨i, hig, hi, hk, hb, hno⟩ := hrel
    have HB := Lib.hid hb
    have HN := Lib.hid hno
    by_cases hlt : i < s.size
    · obtain ⟨m, rfl⟩ : ∃ m, gk = m + 1 := ⟨gk - 1, by omega⟩
      obtain ⟨x, hx⟩ : ∃ x : UInt8, s[i]'hlt = x := ⟨_, rfl⟩
      have hxl : s.data.toList[i]? = some x := by rw [← hx]; exact Lib.data_getElem? s i hlt
      have Hx := Lib.hid hxl
      by_cases hx128 : x.toNat < 128
      · have hnx := fun ty => Lib.run_next_ascii_at (P := Tryz.prog) wr w1.heap.size s i ty hk hlt (by rw [hx]; exact hx128)
        rw [hx] at hnx
        have HK2 := Lib.hid (Lib.iterAt_heap wr w1.heap.size s i (i + 1) hk)
        have HB2 := Lib.hid (Lib.below_iterAt hb (Nat.le_refl _) s (i + 1))
        have hback : ((x.toNat : Int)).toNat.toUInt8 = x := by simp
        have hcon := Lib.contains_iff_indexByte [10, 13, 0] x
        have HI := Lib.hid (Tryz.strings_IndexRune_ascii ⟨#[10, 13, 0]⟩ x.toNat)
        rw [hback, show (⟨#[10, 13, 0]⟩ : ByteArray).data.toList = [10, 13, 0] from rfl] at HI
        cases hin : ([10, 13, 0] : List UInt8).contains x with
        | false =>
          rw [hin] at hcon
          have hlt2 : ¬ ((0 : Int) ≤ Lib.indexByte [10, 13, 0] x) := of_decide_eq_false hcon.symm
          generalize Lib.indexByte [10, 13, 0] x = v at HI hlt2
          have HN2 := Lib.hid (HN.out.succ Hx.out hin)
          clear hcon hb hno hk hx hxl hback hin
          go_wp2_with fail
          refine (HI.out _ (by omega) (by omega)).mono ?_
          rintro e w2 ⟨rfl, rfl⟩
          go_wp2_with fail
          go_roundg m
          case rel => exact ⟨i + 1, by omega, by omega, HK2.out, HB2.out, HN2.out⟩
          case measure => omega
        | true =>
          rw [hin] at hcon
          have hge : ((0 : Int) ≤ Lib.indexByte [10, 13, 0] x) := of_decide_eq_true hcon.symm
          generalize Lib.indexByte [10, 13, 0] x = v at HI hge
          have HE := Lib.hid (Lib.indexAny_hit HN.out Hx.out hin)
          clear hcon hb hno hk hx hxl hback hin
          go_wp2_with fail
          refine (HI.out _ (by omega) (by omega)).mono ?_
          rintro e w2 ⟨rfl, rfl⟩
          go_wp2_with fail
          go_ret
          rw [HE.out]
          exact ⟨rfl, HB2.out⟩
      · have hxge : 128 ≤ x.toNat := by omega
        have hnx := fun ty => Lib.run_next_any_at (P := Tryz.prog) wr w1.heap.size s i ty hk hlt
        obtain ⟨q1, q2⟩ := decode_high s i hlt (by rw [hx]; exact hxge)
        have hdec := Lib.decodeL_drop s i
        have hdr : s.data.toList.drop i = x :: s.data.toList.drop (i + 1) := by
          have hl' : i < s.data.toList.length := by rw [← Lib.size_eq]; exact hlt
          have h0 := List.getElem?_eq_getElem hl'
          rw [hxl] at h0
          rw [List.drop_eq_getElem_cons hl', ← Option.some.inj h0]
        have hsp := high_span _ x _ hdr hxge (by rw [hdec]; exact q1)
        have hle := Lib.decodeL_le (s.data.toList.drop i) (by rw [hdr]; simp)
        have hr := Lib.decodeL_rune (s.data.toList.drop i)
        rw [hdec] at hsp hle hr
        rw [List.length_drop, ← Lib.size_eq] at hle
        generalize (Utf8.decode s i).1 = c at hnx q1 hr
        generalize (Utf8.decode s i).2 = n at hnx q2 hsp hle
        have HN2 := Lib.hid (noany_span HN.out (fun j hj b hb' => high_not b (hsp j hj b (by rw [List.getElem?_drop]; exact hb'))))
        have HK2 := Lib.hid (Lib.iterAt_heap wr w1.heap.size s i (i + n) hk)
        have HB2 := Lib.hid (Lib.below_iterAt hb (Nat.le_refl _) s (i + n))
        have HI := Lib.hid (irune_high c q1 hr)
        clear hb hno hk hx hxl hdec hdr hsp q1 hr hxge hx128
        go_wp2_with fail
        refine (HI.out _).mono ?_
        rintro e w2 ⟨rfl, h2⟩
        have HB3 := Lib.hid (HB2.out.trans (h2.mono (by have := HB2.out.size; omega)))
        have HK3 := Lib.hid ((h2.block _ (Array.getElem?_eq_some_iff.1 HK2.out).1).trans HK2.out)
        clear h2
        go_wp2_with fail
        go_roundg m
        case rel => exact ⟨i + n, by omega, by omega, HK3.out, HB3.out, HN2.out⟩
        case measure => omega
    · obtain rfl : i = s.size := by omega
      have hnx := fun ty => Lib.run_next_end_at (P := Tryz.prog) wr w1.heap.size s s.size ty hk (by omega)
      have HE := Lib.hid (Lib.indexAny_none (s := s.data.toList) (chars := [10, 13, 0]) (by rw [← Lib.size_eq]; exact HN.out))
      clear hb hno hk
      go_wp2_with fail
      go_ret
      rw [HE.out]
      exact ⟨rfl, HB.out⟩
theorem any_long (s : ByteArray) (w : World) (h8 : 8 < s.size) (hs : s.size ≤ 16777215) :
    Calls Tryz.prog 53 #[.string s, .string ⟨#[10, 13, 0]⟩] w fun e w' => e = .returned (.int .i64 (Lib.indexAny s.data.toList [10, 13, 0])) ∧ Below w.heap.size w w' := by
  have hv : ∀ w, (zeroValue 79).run Tryz.prog w = .ok (.agg (Array.replicate 256 (.bool false))) w := (zero_of_info (show (Tryz.prog.info? 79).map (fun i => (i.zero, i.size)) = some (some (.agg (Array.replicate 256 (.bool false))), 256) by kernel_rfl)).1
  refine (Tryz.strings_IndexAny_long hv s ⟨#[10, 13, 0]⟩ w (by decide) h8 (by omega) (by decide) (ascii_of_all (by decide))).mono ?_
  rintro e w' ⟨rfl, rfl⟩
  exact ⟨rfl, ((Below.refl _ _).alloc (Nat.le_refl _) _).alloc (by simp) _⟩
set_option maxHeartbeats 1000000 in
theorem anyc_all (s : ByteArray) (w : World) (hs : s.size ≤ 16777215) :
    Calls Tryz.prog 43 #[.string s, .string ⟨#[10, 13, 0]⟩] w fun e w' => e = .returned (.bool (Lib.containsAny s.data.toList [10, 13, 0])) ∧ Below w.heap.size w w' := by
  have HI : Hid (Calls Tryz.prog 53 #[.string s, .string ⟨#[10, 13, 0]⟩] w fun e w' => e = .returned (.int .i64 (Lib.indexAny s.data.toList [10, 13, 0])) ∧ Below w.heap.size w w') := by
    by_cases h8 : 8 < s.size
    · exact Lib.hid (any_long s w h8 hs)
    · exact Lib.hid (any_short s w (by omega))
  unfold Lib.containsAny
  generalize Lib.indexAny s.data.toList [10, 13, 0] = v at HI
  go_enter Tryz.func43, Tryz.ntmps43
  go_wp2_with fail
  refine HI.out.mono ?_
  rintro e w1 ⟨rfl, h1⟩
  have HB := Lib.hid h1
  clear h1
  go_wp2_with fail
  go_ret
  exact ⟨rfl, HB.out⟩
end Go.Proofs.YtihcihpndckfjabGreatDoor
