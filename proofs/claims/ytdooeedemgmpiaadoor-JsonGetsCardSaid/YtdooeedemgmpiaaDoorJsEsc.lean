/- Escapes: what the calls unit and escape answer. Conditions: none but those that each theorem names. -/
import Derived.Test.YtdooeedemgmpiaaDoorJsHex
namespace Go.Proofs.YtdooeedemgmpiaaDoor
set_option linter.unusedVariables false
open Go Go.RowKit Js

theorem parseU_some (t : ByteArray) (hsz : t.size = 4) (n : Nat) (h : hexGo 0 t.data.toList = some n) (w : World) :
    Calls Tryd.prog 66 #[.string t, .int .i64 16, .int .i64 16] w fun e w' => e = .returned (.tuple #[.int .u64 n, .nilIface]) ∧ Gr none' w w' := by
  have H := Lib.hid h
  clear h
  go_enter Tryd.func66, Tryd.ntmps66
  go_wp2_with fail
  refine (parse16 t hsz w).mono ?_
  rintro e w' ⟨h1, _, hw⟩
  obtain rfl := h1 n H.out
  have HW : Hid (Gr none' w w') := Lib.hid (by rw [hw]; exact Gr.of_below (Lib.bytesWorld_below w _ t) fun b hb hl => by omega)
  clear h1 hw
  go_wp2_with fail
  go_ret2
  exact ⟨rfl, HW.out⟩
def ErrU (w : World) (e : Ending) (w' : World) : Prop := ∃ N, e = .returned (.tuple #[.int .u64 0, .iface 105 (.pointer (some ⟨N, 0, none⟩))]) ∧ Gr none' w w'
theorem parseU_none (t : ByteArray) (hsz : t.size = 4) (h : hexGo 0 t.data.toList = none) (w : World) (G : Gl w) :
    Calls Tryd.prog 66 #[.string t, .int .i64 16, .int .i64 16] w (ErrU w) := by
  have H := Lib.hid h
  have GG := Lib.hid G
  clear h G
  go_enter Tryd.func66, Tryd.ntmps66
  go_wp2_with fail
  refine (parse16 t hsz w).mono ?_
  rintro e w' ⟨_, h1, hw⟩
  obtain rfl := h1 H.out
  have HW : Hid (Gr none' w w') := Lib.hid (by rw [hw]; exact Gr.of_below (Lib.bytesWorld_below w _ t) fun b hb hl => by omega)
  have HS : Hid (t.size = 4) := Lib.hid hsz
  clear h1 hw hsz
  obtain ⟨tt, p, hr⟩ := (GG.out.weak HW.out).syn
  have hr' := hr w' (fun _ _ => rfl)
  clear hr
  have HR := Lib.hid hr'
  clear hr'
  go_wp2_with fail
  refine (Tryd.strconv_toError_syntax _ t _ _ _ _ (by have := HS.out; omega) HR.out (.inr ⟨_, _, rfl⟩)).mono ?_
  rintro e w2 ⟨N, rfl, _, _, hb⟩
  have HB := Lib.hid hb
  clear hb
  go_wp2_with fail
  go_ret2
  exact ⟨N, rfl, HW.out.trans (Gr.of_below HB.out fun b hb hl => by omega)⟩

theorem unit_short (s : ByteArray) (w : World) (h : s.size < 6) :
    Calls Tryd.prog 58 #[.string s] w fun e w' => e = .returned (.tuple #[.int .i32 0, .bool false]) ∧ w' = w := by
  go_enter Tryd.func58, Tryd.ntmps58
  go_wp2_with fail
  go_ret2
  exact ⟨rfl, rfl⟩
theorem take_two (s : ByteArray) : (s.extract 0 2).toList = s.data.toList.take 2 := by
  rw [Go.ByteArray.toList_eq, ByteArray.data_extract, Array.toList_extract, List.extract_eq_take_drop]; rfl
theorem unit_other (s : ByteArray) (w : World) (h : 6 ≤ s.size) (hp : s.data.toList.take 2 ≠ [92, 117]) :
    Calls Tryd.prog 58 #[.string s] w fun e w' => e = .returned (.tuple #[.int .i32 0, .bool false]) ∧ w' = w := by
  have hx : ((s.extract 0 2).toList == [92, 117]) = false := by rw [take_two]; simpa using hp
  have h6 : (6 : Int) ≤ s.size := by omega
  clear hp h
  go_enter Tryd.func58, Tryd.ntmps58
  go_wp2_with fail
  go_ret2
  exact ⟨rfl, rfl⟩
set_option maxHeartbeats 1000000 in
set_option maxRecDepth 100000 in
theorem unit_some (s : ByteArray) (w : World) (h : 6 ≤ s.size) (hp : s.data.toList.take 2 = [92, 117]) (n : Nat) (hn : hexGo 0 (s.extract 2 6).data.toList = some n) (hb : n < 65536) :
    Calls Tryd.prog 58 #[.string s] w fun e w' => e = .returned (.tuple #[.int .i32 n, .bool true]) ∧ Gr none' w w' := by
  have hx : ((s.extract 0 2).toList == [92, 117]) = true := by rw [take_two]; simpa using hp
  have hsz : (s.extract 2 6).size = 4 := by simp; omega
  have h6 : (6 : Int) ≤ s.size := by omega
  have HSZ := Lib.hid hsz
  have HN := Lib.hid hn
  have hb1 : (n : Int) ≤ 16777215 := by omega
  have hb0 : (0 : Int) ≤ n := by omega
  clear hp h hsz hn hb
  go_enter Tryd.func58, Tryd.ntmps58
  go_wp2_with fail
  refine (parseU_some _ HSZ.out n HN.out w).mono ?_
  rintro e w' ⟨rfl, hg⟩
  have HG := Lib.hid hg
  clear hg
  go_wp2_with fail
  go_quiet (fail)
  go_wp2_with fail
  go_ret2
  exact ⟨rfl, HG.out.drewN _⟩
set_option maxHeartbeats 1000000 in
set_option maxRecDepth 100000 in
theorem unit_none (s : ByteArray) (w : World) (G : Gl w) (h : 6 ≤ s.size) (hp : s.data.toList.take 2 = [92, 117]) (hn : hexGo 0 (s.extract 2 6).data.toList = none) :
    Calls Tryd.prog 58 #[.string s] w fun e w' => e = .returned (.tuple #[.int .i32 0, .bool false]) ∧ Gr none' w w' := by
  have hx : ((s.extract 0 2).toList == [92, 117]) = true := by rw [take_two]; simpa using hp
  have hsz : (s.extract 2 6).size = 4 := by simp; omega
  have h6 : (6 : Int) ≤ s.size := by omega
  have HSZ := Lib.hid hsz
  have HN := Lib.hid hn
  have GG := Lib.hid G
  clear hp h hsz hn G
  go_enter Tryd.func58, Tryd.ntmps58
  go_wp2_with fail
  refine (parseU_none _ HSZ.out HN.out w GG.out).mono ?_
  rintro e w' ⟨N, rfl, hg⟩
  have HG := Lib.hid hg
  clear hg
  go_wp2_with fail
  go_quiet (fail)
  go_wp2_with fail
  go_ret2
  exact ⟨rfl, HG.out.drewN _⟩
theorem hexGo_lt : ∀ (l : Bs) (acc n : Nat), hexGo acc l = some n → n < (acc + 1) * 16 ^ l.length
  | [], acc, n, h => by simp only [hexGo] at h; injection h with h; simp; omega
  | c :: r, acc, n, h => by
    simp only [hexGo] at h
    cases hd : hexOf c with
    | none => rw [hd] at h; cases h
    | some d =>
      rw [hd] at h
      have := hexGo_lt r _ n h
      have hd16 : d < 16 := by
        rcases hex_ways c with ⟨x, h1, h2, h3, h4⟩ | ⟨x, h1, h2, h3, h4, h5, _⟩ | ⟨h1, _⟩
        · rw [hd] at h1; injection h1 with h1; omega
        · rw [hd] at h1; injection h1 with h1; omega
        · rw [hd] at h1; cases h1
      have : (acc * 16 + d + 1) * 16 ^ r.length ≤ ((acc + 1) * 16) * 16 ^ r.length := Nat.mul_le_mul_right _ (by omega)
      rw [List.length_cons, Nat.pow_succ]
      calc n < (acc * 16 + d + 1) * 16 ^ r.length := by assumption
        _ ≤ ((acc + 1) * 16) * 16 ^ r.length := this
        _ = (acc + 1) * (16 ^ r.length * 16) := by rw [Nat.mul_assoc, Nat.mul_comm 16]
theorem four_lt {l : Bs} {n : Nat} (h : four l = some n) : n < 65536 := by
  match l, h with
  | a :: b :: c :: d :: r, h =>
    rw [← hexGo_four] at h
    have := hexGo_lt _ _ _ h
    simpa using this
  | [], h => simp [four] at h
  | [_], h => simp [four] at h
  | [_, _], h => simp [four] at h
  | [_, _, _], h => simp [four] at h
def unitV (o : Option Nat) : Value := match o with | some n => .tuple #[.int .i32 n, .bool true] | none => .tuple #[.int .i32 0, .bool false]
theorem unit_any (s : ByteArray) (w : World) (G : Gl w) :
    Calls Tryd.prog 58 #[.string s] w fun e w' => e = .returned (unitV (unit s.data.toList)) ∧ Gr none' w w' := by
  have hsl : s.data.toList.length = s.size := Array.length_toList
  by_cases h6 : s.size < 6
  · have e : unit s.data.toList = none := by
      generalize s.data.toList = l at hsl
      unfold unit
      split
      · rename_i l'
        match l', hsl with
        | a :: b :: c :: d :: r, hsl => simp at hsl; omega
        | [], _ => rfl
        | [_], _ => rfl
        | [_, _], _ => rfl
        | [_, _, _], _ => rfl
      · rfl
    rw [e]
    exact (unit_short s w h6).mono fun e w' ⟨he, hw⟩ => ⟨he, hw ▸ Gr.refl _ _⟩
  · have h6' : 6 ≤ s.size := by omega
    by_cases hp : s.data.toList.take 2 = [92, 117]
    · have hl : ∃ a b c d r, s.data.toList = 92 :: 117 :: a :: b :: c :: d :: r := by
        generalize s.data.toList = l at hp hsl
        match l, hp, hsl with
        | x :: y :: a :: b :: c :: d :: r, hp, _ =>
          simp at hp
          exact ⟨a, b, c, d, r, by rw [hp.1, hp.2]⟩
        | [], _, h => simp at h; omega
        | [_], _, h => simp at h; omega
        | [_, _], _, h => simp at h; omega
        | [_, _, _], _, h => simp at h; omega
        | [_, _, _, _], _, h => simp at h; omega
        | [_, _, _, _, _], _, h => simp at h; omega
      obtain ⟨a, b, c, d, r, hl⟩ := hl
      have hx : (s.extract 2 6).data.toList = [a, b, c, d] := by
        rw [ByteArray.data_extract, Array.toList_extract, List.extract_eq_take_drop, hl]; rfl
      have e : unit s.data.toList = hexGo 0 [a, b, c, d] := by rw [hl, hexGo_four a b c d r]; rfl
      rw [e]
      cases hh : hexGo 0 [a, b, c, d] with
      | some n => exact unit_some s w h6' hp n (by rw [hx]; exact hh) (by rw [hexGo_four a b c d r] at hh; exact four_lt hh)
      | none => exact unit_none s w G h6' hp (by rw [hx]; exact hh)
    · have e : unit s.data.toList = none := by
        generalize s.data.toList = l at hp
        unfold unit
        split
        · simp at hp
        · rfl
      rw [e]
      exact (unit_other s w h6' hp).mono fun e w' ⟨he, hw⟩ => ⟨he, hw ▸ Gr.refl _ _⟩

/-! ### escape -/
def escV (o : Option (Nat × Nat)) : Value := match o with | some x => .tuple #[.int .i32 x.1, .int .i64 x.2] | none => .tuple #[.int .i32 0, .int .i64 0]
theorem esc_short (s : ByteArray) (w : World) (h : s.size < 2) :
    Calls Tryd.prog 48 #[.string s] w fun e w' => e = .returned (escV none) ∧ w' = w := by
  go_enter Tryd.func48, Tryd.ntmps48
  go_wp2_with fail
  go_ret2
  exact ⟨rfl, rfl⟩
def letS : ByteArray := ⟨#[34, 92, 98, 102, 110, 114, 116, 47]⟩
theorem idx_at (z : Int) (i : Int) (hi : Lib.indexByte [34, 92, 98, 102, 110, 114, 116, 47] z.toNat.toUInt8 = i) (w : World) :
    Calls Tryd.prog 30 #[.string ⟨#[34, 92, 98, 102, 110, 114, 116, 47]⟩, .int .u8 z] w fun e w' => e = .returned (.int .i64 i) ∧ w' = w := by
  subst hi
  exact Tryd.strings_IndexByte _ _ _
theorem meant_ways {c : UInt8} {v : Nat} (h : meant c = some v) : (c = 34 ∧ v = 34) ∨ (c = 92 ∧ v = 92) ∨ (c = 98 ∧ v = 8) ∨ (c = 102 ∧ v = 12) ∨ (c = 110 ∧ v = 10) ∨ (c = 114 ∧ v = 13) ∨ (c = 116 ∧ v = 9) ∨ (c = 47 ∧ v = 47) := by
  unfold meant at h
  repeat' (split at h)
  all_goals simp_all
theorem meant_none {c : UInt8} (h : meant c = none) : Lib.indexByte [34, 92, 98, 102, 110, 114, 116, 47] c < 0 := by
  rw [index_neg]
  unfold meant at h
  repeat' (split at h)
  all_goals simp_all
set_option maxHeartbeats 4000000 in
theorem esc_letter (s : ByteArray) (w : World) (h : 2 ≤ s.size) (c : UInt8) (hc : s[1]'(by omega) = c) (v : Nat) (hv : meant c = some v) :
    Calls Tryd.prog 48 #[.string s] w fun e w' => e = .returned (escV (some (v, 2))) ∧ w' = w := by
  have h6 : (2 : Int) ≤ s.size := by omega
  rcases meant_ways hv with ⟨rfl, rfl⟩ | ⟨rfl, rfl⟩ | ⟨rfl, rfl⟩ | ⟨rfl, rfl⟩ | ⟨rfl, rfl⟩ | ⟨rfl, rfl⟩ | ⟨rfl, rfl⟩ | ⟨rfl, rfl⟩
  · go_enter Tryd.func48, Tryd.ntmps48
    go_wp2_with fail
    refine (idx_at 34 0 (by decide) _).mono ?_
    rintro e w' ⟨rfl, rfl⟩
    go_wp2_with fail
    go_ret2
    refine ⟨?_, rfl⟩
    show Ending.returned (.tuple #[.int .i32 (wrap32 34), .int .i64 2]) = _
    rw [show wrap32 34 = 34 by unfold wrap32; omega]; rfl
  · go_enter Tryd.func48, Tryd.ntmps48
    go_wp2_with fail
    refine (idx_at 92 1 (by decide) _).mono ?_
    rintro e w' ⟨rfl, rfl⟩
    go_wp2_with fail
    go_ret2
    refine ⟨?_, rfl⟩
    show Ending.returned (.tuple #[.int .i32 (wrap32 92), .int .i64 2]) = _
    rw [show wrap32 92 = 92 by unfold wrap32; omega]; rfl
  · go_enter Tryd.func48, Tryd.ntmps48
    go_wp2_with fail
    refine (idx_at 98 2 (by decide) _).mono ?_
    rintro e w' ⟨rfl, rfl⟩
    go_wp2_with fail
    go_ret2
    refine ⟨?_, rfl⟩
    show Ending.returned (.tuple #[.int .i32 (wrap32 8), .int .i64 2]) = _
    rw [show wrap32 8 = 8 by unfold wrap32; omega]; rfl
  · go_enter Tryd.func48, Tryd.ntmps48
    go_wp2_with fail
    refine (idx_at 102 3 (by decide) _).mono ?_
    rintro e w' ⟨rfl, rfl⟩
    go_wp2_with fail
    go_ret2
    refine ⟨?_, rfl⟩
    show Ending.returned (.tuple #[.int .i32 (wrap32 12), .int .i64 2]) = _
    rw [show wrap32 12 = 12 by unfold wrap32; omega]; rfl
  · go_enter Tryd.func48, Tryd.ntmps48
    go_wp2_with fail
    refine (idx_at 110 4 (by decide) _).mono ?_
    rintro e w' ⟨rfl, rfl⟩
    go_wp2_with fail
    go_ret2
    refine ⟨?_, rfl⟩
    show Ending.returned (.tuple #[.int .i32 (wrap32 10), .int .i64 2]) = _
    rw [show wrap32 10 = 10 by unfold wrap32; omega]; rfl
  · go_enter Tryd.func48, Tryd.ntmps48
    go_wp2_with fail
    refine (idx_at 114 5 (by decide) _).mono ?_
    rintro e w' ⟨rfl, rfl⟩
    go_wp2_with fail
    go_ret2
    refine ⟨?_, rfl⟩
    show Ending.returned (.tuple #[.int .i32 (wrap32 13), .int .i64 2]) = _
    rw [show wrap32 13 = 13 by unfold wrap32; omega]; rfl
  · go_enter Tryd.func48, Tryd.ntmps48
    go_wp2_with fail
    refine (idx_at 116 6 (by decide) _).mono ?_
    rintro e w' ⟨rfl, rfl⟩
    go_wp2_with fail
    go_ret2
    refine ⟨?_, rfl⟩
    show Ending.returned (.tuple #[.int .i32 (wrap32 9), .int .i64 2]) = _
    rw [show wrap32 9 = 9 by unfold wrap32; omega]; rfl
  · go_enter Tryd.func48, Tryd.ntmps48
    go_wp2_with fail
    refine (idx_at 47 7 (by decide) _).mono ?_
    rintro e w' ⟨rfl, rfl⟩
    go_wp2_with fail
    go_ret2
    refine ⟨?_, rfl⟩
    show Ending.returned (.tuple #[.int .i32 (wrap32 47), .int .i64 2]) = _
    rw [show wrap32 47 = 47 by unfold wrap32; omega]; rfl
def EscP (o : Option (Nat × Nat)) (w : World) (e : Ending) (w' : World) : Prop := e = .returned (escV o) ∧ Gr none' w w'
set_option maxHeartbeats 4000000 in
theorem esc_no (s : ByteArray) (w : World) (G : Gl w) (h : 2 ≤ s.size) (hm : meant (s[1]'(by omega)) = none) (hu : unit s.data.toList = none) :
    Calls Tryd.prog 48 #[.string s] w (EscP none w) := by
  have hi := meant_none hm
  have h6 : (2 : Int) ≤ s.size := by omega
  have HU := Lib.hid hu
  have GG := Lib.hid G
  clear hm hu G
  go_enter Tryd.func48, Tryd.ntmps48
  go_wp2_with fail
  refine (Tryd.strings_IndexByte _ _ _).mono ?_
  rintro e w' ⟨rfl, rfl⟩
  go_wp2_with fail
  refine (unit_any s _ GG.out).mono ?_
  rw [HU.out]
  rintro e w1 ⟨rfl, g1⟩
  have G1 := Lib.hid g1
  clear g1
  unfold unitV
  go_wp2_with fail
  go_ret2
  exact ⟨rfl, G1.out⟩
set_option maxHeartbeats 4000000 in
set_option maxRecDepth 100000 in
theorem esc_one (s : ByteArray) (w : World) (G : Gl w) (h : 2 ≤ s.size) (hm : meant (s[1]'(by omega)) = none) (v : Nat) (hu : unit s.data.toList = some v) (hv : v < 0xD800 ∨ 0xE000 ≤ v) (hvb : v ≤ 16777215) :
    Calls Tryd.prog 48 #[.string s] w (EscP (some (v, 6)) w) := by
  have hi := meant_none hm
  have h6 : (2 : Int) ≤ s.size := by omega
  have HU := Lib.hid hu
  have GG := Lib.hid G
  have hv' : Hid ((v : Int) < 55296 ∨ (57344 : Int) ≤ v) := Lib.hid (by omega)
  have hvb' : Hid ((0 : Int) ≤ v ∧ (v : Int) ≤ 16777215) := Lib.hid (by omega)
  clear hm hu G hv hvb
  go_enter Tryd.func48, Tryd.ntmps48
  go_wp2_with fail
  refine (Tryd.strings_IndexByte _ _ _).mono ?_
  rintro e w' ⟨rfl, rfl⟩
  go_wp2_with fail
  refine (unit_any s _ GG.out).mono ?_
  rw [HU.out]
  rintro e w1 ⟨rfl, g1⟩
  have G1 := Lib.hid g1
  clear g1
  unfold unitV
  obtain ⟨hv0, hvb⟩ := hvb'.out
  rcases hv'.out with hv | hv
  · go_wp2_with fail
    go_ret2
    exact ⟨rfl, G1.out⟩
  · have hv2 : ¬ (v : Int) < 55296 := by omega
    go_wp2_with fail
    go_ret2
    exact ⟨rfl, G1.out⟩
theorem unit_len {l : Bs} {v : Nat} (h : unit l = some v) : 6 ≤ l.length ∧ v < 65536 := by
  unfold unit at h
  split at h
  · rename_i l'
    refine ⟨?_, four_lt h⟩
    match l', h with
    | a :: b :: c :: d :: r, _ => simp
    | [], h => simp [four] at h
    | [_], h => simp [four] at h
    | [_, _], h => simp [four] at h
    | [_, _, _], h => simp [four] at h
  · cases h
theorem drop_six (s : ByteArray) (h : 6 ≤ s.size) : (s.extract 6 s.size).data.toList = s.data.toList.drop 6 := by
  have hl : s.data.toList.length = s.size := Array.length_toList
  rw [ByteArray.data_extract, Array.toList_extract, List.extract_eq_take_drop, List.take_of_length_le (by simp)]
def pairV (v : Nat) : Option Nat → Option (Nat × Nat)
  | none => none
  | some u => if 0xDC00 ≤ v ∨ u < 0xDC00 ∨ 0xE000 ≤ u then none else some (0x10000 + (v - 0xD800) * 1024 + (u - 0xDC00), 12)
set_option maxHeartbeats 4000000 in
set_option maxRecDepth 100000 in
theorem esc_two (s : ByteArray) (w : World) (G : Gl w) (hm : ∀ h : 1 < s.size, meant (s[1]'h) = none) (v : Nat) (hu : unit s.data.toList = some v) (hv : 0xD800 ≤ v) (hv' : v < 0xE000) :
    Calls Tryd.prog 48 #[.string s] w (EscP (pairV v (unit (s.data.toList.drop 6))) w) := by
  have hl6 := (unit_len hu).1
  have hsl : s.data.toList.length = s.size := Array.length_toList
  rw [hsl] at hl6
  have h1s : 1 < s.size := by omega
  have hi := meant_none (hm h1s)
  have h6 : (6 : Int) ≤ s.size := by omega
  have HU := Lib.hid hu
  have GG := Lib.hid G
  have HV : Hid ((55296 : Int) ≤ v ∧ (v : Int) < 57344) := Lib.hid (by omega)
  have HD := Lib.hid (drop_six s hl6)
  clear hsl hl6
  clear hm hu G hv hv'
  go_enter Tryd.func48, Tryd.ntmps48
  go_wp2_with fail
  refine (Tryd.strings_IndexByte _ _ _).mono ?_
  rintro e w' ⟨rfl, rfl⟩
  go_wp2_with fail
  refine (unit_any s _ GG.out).mono ?_
  rw [HU.out]
  rintro e w1 ⟨rfl, g1⟩
  have G1 := Lib.hid g1
  have GG1 := Lib.hid (GG.out.weak g1)
  clear g1
  unfold unitV
  obtain ⟨hv0, hv1⟩ := HV.out
  have hd1 : decide ((v : Int) < 55296) = false := by simp; omega
  have hd2 : decide ((57344 : Int) ≤ v) = false := by simp; omega
  have HV0 := Lib.hid hv0
  have HV1 := Lib.hid hv1
  clear hv0 hv1
  go_wp2_with fail
  refine (unit_any _ _ GG1.out).mono ?_
  rw [HD.out]
  rintro e w2 ⟨rfl, g2⟩
  have G2 := Lib.hid g2
  clear g2
  cases hx : unit (s.data.toList.drop 6) with
  | none =>
    have HXE := Lib.hid hx
    clear hx hd1 hd2
    unfold unitV
    go_wp2_with fail
    go_ret2
    rw [HXE.out]
    exact ⟨rfl, G1.out.trans G2.out⟩
  | some u =>
    have hub := (unit_len hx).2
    have hu0 : (0 : Int) ≤ u := by omega
    have HX := Lib.hid hub
    have HXE := Lib.hid hx
    clear hx hub hd1 hd2
    unfold unitV
    simp only
    have hv0 := HV0.out
    have hv1 := HV1.out
    by_cases h1 : 0xDC00 ≤ v
    · have HF : Hid (pairV v (some u) = none) := Lib.hid (if_pos (.inl h1))
      have h1' : decide ((56320 : Int) ≤ v) = true := by simp; omega
      clear h1 hv0 hv1
      go_wp2_with fail
      go_ret2
      rw [HXE.out, HF.out]
      exact ⟨rfl, G1.out.trans G2.out⟩
    · have h1' : decide ((56320 : Int) ≤ v) = false := by simp; omega
      by_cases h2 : u < 0xDC00
      · have HF : Hid (pairV v (some u) = none) := Lib.hid (if_pos (.inr (.inl h2)))
        have h2' : decide ((u : Int) < 56320) = true := by simp; omega
        clear h1 h2 hv0 hv1
        go_wp2_with fail
        go_ret2
        rw [HXE.out, HF.out]
        exact ⟨rfl, G1.out.trans G2.out⟩
      · have h2' : decide ((u : Int) < 56320) = false := by simp; omega
        by_cases h3 : 0xE000 ≤ u
        · have HF : Hid (pairV v (some u) = none) := Lib.hid (if_pos (.inr (.inr h3)))
          have h3' : decide ((57344 : Int) ≤ u) = true := by simp; omega
          clear h1 h2 h3 hv0 hv1
          go_wp2_with fail
          go_ret2
          rw [HXE.out, HF.out]
          exact ⟨rfl, G1.out.trans G2.out⟩
        · have h3' : decide ((57344 : Int) ≤ u) = false := by simp; omega
          have HF : Hid (pairV v (some u) = some (0x10000 + (v - 0xD800) * 1024 + (u - 0xDC00), 12)) := Lib.hid (if_neg (by omega))
          have HE : Hid (((0x10000 + (v - 0xD800) * 1024 + (u - 0xDC00) : Nat) : Int) = (65536 : Int) + ((v : Int) - 55296) * 1024 + u - 56320) := Lib.hid (by omega)
          clear h1 h2 h3
          go_wp2_with fail
          go_ret2
          rw [HXE.out, HF.out]
          refine ⟨?_, G1.out.trans G2.out⟩
          show Ending.returned (.tuple #[.int .i32 _, .int .i64 12]) = .returned (.tuple #[.int .i32 _, .int .i64 12])
          rw [HE.out]
          have g1 : (v : Int) < 56320 := by simpa using h1'
          have g2 : (u : Int) < 57344 := by simpa using h3'
          have g3 : (56320 : Int) ≤ u := by simpa using h2'
          have w1 : wrap32 (65536 + ((v : Int) - 55296) * 1024 + u) = 65536 + ((v : Int) - 55296) * 1024 + u := by unfold wrap32; omega
          have w2 : wrap32 (65536 + ((v : Int) - 55296) * 1024 + u - 56320) = 65536 + ((v : Int) - 55296) * 1024 + u - 56320 := by unfold wrap32; omega
          rw [w1, w2]
theorem escape_any (s : ByteArray) (w : World) (G : Gl w) : Calls Tryd.prog 48 #[.string s] w (EscP (escape s.data.toList) w) := by
  have hsl : s.data.toList.length = s.size := Array.length_toList
  by_cases h2 : s.size < 2
  · have e : escape s.data.toList = none := by
      generalize s.data.toList = l at hsl
      match l, hsl with
      | [], _ => rfl
      | [_], _ => rfl
      | _ :: _ :: _, h => simp at h; omega
    rw [e]
    exact (esc_short s w h2).mono fun e w' ⟨he, hw⟩ => ⟨he, hw ▸ Gr.refl _ _⟩
  · have h1 : 1 < s.size := by omega
    have hg : s.data.toList[1]? = some (s[1]'h1) := by
      rw [List.getElem?_eq_getElem (by rw [hsl]; exact h1)]; rfl
    obtain ⟨a, c, r, hl⟩ : ∃ a c r, s.data.toList = a :: c :: r := by
      generalize s.data.toList = l at hsl
      match l, hsl with
      | a :: c :: r, _ => exact ⟨a, c, r, rfl⟩
      | [], h => simp at h; omega
      | [_], h => simp at h; omega
    have hc : s[1]'h1 = c := by rw [hl] at hg; simpa using hg.symm
    have e : escape s.data.toList = match meant c with
        | some v => some (v, 2)
        | none => match unit s.data.toList with
          | none => none
          | some v => if v < 0xD800 ∨ 0xE000 ≤ v then some (v, 6) else pairV v (unit (s.data.toList.drop 6)) := by
      rw [hl]
      unfold escape
      simp only
      cases meant c with
      | some v => rfl
      | none =>
        cases unit (a :: c :: r) with
        | none => rfl
        | some v =>
          simp only
          split
          · rfl
          · cases unit ((a :: c :: r).drop 6) <;> rfl
    cases hm : meant c with
    | some v =>
      rw [e, hm]
      exact (esc_letter s w (by omega) c hc v hm).mono fun e w' ⟨he, hw⟩ => ⟨he, hw ▸ Gr.refl _ _⟩
    | none =>
      cases hu : unit s.data.toList with
      | none =>
        rw [e, hm, hu]
        exact esc_no s w G (by omega) (by rw [hc]; exact hm) hu
      | some v =>
        rw [e, hm, hu]
        simp only
        by_cases hv : v < 0xD800 ∨ 0xE000 ≤ v
        · rw [if_pos hv]
          exact esc_one s w G (by omega) (by rw [hc]; exact hm) v hu hv (by have := (unit_len hu).2; omega)
        · rw [if_neg hv]
          exact esc_two s w G (fun h => by rw [hc]; exact hm) v hu (by omega) (by omega)
end Go.Proofs.YtdooeedemgmpiaaDoor
