/- vector's sums of products, distances and scores. Conditions: those that each theorem names. -/
import Derived.Test.YtfgmkdghpdpdkaaVcA
import Derived.Test.YtfgmkdghpdpdkaaVcNum
namespace Go.Proofs.Ytfgmkdghpdpdkaa
set_option linter.unusedVariables false
open Go Go.RowKit Vc
/-- Two rows whose sums of products, and each product, stay small. -/
def SmallP (a b : List Int) : Prop := ∀ k, (h : k < a.length) → (h' : k < b.length) → (-2147483648 ≤ a[k] ∧ a[k] ≤ 2147483647) ∧ (-2147483648 ≤ b[k] ∧ b[k] ≤ 2147483647) ∧ (-1099511627776 ≤ a[k] * b[k] ∧ a[k] * b[k] ≤ 1099511627776) ∧
  (-1099511627776 ≤ dot (a.take k) (b.take k) ∧ dot (a.take k) (b.take k) ≤ 1099511627776)
theorem wrap_in (x : Int) (h : -9223372036854775808 ≤ x ∧ x ≤ 9223372036854775807) : wrap64 x = x := by unfold wrap64; omega
theorem small_vec {a b : List Int} (ha : vecB a = true) (hb : vecB b = true) : SmallP a b := fun k h h' => by
  have x := (parts_of ha).2.2 k h
  have y := (parts_of hb).2.2 k h'
  have z := mul_bd (P := 32768) (Q := 32768) (x := a[k]) (y := b[k]) (by omega) (by omega) (by omega) (by omega)
  have t := take_bd ha hb k
  omega
theorem small_sub {a b : List Int} (h : a.length = b.length) (ha : vecB a = true) (hb : vecB b = true) : SmallP (sub a b) (sub a b) := fun k h1 h2 => by
  have x := sub_bd h ha hb k h1
  have z := mul_bd (P := 65535) (Q := 65535) (x := (sub a b)[k]) (y := (sub a b)[k]) (by omega) (by omega) (by omega) (by omega)
  have t := sq_take_bd h ha hb k
  omega
set_option maxHeartbeats 1000000 in
theorem sumProd_any (a b : List Int) (u v : Value) (w : World) (hu : KAt .i64 w u a) (hv : KAt .i64 w v b) (hl : a.length = b.length) (hs : SmallP a b) (hm : a.length ≤ 64) :
    Calls Try.prog 60 #[u, v] w fun e w' => e = .returned (.int .i64 (dot a b)) ∧ w' = w := by
  have HP := Lib.hid hs
  clear hs
  rcases hu with ⟨rfl, q, c, rfl⟩ | ⟨b1, o1, c1, rfl, hb1, hc1⟩
  · obtain rfl : b = [] := by cases b with | nil => rfl | cons _ _ => simp at hl
    obtain ⟨p2, c2, rfl⟩ := hv.form
    clear hv
    go_enter Try.func60, Try.ntmps60
    go_wp2
    go_loop [5, 10] (fun s i => s = .int .i64 0 ∧ i = .int .i64 0) (fun _ _ => 0)
    case atStart => exact ⟨rfl, rfl⟩
    case round =>
      obtain ⟨rfl, rfl⟩ := hrel
      go_wp2
      go_ret
      exact ⟨rfl, rfl⟩
  · rcases hv with ⟨rfl, q, c, rfl⟩ | ⟨b2, o2, c2, rfl, hb2, hc2⟩
    · obtain rfl : a = [] := by cases a with | nil => rfl | cons _ _ => simp at hl
      go_enter Try.func60, Try.ntmps60
      go_wp2
      go_loop [5, 10] (fun s i => s = .int .i64 0 ∧ i = .int .i64 0) (fun _ _ => 0)
      case atStart => exact ⟨rfl, rfl⟩
      case round =>
        obtain ⟨rfl, rfl⟩ := hrel
        go_wp2
        go_ret
        exact ⟨rfl, rfl⟩
    · have H1 := Lib.hid hc1
      have H2 := Lib.hid hc2
      have HL := Lib.hid hl
      clear hc1 hc2
      rw [← hl]
      clear hl
      go_enter Try.func60, Try.ntmps60
      go_wp2
      go_loop [5, 10] (fun s i => ∃ k : Nat, k ≤ a.length ∧ i = .int .i64 k ∧ s = .int .i64 (dot (a.take k) (b.take k))) (fun _ i => a.length - (intOf i).toNat)
      case atStart => exact ⟨0, Nat.zero_le _, rfl, rfl⟩
      case round =>
        obtain ⟨k, hk, rfl, rfl⟩ := hrel
        by_cases hlt : k < a.length
        · have hlt2 : k < b.length := HL.out ▸ hlt
          have g1 := H1.out w rfl k hlt
          have g2 := H2.out w rfl k hlt2
          obtain ⟨x1, x2, x3, x4⟩ := HP.out k hlt hlt2
          have hd := dot_take a b k hlt hlt2
          generalize dot (a.take k) (b.take k) = S at *
          generalize a[k] = x at *
          generalize b[k] = y at *
          have e1 : wrap64 x = x := wrap_in x (by omega)
          have e2 : wrap64 y = y := wrap_in y (by omega)
          have e3 : wrap64 (x * y) = x * y := wrap_in _ (by omega)
          have e4 : wrap64 (S + x * y) = S + x * y := wrap_in _ (by omega)
          have HD := Lib.hid hd
          clear x1 x2 x3 x4 hd
          go_wp2
          go_round
          case rel => exact ⟨k + 1, by omega, by go_num, by rw [e4, HD.out]⟩
          case measure => simp [intOf]; omega
        · obtain rfl : k = a.length := by omega
          have hd : dot (a.take a.length) (b.take a.length) = dot a b := by rw [List.take_length, HL.out, List.take_length]
          rw [hd]
          go_wp2
          go_ret
          exact ⟨rfl, rfl⟩
set_option maxHeartbeats 1000000 in
theorem sumProd32_any (a b : List Int) (u v : Value) (w : World) (hu : KAt .i32 w u a) (hv : KAt .i32 w v b) (hl : a.length = b.length) (hs : SmallP a b) (hm : a.length ≤ 64) :
    Calls Try.prog 68 #[u, v] w fun e w' => e = .returned (.int .i64 (dot a b)) ∧ w' = w := by
  have HP := Lib.hid hs
  clear hs
  rcases hu with ⟨rfl, q, c, rfl⟩ | ⟨b1, o1, c1, rfl, hb1, hc1⟩
  · obtain rfl : b = [] := by cases b with | nil => rfl | cons _ _ => simp at hl
    obtain ⟨p2, c2, rfl⟩ := hv.form
    clear hv
    go_enter Try.func68, Try.ntmps68
    go_wp2
    go_loop [5, 10] (fun s i => s = .int .i64 0 ∧ i = .int .i64 0) (fun _ _ => 0)
    case atStart => exact ⟨rfl, rfl⟩
    case round =>
      obtain ⟨rfl, rfl⟩ := hrel
      go_wp2
      go_ret
      exact ⟨rfl, rfl⟩
  · rcases hv with ⟨rfl, q, c, rfl⟩ | ⟨b2, o2, c2, rfl, hb2, hc2⟩
    · obtain rfl : a = [] := by cases a with | nil => rfl | cons _ _ => simp at hl
      go_enter Try.func68, Try.ntmps68
      go_wp2
      go_loop [5, 10] (fun s i => s = .int .i64 0 ∧ i = .int .i64 0) (fun _ _ => 0)
      case atStart => exact ⟨rfl, rfl⟩
      case round =>
        obtain ⟨rfl, rfl⟩ := hrel
        go_wp2
        go_ret
        exact ⟨rfl, rfl⟩
    · have H1 := Lib.hid hc1
      have H2 := Lib.hid hc2
      have HL := Lib.hid hl
      clear hc1 hc2
      rw [← hl]
      clear hl
      go_enter Try.func68, Try.ntmps68
      go_wp2
      go_loop [5, 10] (fun s i => ∃ k : Nat, k ≤ a.length ∧ i = .int .i64 k ∧ s = .int .i64 (dot (a.take k) (b.take k))) (fun _ i => a.length - (intOf i).toNat)
      case atStart => exact ⟨0, Nat.zero_le _, rfl, rfl⟩
      case round =>
        obtain ⟨k, hk, rfl, rfl⟩ := hrel
        by_cases hlt : k < a.length
        · have hlt2 : k < b.length := HL.out ▸ hlt
          have g1 := H1.out w rfl k hlt
          have g2 := H2.out w rfl k hlt2
          obtain ⟨x1, x2, x3, x4⟩ := HP.out k hlt hlt2
          have hd := dot_take a b k hlt hlt2
          generalize dot (a.take k) (b.take k) = S at *
          generalize a[k] = x at *
          generalize b[k] = y at *
          have e1 : wrap64 x = x := wrap_in x (by omega)
          have e2 : wrap64 y = y := wrap_in y (by omega)
          have e3 : wrap64 (x * y) = x * y := wrap_in _ (by omega)
          have e4 : wrap64 (S + x * y) = S + x * y := wrap_in _ (by omega)
          have HD := Lib.hid hd
          clear x1 x2 x3 x4 hd
          go_wp2
          go_round
          case rel => exact ⟨k + 1, by omega, by go_num, by rw [e4, HD.out]⟩
          case measure => simp [intOf]; omega
        · obtain rfl : k = a.length := by omega
          have hd : dot (a.take a.length) (b.take a.length) = dot a b := by rw [List.take_length, HL.out, List.take_length]
          rw [hd]
          go_wp2
          go_ret
          exact ⟨rfl, rfl⟩
end Go.Proofs.Ytfgmkdghpdpdkaa
