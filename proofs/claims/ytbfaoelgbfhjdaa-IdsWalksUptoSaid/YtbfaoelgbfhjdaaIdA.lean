/- The checks of lists of ids, the program's and the document's; whether a number stands in a row; rows compared; copies. Conditions: those that each theorem names. -/
import Derived.Test.YtbfaoelgbfhjdaaRowI
import Derived.Test.YtbfaoelgbfhjdaaIdBy
namespace Go.Proofs.Ytbfaoelgbfhjdaa
set_option linter.unusedVariables false
open Go Go.RowKit Ids
namespace Ids
def lastL (L : List Int) : Int := L.getLast?.getD 0
theorem take_snoc {L : List Int} {k : Nat} {x : Int} (h : L[k]? = some x) : L.take (k + 1) = L.take k ++ [x] := by rw [List.take_add_one, h]; rfl
theorem lastL_take {L : List Int} {k : Nat} {x : Int} (h : L[k]? = some x) : lastL (L.take (k + 1)) = x := by rw [take_snoc h]; simp [lastL]
theorem lastL_mem {L : List Int} (h : L ≠ []) : lastL L ∈ L := by
  unfold lastL
  rw [List.getLast?_eq_some_getLast h]
  exact List.getLast_mem h
theorem ris_lastL : ∀ {L : List Int}, Ris L → ∀ x ∈ L, x ≤ lastL L := by
  intro L h x hx
  obtain ⟨j, hj, rfl⟩ := List.getElem_of_mem hx
  have hne : L ≠ [] := by intro e; subst e; simp at hj
  unfold lastL
  rw [List.getLast?_eq_some_getLast hne, List.getLast_eq_getElem]
  simp only [Option.getD_some]
  rcases Nat.lt_or_ge j (L.length - 1) with c | c
  · have := List.pairwise_iff_getElem.mp h j (L.length - 1) hj (by omega) c
    omega
  · have : j = L.length - 1 := by omega
    subst this
    exact Int.le_refl _
theorem okB_snoc {A : List Int} {x : Int} : okB (A ++ [x]) ↔ okB A ∧ lastL A < x ∧ x ≤ 4503599627370496 := by
  constructor
  · rintro ⟨h1, h2⟩
    obtain ⟨h3, _, h4⟩ := List.pairwise_append.mp h1
    have hx := h2 x (by simp)
    refine ⟨⟨h3, fun y hy => h2 y (by simp [hy])⟩, ?_, hx.2⟩
    by_cases he : A = []
    · subst he; simp [lastL]; omega
    · exact h4 _ (lastL_mem he) x (by simp)
  · rintro ⟨⟨h1, h2⟩, h3, h4⟩
    refine ⟨List.pairwise_append.mpr ⟨h1, List.pairwise_singleton _ _, fun y hy z hz => ?_⟩, fun y hy => ?_⟩
    · obtain rfl : z = x := by simpa using hz
      have := ris_lastL h1 y hy
      omega
    · rcases List.mem_append.mp hy with c | c
      · exact h2 y c
      · obtain rfl : y = x := by simpa using c
        refine ⟨?_, h4⟩
        by_cases he : A = []
        · subst he; simp [lastL] at h3; omega
        · have := (h2 _ (lastL_mem he)).1; omega
theorem okB_take {L : List Int} (k : Nat) (h : okB L) : okB (L.take k) := ⟨h.1.sublist (List.take_sublist _ _), fun x hx => h.2 x (List.mem_of_mem_take hx)⟩
theorem okB_next {L : List Int} {k : Nat} {x : Int} (h : L[k]? = some x) (hk : okB (L.take k)) (h1 : lastL (L.take k) < x) (h2 : x ≤ 4503599627370496) : okB (L.take (k + 1)) := by
  rw [take_snoc h]; exact okB_snoc.mpr ⟨hk, h1, h2⟩
theorem okB_no {L : List Int} {k : Nat} {x : Int} (h : L[k]? = some x) (hx : ¬ (lastL (L.take k) < x ∧ x ≤ 4503599627370496)) : ¬ okB L := fun c => by
  have := okB_take (k + 1) c
  rw [take_snoc h] at this
  exact hx (okB_snoc.mp this).2
open Classical in
noncomputable def chkE (L : List Int) : Int := if okB L then 0 else 80
theorem chkE_yes {L : List Int} (h : okB L) : chkE L = 0 := by unfold chkE; rw [if_pos h]
theorem chkE_no {L : List Int} (h : ¬ okB L) : chkE L = 80 := by unfold chkE; rw [if_neg h]
theorem okB_nil : okB [] := ⟨ris_nil, by simp⟩
end Ids
theorem retI {k : IntKind} {a b : Int} (h : b = a) : Ending.returned (.int k a) = .returned (.int k b) := by rw [h]
theorem retB {a b : Bool} (h : b = a) : Ending.returned (.bool a) = .returned (.bool b) := by rw [h]
def hasB (L : List Int) (n : Int) : Bool := L.contains n
set_option maxHeartbeats 1000000 in
set_option maxRecDepth 100000 in
theorem check_any (L : List Int) (v : Value) (w : World) (h : IntsAt w v L) (hl : L.length ≤ maxLen) :
    Calls Try.prog 12 #[v] w fun e w' => e = .returned (.int .i64 (chkE L)) ∧ w' = w := by
  have HS := Lib.hid hl
  clear hl
  rcases h with ⟨rfl, q, c, rfl⟩ | ⟨b, off, c, rfl, hb, hc⟩
  · go_enter Try.func12, Try.ntmps12
    go_wp2
    go_loop [8] (fun i => i = .int .i64 0) (fun _ => 0)
    case atStart => rfl
    case round =>
      subst hrel
      go_wp2
      go_ret
      exact ⟨retI (chkE_yes okB_nil), rfl⟩
  · go_enter Try.func12, Try.ntmps12
    have HC := Lib.hid hc
    clear hc
    go_wp2
    go_loop [3, 8] (fun p i => ∃ k : Nat, k ≤ L.length ∧ i = .int .i64 k ∧ p = .int .i64 (lastL (L.take k)) ∧ Hid (okB (L.take k))) (fun _ i => L.length - (intOf i).toNat)
    case atStart => exact ⟨0, Nat.zero_le _, rfl, rfl, Lib.hid okB_nil⟩
    case round =>
      obtain ⟨k, hk, rfl, rfl, HA⟩ := hrel
      by_cases hlt : k < L.length
      · have hcell := HC.out w rfl k hlt
        have hx : L[k]? = some L[k] := List.getElem?_eq_getElem hlt
        generalize hcc : L[k] = n at hx hcell
        have HXX := Lib.hid hx
        have HLL := Lib.hid (lastL_take hx)
        have HNX := Lib.hid (fun h1 h2 => okB_next hx HA.out h1 h2)
        have HNO := Lib.hid (fun h => okB_no hx h)
        clear hx hcc HA
        generalize lastL (L.take k) = y at *
        by_cases h1 : y < n
        · by_cases h2 : n ≤ 4503599627370496
          · have HN := Lib.hid (HNX.out h1 h2)
            clear HNX HNO
            go_wp2_with fail
            go_round
            case rel => exact ⟨k + 1, by omega, congrArg _ (wrap_s HS.out hlt), by rw [HLL.out], HN⟩
            case measure =>
              rw [wrap_s HS.out hlt]
              exact int_less hlt
          · have HN := Lib.hid (chkE_no (HNO.out fun c => h2 c.2))
            clear HNX HNO
            go_wp2_with fail
            go_ret
            exact ⟨retI HN.out, rfl⟩
        · have HN := Lib.hid (chkE_no (HNO.out fun c => h1 c.1))
          clear HNX HNO
          go_wp2_with fail
          go_ret
          exact ⟨retI HN.out, rfl⟩
      · obtain rfl : k = L.length := by omega
        have hx := HA.out
        rw [List.take_length] at hx
        have HE := Lib.hid (chkE_yes hx)
        clear hx HA
        go_wp2_with fail
        go_ret
        exact ⟨retI HE.out, rfl⟩
set_option maxHeartbeats 1000000 in
theorem has_any (L : List Int) (v : Value) (n : Int) (w : World) (h : IntsAt w v L) (hl : L.length ≤ maxLen) :
    Calls Try.prog 15 #[v, .int .i64 n] w fun e w' => e = .returned (.bool (hasB L n)) ∧ w' = w := by
  rcases h with ⟨rfl, q, c, rfl⟩ | ⟨b, off, c, rfl, hb, hc⟩
  · go_enter Try.func15, Try.ntmps15
    go_wp2_with (go_at_call 33; refine (Try.slices_Contains_int_empty _ _ _ _).mono ?_; rintro e w' ⟨rfl, rfl⟩)
    go_ret
    exact ⟨rfl, rfl⟩
  · have HC := Try.slices_Contains_int b off L.length c L n w (Nat.le_refl _) hl (fun j hj => by rw [hc w rfl j hj]; simp [hj])
    rw [List.take_length] at HC
    change Calls _ _ _ _ (fun e w' => e = .returned (.bool (hasB L n)) ∧ w' = w) at HC
    go_enter Try.func15, Try.ntmps15
    go_wp2_with (go_at_call 33; refine HC.mono ?_; rintro e w' ⟨rfl, rfl⟩)
    go_ret
    exact ⟨rfl, rfl⟩
set_option maxHeartbeats 1000000 in
theorem hasRef_any (L : List Int) (v : Value) (n : Int) (w : World) (h : IntsAt w v L) (hl : L.length ≤ maxLen) :
    Calls Try.prog 16 #[v, .int .i64 n] w fun e w' => e = .returned (.bool (hasB L n)) ∧ w' = w := by
  have HS := Lib.hid hl
  clear hl
  rcases h with ⟨rfl, q, c, rfl⟩ | ⟨b, off, c, rfl, hb, hc⟩
  · go_enter Try.func16, Try.ntmps16
    go_wp2
    go_loop [5] (fun i => i = .int .i64 0) (fun _ => 0)
    case atStart => rfl
    case round =>
      subst hrel
      go_wp2
      go_ret
      exact ⟨rfl, rfl⟩
  · go_enter Try.func16, Try.ntmps16
    have HC := Lib.hid hc
    clear hc
    go_wp2
    go_loop [5] (fun i => ∃ k : Nat, k ≤ L.length ∧ i = .int .i64 k ∧ Hid (hasB (L.take k) n = false)) (fun i => L.length - (intOf i).toNat)
    case atStart => exact ⟨0, Nat.zero_le _, rfl, Lib.hid rfl⟩
    case round =>
      obtain ⟨k, hk, rfl, HA⟩ := hrel
      by_cases hlt : k < L.length
      · have hcell := HC.out w rfl k hlt
        have hx : L[k]? = some L[k] := List.getElem?_eq_getElem hlt
        generalize hcc : L[k] = m at hx hcell
        by_cases hn : m = n
        · subst hn
          have HN : Hid (hasB L m = true) := Lib.hid (by simpa [hasB] using List.mem_of_getElem? hx)
          clear hx HA hcc
          go_wp2_with fail
          go_ret
          exact ⟨retB HN.out, rfl⟩
        · have HN : Hid (hasB (L.take (k + 1)) n = false) := Lib.hid (by
            have := HA.out
            rw [take_snoc hx]
            simp only [hasB, List.contains_eq_mem, decide_eq_false_iff_not] at this ⊢
            simp [this]
            exact fun c => hn c.symm)
          clear hx HA hcc
          go_wp2_with fail
          go_round
          case rel => exact ⟨k + 1, by omega, congrArg _ (wrap_s HS.out hlt), HN⟩
          case measure =>
            rw [wrap_s HS.out hlt]
            exact int_less hlt
      · obtain rfl : k = L.length := by omega
        have hx := HA.out
        rw [List.take_length] at hx
        have HE := Lib.hid hx
        clear hx HA
        go_wp2_with fail
        go_ret
        exact ⟨retB HE.out, rfl⟩
set_option maxHeartbeats 1000000 in
theorem twin_any (L : List Int) (v : Value) (w : World) (h : IntsAt w v L) (hl : L.length * 8 ≤ 140737488355328) :
    Calls Try.prog 9 #[v] w fun e w' => ∃ u, e = .returned u ∧ Own w' w.heap.size u L ∧ Below w.heap.size w w' := by
  have HA := Lib.hid (append_ints (base := w.heap.size) (A := []) (v := .slice none 0 0) (World.ownsRow_nil _ _ _ _) h (by simpa using hl) (Nat.le_refl _))
  clear h hl
  go_enter Try.func9, Try.ntmps9
  obtain ⟨v', w', hr, h2, h3⟩ := HA.out
  go_wp2_with (at_builtin; refine wpList_append_run rfl _ _ _ _ rfl _ _ _ _ rfl rfl hr ?_)
  go_ret
  exact ⟨_, rfl, h2, (Below.refl _ _).grown h3 (Nat.le_refl _) (fun k hk => by cases hk)⟩
end Go.Proofs.Ytbfaoelgbfhjdaa
