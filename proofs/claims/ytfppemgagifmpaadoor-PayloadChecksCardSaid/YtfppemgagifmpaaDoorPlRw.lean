/- The document's Rune and Runes. Conditions: those that each theorem names. -/
import Derived.Test.YtfppemgagifmpaaDoorPlB
import Derived.Test.YtfppemgagifmpaaDoorPlRu
import Derived.Test.YtfppemgagifmpaaDoorTx
namespace Go.Proofs.YtfppemgagifmpaaDoor
set_option linter.unusedVariables false
open Go Go.RowKit Go.Shelf Ru
theorem runeR_at (s : ByteArray) (c : UInt8) (h0 : 0 < s.size) (hc : s[0] = c) : s.data.toList = c :: s.data.toList.drop 1 := by
  have h := Lib.data_getElem? s 0 h0
  rw [hc] at h
  cases hd : s.data.toList with
  | nil => rw [hd] at h; simp at h
  | cons d r => rw [hd] at h; simp at h; subst h; rfl
theorem drop_at (s : ByteArray) (k : Nat) (hk : k + 1 < s.size) : (s.data.toList.drop 1)[k]? = some s[k + 1] := by
  rw [List.getElem?_drop, show 1 + k = k + 1 by omega]; exact Lib.data_getElem? s (k + 1) hk
theorem tail_no {n least v k : Nat} {t : List UInt8} {d : UInt8} (h : t[k]? = some d) (hk : k < n - 1) (hd : contB d = false) : tailR n least v t = (0, 0) := by
  unfold tailR
  split
  · rfl
  · rw [if_neg]
    intro ha
    rw [List.all_eq_true] at ha
    have hm : d ∈ t.take (n - 1) := by
      rw [List.mem_iff_getElem?]
      exact ⟨k, by rw [List.getElem?_take, if_pos hk]; exact h⟩
    rw [ha d hm] at hd; cases hd
theorem tail_yes {n least v : Nat} {t : List UInt8} (hl : n ≤ t.length + 1) (ha : (t.take (n - 1)).all contB = true) : tailR n least v t = endR n least ((t.take (n - 1)).foldl more v) := by
  unfold tailR
  rw [if_neg (by omega), if_pos ha]
/-- So far: k - 1 bytes behind the first, all of which go on. -/
def SoR (v0 : Nat) (t : List UInt8) (k m : Nat) : Prop := (t.take (k - 1)).all contB = true ∧ m = (t.take (k - 1)).foldl more v0
theorem SoR.next {v0 : Nat} {t : List UInt8} {k m : Nat} {d : UInt8} (h : SoR v0 t (k + 1) m) (hd : t[k]? = some d) (hc : contB d = true) : SoR v0 t (k + 2) (m * 64 + d.toNat - 128) := by
  obtain ⟨h1, h2⟩ := h
  have e : t.take (k + 2 - 1) = t.take k ++ [d] := by rw [show k + 2 - 1 = k + 1 by omega, List.take_add_one, hd]; rfl
  simp only [Nat.add_sub_cancel] at h1 h2
  refine ⟨by rw [e, List.all_append, h1]; simp [hc], ?_⟩
  rw [e, List.foldl_append, ← h2]; rfl
theorem cont_ways (d : UInt8) : (contB d = true ∧ (128 : Int) ≤ d.toNat ∧ (d.toNat : Int) < 192) ∨ (contB d = false ∧ ((d.toNat : Int) < 128 ∨ ((128 : Int) ≤ d.toNat ∧ (192 : Int) ≤ d.toNat))) := by
  cases h : contB d
  · right
    have h2 : ¬ (128 ≤ d.toNat ∧ d.toNat < 192) := fun c => by rw [(cont_iff d).2 c] at h; cases h
    exact ⟨rfl, by omega⟩
  · left
    have h2 := (cont_iff d).1 h
    exact ⟨rfl, by omega, by omega⟩
theorem end_bad {n least v : Nat} (h : v < least ∨ 1114111 < v ∨ (55296 ≤ v ∧ v < 57344)) : endR n least v = (0, 0) := by unfold endR; rw [if_pos h]
theorem end_ok {n least v : Nat} (h : ¬ (v < least ∨ 1114111 < v ∨ (55296 ≤ v ∧ v < 57344))) : endR n least v = (n, v) := by unfold endR; rw [if_neg h]
/-- Where the number of a rune may lie, by the walk's own tests. -/
theorem end_ways (n least v : Nat) (l : Int) (hl : (least : Int) = l) : (endR n least v = (0, 0) ∧ ((v : Int) < l ∨ (l ≤ v ∧ (1114111 : Int) < v) ∨ (l ≤ v ∧ (v : Int) ≤ 1114111 ∧ (55296 : Int) ≤ v ∧ (v : Int) < 57344))) ∨
    (endR n least v = (n, v) ∧ ((l ≤ v ∧ (v : Int) ≤ 1114111 ∧ (v : Int) < 55296) ∨ (l ≤ v ∧ (v : Int) ≤ 1114111 ∧ (55296 : Int) ≤ v ∧ (57344 : Int) ≤ v))) := by
  by_cases h : v < least ∨ 1114111 < v ∨ (55296 ≤ v ∧ v < 57344)
  · exact .inl ⟨end_bad h, by omega⟩
  · exact .inr ⟨end_ok h, by omega⟩
theorem byte_int {c : UInt8} {n : Nat} : ((c.toNat : Int) < n ↔ c.toNat < n) ∧ ((n : Int) ≤ c.toNat ↔ n ≤ c.toNat) := ⟨by omega, by omega⟩
set_option maxHeartbeats 4000000 in
set_option maxRecDepth 100000 in
theorem rune_any (s : ByteArray) (hs : s.size ≤ maxLen) (w : World) :
    Calls Tryd.prog 64 #[.string s] w fun e w' => e = .returned (.tuple #[.int .i64 ((runeR s.data.toList).1 : Nat), .int .i64 ((runeR s.data.toList).2 : Nat)]) ∧ w' = w := by
  obtain ⟨r1, r2, hr⟩ : ∃ r1 r2, runeR s.data.toList = (r1, r2) := ⟨_, _, rfl⟩
  rw [hr]
  have HR := Lib.hid hr
  have HSS := Lib.hid hs
  clear hr hs
  by_cases h0 : s.size = 0
  · have hz : s = ⟨#[]⟩ := by
      apply ByteArray.ext
      exact Array.size_eq_zero_iff.1 h0
    subst hz
    have HV : Hid (r1 = 0 ∧ r2 = 0) := Lib.hid (by have h : ((0, 0) : Nat × Nat) = (r1, r2) := HR.out; simpa [eq_comm] using h)
    clear h0 HR
    go_enter Tryd.func64, Tryd.ntmps64
    go_wp2_with fail
    go_ret2
    rw [HV.out.1, HV.out.2]
    exact ⟨rfl, rfl⟩
  · have hp : 0 < s.size := by omega
    obtain ⟨c, hc⟩ : ∃ c, s[0] = c := ⟨_, rfl⟩
    have hl := runeR_at s c hp hc
    have HT : Hid (∀ k (hk : k + 1 < s.size), (s.data.toList.drop 1)[k]? = some s[k + 1]) := Lib.hid (drop_at s)
    have HTL : Hid ((s.data.toList.drop 1).length + 1 = s.size) := Lib.hid (by rw [List.length_drop, ln]; omega)
    have HR2 : Hid (runeR (c :: s.data.toList.drop 1) = (r1, r2)) := Lib.hid (by rw [← hl]; exact HR.out)
    have he : s.toList.isEmpty = false := by
      rw [Go.ByteArray.toList_eq, List.isEmpty_eq_false_iff, hl]; simp
    clear hl HR h0
    generalize s.data.toList.drop 1 = t at HT HTL HR2
    have hb := c.toNat_lt
    by_cases c1 : c.toNat < 128
    · have c1' : (c.toNat : Int) < 128 := by omega
      have HV : Hid (r1 = 1 ∧ r2 = c.toNat) := Lib.hid (by have h := HR2.out; rw [runeR_cons, if_pos c1] at h; simpa [eq_comm] using h)
      clear HR2 HT HTL c1
      go_enter Tryd.func64, Tryd.ntmps64
      go_wp2_with fail
      go_ret2
      rw [HV.out.1, HV.out.2]
      exact ⟨rfl, rfl⟩
    · by_cases c2 : 192 ≤ c.toNat ∧ c.toNat < 224
      · obtain ⟨q, hq⟩ : ∃ q : Nat, c.toNat = q + 192 := ⟨c.toNat - 192, by omega⟩
        have HV : Hid (tailR 2 128 q t = (r1, r2)) := Lib.hid (by have h := HR2.out; rw [runeR_cons, if_neg c1, if_pos c2, show c.toNat - 192 = q by omega] at h; exact h)
        have HQ : Hid (q < 32) := Lib.hid (by omega)
        have c2a : ¬ (c.toNat : Int) < 128 := by omega
        have c2b : (192 : Int) ≤ c.toNat := by omega
        have c2c : (c.toNat : Int) < 224 := by omega
        have c2d : (c.toNat : Int) - 192 = q := by omega
        clear HR2 c2 c1 hq
        by_cases hn : s.size < 2
        · have hn' : (s.size : Int) < 2 := by omega
          have HZ : Hid (r1 = 0 ∧ r2 = 0) := Lib.hid (by have h := HV.out; rw [tail_short (by have := HTL.out; omega)] at h; simpa [eq_comm] using h)
          clear hn HV
          go_enter Tryd.func64, Tryd.ntmps64
          go_wp2_with fail
          go_ret2
          rw [HZ.out.1, HZ.out.2]
          exact ⟨rfl, rfl⟩
        · have hn' : ¬ (s.size : Int) < 2 := by omega
          have HN := Lib.hid hn
          clear hn
          go_enter Tryd.func64, Tryd.ntmps64
          go_wp2_with fail
          clear he hc hb hn' c2a c2b c2c c2d
          go_loop [7, 8] (fun v i => ∃ k m : Nat, i = .int .i64 ((k + 1 : Nat) : Int) ∧ v = .int .i64 (m : Int) ∧ k + 1 ≤ 2 ∧ m < 32 * 64 ^ k ∧ Hid (SoR q t (k + 1) m)) (fun _ i => 2 - (intOf i).toNat)
          case atStart => exact ⟨0, q, rfl, rfl, by omega, by have := HQ.out; omega, Lib.hid ⟨by simp, by simp⟩⟩
          case round =>
            obtain ⟨k, m, rfl, rfl, hk, hm, HS⟩ := hrel
            have HM := Lib.hid hm
            clear hm
            by_cases hlt : k + 1 < 2
            · have hks : k + 1 < s.size := by have := HN.out; omega
              have hd := HT.out k hks
              obtain ⟨d, hdd⟩ : ∃ d, s[k + 1] = d := ⟨_, rfl⟩
              rw [hdd] at hd
              have hd256 : (d.toNat : Int) < 256 := by have := d.toNat_lt; omega
              have HD := Lib.hid hd
              clear hd
              have hlt' : ((k + 1 : Nat) : Int) < 2 := by omega
              have hk0 : (0 : Int) ≤ ((k + 1 : Nat) : Int) := by omega
              have hks' : ((k + 1 : Nat) : Int) < (s.size : Int) := by omega
              rcases cont_ways d with ⟨hcc, h1, h2⟩ | ⟨hcc, h⟩
              · have h1' : ¬ (d.toNat : Int) < 128 := by omega
                have h2' : ¬ (192 : Int) ≤ (d.toNat : Int) := by omega
                have hm8 : m < 8388608 := by
                  have := HM.out
                  have h64 : 64 ^ k ≤ 64 ^ 2 := Nat.pow_le_pow_right (by omega) (by omega)
                  have h65 : 32 * 64 ^ k ≤ 32 * 64 ^ 2 := Nat.mul_le_mul_left _ h64
                  omega
                have e1 : wrap64 ((m : Int) * 64) = ((m * 64 : Nat) : Int) := by unfold wrap64; omega
                have e2 : wrap64 (((m * 64 : Nat) : Int) + (d.toNat : Int)) = ((m * 64 + d.toNat : Nat) : Int) := by unfold wrap64; omega
                have e3 : wrap64 (((m * 64 + d.toNat : Nat) : Int) - 128) = ((m * 64 + d.toNat - 128 : Nat) : Int) := by unfold wrap64; omega
                have eV : wrap64 (wrap64 ((m : Int) * 64 + (d.toNat : Int)) - 128) = ((m * 64 + d.toNat - 128 : Nat) : Int) := by unfold wrap64; omega
                have e4 : wrap64 (((k + 1 : Nat) : Int) + 1) = ((k + 2 : Nat) : Int) := by unfold wrap64; omega
                have HX := Lib.hid (HS.out.next HD.out hcc)
                have HMM : Hid (m * 64 + d.toNat - 128 < 32 * 64 ^ (k + 1)) := Lib.hid (by have := HM.out; rw [Nat.pow_succ]; omega)
                clear hm8 hcc HS HM
                go_wp2_with fail
                go_round
                case rel => exact ⟨k + 1, m * 64 + d.toNat - 128, by first | rfl | (rw [e4]) | go_num, by first | rfl | (rw [eV]), by omega, HMM.out, HX⟩
                case measure => (try rw [e4]); simp only [intOf, Int.toNat_natCast]; omega
              · have HZ : Hid (r1 = 0 ∧ r2 = 0) := Lib.hid (by have h := HV.out; rw [tail_no HD.out (by omega) hcc] at h; simpa [eq_comm] using h)
                clear hcc
                rcases h with h1 | ⟨h1, h2⟩
                · go_wp2_with fail
                  go_ret2
                  rw [HZ.out.1, HZ.out.2]
                  exact ⟨rfl, rfl⟩
                · have h1' : ¬ (d.toNat : Int) < 128 := by omega
                  go_wp2_with fail
                  go_ret2
                  rw [HZ.out.1, HZ.out.2]
                  exact ⟨rfl, rfl⟩
            · obtain rfl : k = 1 := by omega
              have HE : Hid (endR 2 128 m = (r1, r2)) := Lib.hid (by
                have h := HV.out
                rw [tail_yes (by have := HTL.out; have := HN.out; omega) HS.out.1] at h
                rw [HS.out.2]; exact h)
              clear hlt hk HS HM HV
              rcases end_ways 2 128 m 128 rfl with ⟨he, h⟩ | ⟨he, h⟩
              · have HZ : Hid (r1 = 0 ∧ r2 = 0) := Lib.hid (by have h := HE.out; rw [he] at h; simpa [eq_comm] using h)
                clear he HE
                rcases h with h1 | ⟨h1, h2⟩ | ⟨h1, h2, h3, h4⟩
                all_goals
                  (try have g1 : ¬ (m : Int) < 128 := by omega)
                  (try have g2 : ¬ (1114111 : Int) < (m : Int) := by omega)
                  go_wp2_with fail
                  go_ret2
                  rw [HZ.out.1, HZ.out.2]
                  exact ⟨rfl, rfl⟩
              · have HZ : Hid (r1 = 2 ∧ r2 = m) := Lib.hid (by have h := HE.out; rw [he] at h; simpa [eq_comm] using h)
                clear he HE
                rcases h with ⟨h1, h2, h3⟩ | ⟨h1, h2, h3, h4⟩
                all_goals
                  have g1 : ¬ (m : Int) < 128 := by omega
                  have g2 : ¬ (1114111 : Int) < (m : Int) := by omega
                  (try have g3 : ¬ (55296 : Int) ≤ (m : Int) := by omega)
                  (try have g4 : ¬ (m : Int) < 57344 := by omega)
                  go_wp2_with fail
                  go_ret2
                  rw [HZ.out.1, HZ.out.2]
                  exact ⟨rfl, rfl⟩
      · by_cases c3 : 224 ≤ c.toNat ∧ c.toNat < 240
        · obtain ⟨q, hq⟩ : ∃ q : Nat, c.toNat = q + 224 := ⟨c.toNat - 224, by omega⟩
          have HV : Hid (tailR 3 2048 q t = (r1, r2)) := Lib.hid (by have h := HR2.out; rw [runeR_cons, if_neg c1, if_neg c2, if_pos c3, show c.toNat - 224 = q by omega] at h; exact h)
          have HQ : Hid (q < 32) := Lib.hid (by omega)
          have c3a : ¬ (c.toNat : Int) < 128 := by omega
          have c3e : (192 : Int) ≤ c.toNat := by omega
          have c3f : ¬ (c.toNat : Int) < 224 := by omega
          have c3b : (224 : Int) ≤ c.toNat := by omega
          have c3c : (c.toNat : Int) < 240 := by omega
          have c3d : (c.toNat : Int) - 224 = q := by omega
          clear HR2 c3 c1 hq
          by_cases hn : s.size < 3
          · have hn' : (s.size : Int) < 3 := by omega
            have HZ : Hid (r1 = 0 ∧ r2 = 0) := Lib.hid (by have h := HV.out; rw [tail_short (by have := HTL.out; omega)] at h; simpa [eq_comm] using h)
            clear hn HV
            go_enter Tryd.func64, Tryd.ntmps64
            go_wp2_with fail
            go_ret2
            rw [HZ.out.1, HZ.out.2]
            exact ⟨rfl, rfl⟩
          · have hn' : ¬ (s.size : Int) < 3 := by omega
            have HN := Lib.hid hn
            clear hn
            go_enter Tryd.func64, Tryd.ntmps64
            go_wp2_with fail
            clear he hc hb hn' c3a c3b c3c c3d c3e c3f
            go_loop [7, 8] (fun v i => ∃ k m : Nat, i = .int .i64 ((k + 1 : Nat) : Int) ∧ v = .int .i64 (m : Int) ∧ k + 1 ≤ 3 ∧ m < 32 * 64 ^ k ∧ Hid (SoR q t (k + 1) m)) (fun _ i => 3 - (intOf i).toNat)
            case atStart => exact ⟨0, q, rfl, rfl, by omega, by have := HQ.out; omega, Lib.hid ⟨by simp, by simp⟩⟩
            case round =>
              obtain ⟨k, m, rfl, rfl, hk, hm, HS⟩ := hrel
              have HM := Lib.hid hm
              clear hm
              by_cases hlt : k + 1 < 3
              · have hks : k + 1 < s.size := by have := HN.out; omega
                have hd := HT.out k hks
                obtain ⟨d, hdd⟩ : ∃ d, s[k + 1] = d := ⟨_, rfl⟩
                rw [hdd] at hd
                have hd256 : (d.toNat : Int) < 256 := by have := d.toNat_lt; omega
                have HD := Lib.hid hd
                clear hd
                have hlt' : ((k + 1 : Nat) : Int) < 3 := by omega
                have hk0 : (0 : Int) ≤ ((k + 1 : Nat) : Int) := by omega
                have hks' : ((k + 1 : Nat) : Int) < (s.size : Int) := by omega
                rcases cont_ways d with ⟨hcc, h1, h2⟩ | ⟨hcc, h⟩
                · have h1' : ¬ (d.toNat : Int) < 128 := by omega
                  have h2' : ¬ (192 : Int) ≤ (d.toNat : Int) := by omega
                  have hm8 : m < 8388608 := by
                    have := HM.out
                    have h64 : 64 ^ k ≤ 64 ^ 2 := Nat.pow_le_pow_right (by omega) (by omega)
                    have h65 : 32 * 64 ^ k ≤ 32 * 64 ^ 2 := Nat.mul_le_mul_left _ h64
                    omega
                  have e1 : wrap64 ((m : Int) * 64) = ((m * 64 : Nat) : Int) := by unfold wrap64; omega
                  have e2 : wrap64 (((m * 64 : Nat) : Int) + (d.toNat : Int)) = ((m * 64 + d.toNat : Nat) : Int) := by unfold wrap64; omega
                  have e3 : wrap64 (((m * 64 + d.toNat : Nat) : Int) - 128) = ((m * 64 + d.toNat - 128 : Nat) : Int) := by unfold wrap64; omega
                  have eV : wrap64 (wrap64 ((m : Int) * 64 + (d.toNat : Int)) - 128) = ((m * 64 + d.toNat - 128 : Nat) : Int) := by unfold wrap64; omega
                  have e4 : wrap64 (((k + 1 : Nat) : Int) + 1) = ((k + 2 : Nat) : Int) := by unfold wrap64; omega
                  have HX := Lib.hid (HS.out.next HD.out hcc)
                  have HMM : Hid (m * 64 + d.toNat - 128 < 32 * 64 ^ (k + 1)) := Lib.hid (by have := HM.out; rw [Nat.pow_succ]; omega)
                  clear hm8 hcc HS HM
                  go_wp2_with fail
                  go_round
                  case rel => exact ⟨k + 1, m * 64 + d.toNat - 128, by first | rfl | (rw [e4]) | go_num, by first | rfl | (rw [eV]), by omega, HMM.out, HX⟩
                  case measure => (try rw [e4]); simp only [intOf, Int.toNat_natCast]; omega
                · have HZ : Hid (r1 = 0 ∧ r2 = 0) := Lib.hid (by have h := HV.out; rw [tail_no HD.out (by omega) hcc] at h; simpa [eq_comm] using h)
                  clear hcc
                  rcases h with h1 | ⟨h1, h2⟩
                  · go_wp2_with fail
                    go_ret2
                    rw [HZ.out.1, HZ.out.2]
                    exact ⟨rfl, rfl⟩
                  · have h1' : ¬ (d.toNat : Int) < 128 := by omega
                    go_wp2_with fail
                    go_ret2
                    rw [HZ.out.1, HZ.out.2]
                    exact ⟨rfl, rfl⟩
              · obtain rfl : k = 2 := by omega
                have HE : Hid (endR 3 2048 m = (r1, r2)) := Lib.hid (by
                  have h := HV.out
                  rw [tail_yes (by have := HTL.out; have := HN.out; omega) HS.out.1] at h
                  rw [HS.out.2]; exact h)
                clear hlt hk HS HM HV
                rcases end_ways 3 2048 m 2048 rfl with ⟨he, h⟩ | ⟨he, h⟩
                · have HZ : Hid (r1 = 0 ∧ r2 = 0) := Lib.hid (by have h := HE.out; rw [he] at h; simpa [eq_comm] using h)
                  clear he HE
                  rcases h with h1 | ⟨h1, h2⟩ | ⟨h1, h2, h3, h4⟩
                  all_goals
                    (try have g1 : ¬ (m : Int) < 2048 := by omega)
                    (try have g2 : ¬ (1114111 : Int) < (m : Int) := by omega)
                    go_wp2_with fail
                    go_ret2
                    rw [HZ.out.1, HZ.out.2]
                    exact ⟨rfl, rfl⟩
                · have HZ : Hid (r1 = 3 ∧ r2 = m) := Lib.hid (by have h := HE.out; rw [he] at h; simpa [eq_comm] using h)
                  clear he HE
                  rcases h with ⟨h1, h2, h3⟩ | ⟨h1, h2, h3, h4⟩
                  all_goals
                    have g1 : ¬ (m : Int) < 2048 := by omega
                    have g2 : ¬ (1114111 : Int) < (m : Int) := by omega
                    (try have g3 : ¬ (55296 : Int) ≤ (m : Int) := by omega)
                    (try have g4 : ¬ (m : Int) < 57344 := by omega)
                    go_wp2_with fail
                    go_ret2
                    rw [HZ.out.1, HZ.out.2]
                    exact ⟨rfl, rfl⟩
        · by_cases c4 : 240 ≤ c.toNat ∧ c.toNat < 248
          · obtain ⟨q, hq⟩ : ∃ q : Nat, c.toNat = q + 240 := ⟨c.toNat - 240, by omega⟩
            have HV : Hid (tailR 4 65536 q t = (r1, r2)) := Lib.hid (by have h := HR2.out; rw [runeR_cons, if_neg c1, if_neg c2, if_neg c3, if_pos c4, show c.toNat - 240 = q by omega] at h; exact h)
            have HQ : Hid (q < 32) := Lib.hid (by omega)
            have c4a : ¬ (c.toNat : Int) < 128 := by omega
            have c4e : (192 : Int) ≤ c.toNat := by omega
            have c4f : ¬ (c.toNat : Int) < 224 := by omega
            have c4g : (224 : Int) ≤ c.toNat := by omega
            have c4h : ¬ (c.toNat : Int) < 240 := by omega
            have c4b : (240 : Int) ≤ c.toNat := by omega
            have c4c : (c.toNat : Int) < 248 := by omega
            have c4d : (c.toNat : Int) - 240 = q := by omega
            clear HR2 c4 c1 hq
            by_cases hn : s.size < 4
            · have hn' : (s.size : Int) < 4 := by omega
              have HZ : Hid (r1 = 0 ∧ r2 = 0) := Lib.hid (by have h := HV.out; rw [tail_short (by have := HTL.out; omega)] at h; simpa [eq_comm] using h)
              clear hn HV
              go_enter Tryd.func64, Tryd.ntmps64
              go_wp2_with fail
              go_ret2
              rw [HZ.out.1, HZ.out.2]
              exact ⟨rfl, rfl⟩
            · have hn' : ¬ (s.size : Int) < 4 := by omega
              have HN := Lib.hid hn
              clear hn
              go_enter Tryd.func64, Tryd.ntmps64
              go_wp2_with fail
              clear he hc hb hn' c4a c4b c4c c4d c4e c4f c4g c4h
              go_loop [7, 8] (fun v i => ∃ k m : Nat, i = .int .i64 ((k + 1 : Nat) : Int) ∧ v = .int .i64 (m : Int) ∧ k + 1 ≤ 4 ∧ m < 32 * 64 ^ k ∧ Hid (SoR q t (k + 1) m)) (fun _ i => 4 - (intOf i).toNat)
              case atStart => exact ⟨0, q, rfl, rfl, by omega, by have := HQ.out; omega, Lib.hid ⟨by simp, by simp⟩⟩
              case round =>
                obtain ⟨k, m, rfl, rfl, hk, hm, HS⟩ := hrel
                have HM := Lib.hid hm
                clear hm
                by_cases hlt : k + 1 < 4
                · have hks : k + 1 < s.size := by have := HN.out; omega
                  have hd := HT.out k hks
                  obtain ⟨d, hdd⟩ : ∃ d, s[k + 1] = d := ⟨_, rfl⟩
                  rw [hdd] at hd
                  have hd256 : (d.toNat : Int) < 256 := by have := d.toNat_lt; omega
                  have HD := Lib.hid hd
                  clear hd
                  have hlt' : ((k + 1 : Nat) : Int) < 4 := by omega
                  have hk0 : (0 : Int) ≤ ((k + 1 : Nat) : Int) := by omega
                  have hks' : ((k + 1 : Nat) : Int) < (s.size : Int) := by omega
                  rcases cont_ways d with ⟨hcc, h1, h2⟩ | ⟨hcc, h⟩
                  · have h1' : ¬ (d.toNat : Int) < 128 := by omega
                    have h2' : ¬ (192 : Int) ≤ (d.toNat : Int) := by omega
                    have hm8 : m < 8388608 := by
                      have := HM.out
                      have h64 : 64 ^ k ≤ 64 ^ 2 := Nat.pow_le_pow_right (by omega) (by omega)
                      have h65 : 32 * 64 ^ k ≤ 32 * 64 ^ 2 := Nat.mul_le_mul_left _ h64
                      omega
                    have e1 : wrap64 ((m : Int) * 64) = ((m * 64 : Nat) : Int) := by unfold wrap64; omega
                    have e2 : wrap64 (((m * 64 : Nat) : Int) + (d.toNat : Int)) = ((m * 64 + d.toNat : Nat) : Int) := by unfold wrap64; omega
                    have e3 : wrap64 (((m * 64 + d.toNat : Nat) : Int) - 128) = ((m * 64 + d.toNat - 128 : Nat) : Int) := by unfold wrap64; omega
                    have eV : wrap64 (wrap64 ((m : Int) * 64 + (d.toNat : Int)) - 128) = ((m * 64 + d.toNat - 128 : Nat) : Int) := by unfold wrap64; omega
                    have e4 : wrap64 (((k + 1 : Nat) : Int) + 1) = ((k + 2 : Nat) : Int) := by unfold wrap64; omega
                    have HX := Lib.hid (HS.out.next HD.out hcc)
                    have HMM : Hid (m * 64 + d.toNat - 128 < 32 * 64 ^ (k + 1)) := Lib.hid (by have := HM.out; rw [Nat.pow_succ]; omega)
                    clear hm8 hcc HS HM
                    go_wp2_with fail
                    go_round
                    case rel => exact ⟨k + 1, m * 64 + d.toNat - 128, by first | rfl | (rw [e4]) | go_num, by first | rfl | (rw [eV]), by omega, HMM.out, HX⟩
                    case measure => (try rw [e4]); simp only [intOf, Int.toNat_natCast]; omega
                  · have HZ : Hid (r1 = 0 ∧ r2 = 0) := Lib.hid (by have h := HV.out; rw [tail_no HD.out (by omega) hcc] at h; simpa [eq_comm] using h)
                    clear hcc
                    rcases h with h1 | ⟨h1, h2⟩
                    · go_wp2_with fail
                      go_ret2
                      rw [HZ.out.1, HZ.out.2]
                      exact ⟨rfl, rfl⟩
                    · have h1' : ¬ (d.toNat : Int) < 128 := by omega
                      go_wp2_with fail
                      go_ret2
                      rw [HZ.out.1, HZ.out.2]
                      exact ⟨rfl, rfl⟩
                · obtain rfl : k = 3 := by omega
                  have HE : Hid (endR 4 65536 m = (r1, r2)) := Lib.hid (by
                    have h := HV.out
                    rw [tail_yes (by have := HTL.out; have := HN.out; omega) HS.out.1] at h
                    rw [HS.out.2]; exact h)
                  clear hlt hk HS HM HV
                  rcases end_ways 4 65536 m 65536 rfl with ⟨he, h⟩ | ⟨he, h⟩
                  · have HZ : Hid (r1 = 0 ∧ r2 = 0) := Lib.hid (by have h := HE.out; rw [he] at h; simpa [eq_comm] using h)
                    clear he HE
                    rcases h with h1 | ⟨h1, h2⟩ | ⟨h1, h2, h3, h4⟩
                    all_goals
                      (try have g1 : ¬ (m : Int) < 65536 := by omega)
                      (try have g2 : ¬ (1114111 : Int) < (m : Int) := by omega)
                      go_wp2_with fail
                      go_ret2
                      rw [HZ.out.1, HZ.out.2]
                      exact ⟨rfl, rfl⟩
                  · have HZ : Hid (r1 = 4 ∧ r2 = m) := Lib.hid (by have h := HE.out; rw [he] at h; simpa [eq_comm] using h)
                    clear he HE
                    rcases h with ⟨h1, h2, h3⟩ | ⟨h1, h2, h3, h4⟩
                    all_goals
                      have g1 : ¬ (m : Int) < 65536 := by omega
                      have g2 : ¬ (1114111 : Int) < (m : Int) := by omega
                      (try have g3 : ¬ (55296 : Int) ≤ (m : Int) := by omega)
                      (try have g4 : ¬ (m : Int) < 57344 := by omega)
                      go_wp2_with fail
                      go_ret2
                      rw [HZ.out.1, HZ.out.2]
                      exact ⟨rfl, rfl⟩
          · have HZ : Hid (r1 = 0 ∧ r2 = 0) := Lib.hid (by have h := HR2.out; rw [runeR_cons, if_neg c1, if_neg c2, if_neg c3, if_neg c4] at h; simpa [eq_comm] using h)
            have a1 : ¬ (c.toNat : Int) < 128 := by omega
            have hw : (c.toNat : Int) < 192 ∨ (248 : Int) ≤ (c.toNat : Int) := by omega
            clear HR2 HT HTL c1 c2 c3 c4
            rcases hw with h | h
            · have b1 : ¬ (192 : Int) ≤ (c.toNat : Int) := by omega
              have b2 : ¬ (224 : Int) ≤ (c.toNat : Int) := by omega
              have b3 : ¬ (240 : Int) ≤ (c.toNat : Int) := by omega
              go_enter Tryd.func64, Tryd.ntmps64
              go_wp2_with fail
              go_ret2
              rw [HZ.out.1, HZ.out.2]
              exact ⟨rfl, rfl⟩
            · have b1 : (192 : Int) ≤ (c.toNat : Int) := by omega
              have b2 : (224 : Int) ≤ (c.toNat : Int) := by omega
              have b3 : (240 : Int) ≤ (c.toNat : Int) := by omega
              have b4 : ¬ (c.toNat : Int) < 224 := by omega
              have b5 : ¬ (c.toNat : Int) < 240 := by omega
              have b6 : ¬ (c.toNat : Int) < 248 := by omega
              go_enter Tryd.func64, Tryd.ntmps64
              go_wp2_with fail
              go_ret2
              rw [HZ.out.1, HZ.out.2]
              exact ⟨rfl, rfl⟩
theorem tailR_le (n least v : Nat) (t : List UInt8) : (tailR n least v t).1 ≤ t.length + 1 := by
  unfold tailR
  split
  · omega
  · split
    · unfold endR; split <;> simp; omega
    · simp
theorem runeR_le (l : List UInt8) : (runeR l).1 ≤ l.length := by
  cases l with
  | nil => exact Nat.le_refl _
  | cons b t =>
    rw [runeR_cons]
    have h2 := tailR_le 2 128 (b.toNat - 192) t
    have h3 := tailR_le 3 2048 (b.toNat - 224) t
    have h4 := tailR_le 4 65536 (b.toNat - 240) t
    rw [List.length_cons]
    split
    · simp
    · split
      · exact h2
      · split
        · exact h3
        · split
          · exact h4
          · simp
def strSz : Value → Nat | .string b => b.size | _ => 0
theorem valid_at {t : ByteArray} (h : 0 < t.size) : Lib.validD t.data.toList = (!((runeR t.data.toList).1 == 0) && Lib.validD (t.extract (runeR t.data.toList).1 t.size).data.toList) := by
  have e : (t.extract (runeR t.data.toList).1 t.size).data.toList = t.data.toList.drop (runeR t.data.toList).1 := by
    rw [ext_any, ← ln, List.take_of_length_le (by rw [List.length_drop]; omega)]
  rw [e]
  have hl := ln t
  cases hd : t.data.toList with
  | nil => rw [hd] at hl; simp at hl; omega
  | cons b r => exact valid_rune b r
set_option maxHeartbeats 1000000 in
set_option maxRecDepth 100000 in
theorem runes_any (s : ByteArray) (hs : s.size ≤ maxLen) (w : World) :
    Calls Tryd.prog 55 #[.string s] w fun e w' => e = .returned (.bool (Lib.validD s.data.toList)) ∧ w' = w := by
  obtain ⟨R, hR⟩ : ∃ R, R = Lib.validD s.data.toList := ⟨_, rfl⟩
  rw [← hR]
  have HR := Lib.hid hR
  have HS := Lib.hid hs
  have HC := Lib.hid (fun (t : ByteArray) (h : t.size ≤ s.size) (W : World) => rune_any t (Nat.le_trans h HS.out) W)
  clear hR hs
  go_enter Tryd.func55, Tryd.ntmps55
  go_wp2_with fail
  go_loop [0] (fun v => ∃ t : ByteArray, v = .string t ∧ Hid (t.size ≤ s.size) ∧ Hid (R = Lib.validD t.data.toList)) (fun v => strSz v)
  case atStart => exact ⟨s, rfl, Lib.hid (Nat.le_refl _), HR⟩
  case round =>
    obtain ⟨t, rfl, HT, HV⟩ := hrel
    by_cases h0 : t.size = 0
    · have hz : t = ⟨#[]⟩ := by
        apply ByteArray.ext
        exact Array.size_eq_zero_iff.1 h0
      subst hz
      have HE : Hid (R = true) := Lib.hid (by rw [HV.out]; rfl)
      clear HV h0
      go_wp2_with fail
      go_ret
      rw [HE.out]
      exact ⟨rfl, rfl⟩
    · have hp : 0 < t.size := by omega
      have he : t.toList.isEmpty = false := by
        rw [Go.ByteArray.toList_eq, List.isEmpty_eq_false_iff]
        intro h
        have h2 := ln t
        rw [h] at h2
        exact h0 h2.symm
      have HV2 := Lib.hid (HV.out.trans (valid_at hp))
      have hle := runeR_le t.data.toList
      rw [ln] at hle
      have HCC := Lib.hid (fun W => HC.out t HT.out W)
      have HSZ : Hid (t.size ≤ s.size ∧ t.size ≤ maxLen) := Lib.hid ⟨HT.out, Nat.le_trans HT.out HS.out⟩
      clear h0 HV
      generalize (runeR t.data.toList).1 = n at HV2 hle HCC
      generalize (runeR t.data.toList).2 = v at HCC
      by_cases hn : n = 0
      · subst hn
        have HE : Hid (R = false) := Lib.hid (by rw [HV2.out]; rfl)
        clear HV2 hle
        go_wp2_with fail
        refine (HCC.out _).mono ?_
        rintro e w' ⟨rfl, rfl⟩
        go_wp2_with fail
        go_ret
        rw [HE.out]
        exact ⟨rfl, rfl⟩
      · have hn0 : ((n : Int) == 0) = false := by simp; omega
        have hn1 : ¬ (n : Int) = 0 := by omega
        have HE : Hid (R = Lib.validD (t.extract n t.size).data.toList) := Lib.hid (by rw [HV2.out, show (n == 0) = false by simpa using hn]; rfl)
        have hle' : (n : Int) ≤ (t.size : Int) := by omega
        have hn2 : (0 : Int) ≤ (n : Int) := by omega
        have HX : Hid ((t.extract n t.size).size ≤ s.size ∧ (t.extract n t.size).size < t.size) := Lib.hid (by rw [ByteArray.size_extract]; have := HSZ.out; omega)
        clear HV2 hn
        go_wp2_with fail
        refine (HCC.out _).mono ?_
        rintro e w' ⟨rfl, rfl⟩
        go_wp2_with fail
        go_round
        case rel => exact ⟨_, rfl, Lib.hid HX.out.1, HE⟩
        case measure => exact HX.out.2
end Go.Proofs.YtfppemgagifmpaaDoor
