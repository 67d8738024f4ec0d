/- http's calls lengthOf and cutLine. Conditions: those that each theorem names. -/
import Derived.Test.YtihcihpndckfjabGreatDoorHtC
namespace Go.Proofs.YtihcihpndckfjabGreatDoor
set_option linter.unusedVariables false
open Go Go.RowKit Go.Shelf Ht

theorem lenEnd_no {e : Lib.NumEnd Int} (h : ∀ v, e ≠ .ok v) : lenEnd e = (0, 41) := by
  cases e <;> first | rfl | exact absurd rfl (h _)
theorem lengthOf_bad {v : List UInt8} (h : v = [] ∨ v.all digB = false ∨ (1 < v.length ∧ v.head? = some 48)) : lengthOf v = (0, 40) := by unfold lengthOf; rw [if_pos h]
theorem lengthOf_good {v : List UInt8} (h : ¬ (v = [] ∨ v.all digB = false ∨ (1 < v.length ∧ v.head? = some 48))) : lengthOf v = lenEnd (Lib.atoiAll v) := by unfold lengthOf; rw [if_neg h]
set_option maxHeartbeats 1000000 in
set_option maxRecDepth 100000 in
theorem length_any (s : ByteArray) (w : World) (hs : s.size ≤ 16777215) (G : Gh w) :
    Calls Tryz.prog 31 #[.string s] w fun e w' => e = .returned (.tuple #[.int .i64 (lengthOf s.data.toList).1, .int .i64 (lengthOf s.data.toList).2]) ∧ Below w.heap.size w w' := by
  have HB := Lib.hid (Below.refl w.heap.size w)
  by_cases h0 : s.data.toList = []
  · rw [lengthOf_bad (.inl h0)]
    obtain rfl := empty_of h0
    clear h0
    go_enter Tryz.func31, Tryz.ntmps31
    go_wp2_with fail
    go_ret2
    exact ⟨rfl, HB.out⟩
  have hn : s.toList.isEmpty = false := some_bytes h0
  have HC := Lib.hid (every_any _ _ tells_dig s (by unfold maxLen; omega))
  have hall : allS s digB = s.data.toList.all digB := rfl
  cases hd : s.data.toList.all digB with
  | false =>
    rw [lengthOf_bad (.inr (.inl hd))]
    rw [hall, hd] at HC
    clear h0 hall hd
    go_enter Tryz.func31, Tryz.ntmps31
    go_wp2_with fail
    refine (HC.out w).mono ?_
    rintro e w1 ⟨rfl, rfl⟩
    go_wp2_with fail
    go_ret2
    exact ⟨rfl, HB.out⟩
  | true =>
    rw [hall, hd] at HC
    obtain ⟨c, l, hcl⟩ : ∃ c l, s.data.toList = c :: l := by
      cases e : s.data.toList with
      | nil => exact absurd e h0
      | cons c l => exact ⟨c, l, rfl⟩
    obtain ⟨h1, h2⟩ := first_byte hcl
    have h3 : (0 : Int) < s.size := by omega
    have h4 := h2 h1
    have hlen : s.data.toList.length = s.size := (Lib.size_eq s).symm
    by_cases hz : 1 < s.size ∧ c = 48
    · rw [lengthOf_bad (.inr (.inr ⟨by rw [hlen]; exact hz.1, by rw [hcl, hz.2]; rfl⟩))]
      obtain ⟨hz1, rfl⟩ := hz
      have hz2 : (1 : Int) < s.size := by omega
      clear h0 hall hd hcl h2 hlen
      go_enter Tryz.func31, Tryz.ntmps31
      go_wp2_with fail
      refine (HC.out w).mono ?_
      rintro e w1 ⟨rfl, rfl⟩
      go_wp2_with fail
      go_ret2
      exact ⟨rfl, HB.out⟩
    · have HG : Hid (lengthOf s.data.toList = lenEnd (Lib.atoiAll s.data.toList)) := Lib.hid (lengthOf_good (by
        rintro (h | h | ⟨h, h'⟩)
        · exact h0 h
        · rw [hd] at h; cases h
        · rw [hlen] at h
          rw [hcl] at h'
          exact hz ⟨h, by simpa using h'⟩))
      have HA := Lib.hid (atoi_any s w hs hd h0 G)
      by_cases hz1 : (1 : Int) < s.size
      · have hc : ((c.toNat : Int) == 48) = false := by
          rw [beq_eq_false_iff_ne]
          intro e
          exact hz ⟨by omega, UInt8.toNat_inj.1 (show c.toNat = 48 by omega)⟩
        clear h0 hall hd hcl h2 hlen hz G
        go_enter Tryz.func31, Tryz.ntmps31
        go_wp2_with fail
        refine (HC.out w).mono ?_
        rintro e w1 ⟨rfl, rfl⟩
        go_wp2_with fail
        refine HA.out.mono ?_
        rintro e w1 ⟨(⟨v, hv, rfl⟩ | ⟨hv, v, t, p, rfl⟩), hb⟩
        · have HB1 := Lib.hid hb
          rw [hv] at HG
          by_cases h5 : (262144 : Int) < v
          · have HE : Hid (lengthOf s.data.toList = (0, 41)) := Lib.hid (by rw [HG.out]; exact if_pos h5)
            clear hb hv HG
            go_wp2_with fail
            go_ret2
            rw [HE.out]
            exact ⟨rfl, HB1.out⟩
          · have HE : Hid (lengthOf s.data.toList = (v, 0)) := Lib.hid (by rw [HG.out]; exact if_neg h5)
            clear hb hv HG
            go_wp2_with fail
            go_ret2
            rw [HE.out]
            exact ⟨rfl, HB1.out⟩
        · have HB1 := Lib.hid hb
          have HE : Hid (lengthOf s.data.toList = (0, 41)) := Lib.hid (by rw [HG.out]; exact lenEnd_no hv)
          clear hb hv HG
          go_wp2_with fail
          go_ret2
          rw [HE.out]
          exact ⟨rfl, HB1.out⟩
      · clear h0 hall hd hcl h2 hlen hz G
        go_enter Tryz.func31, Tryz.ntmps31
        go_wp2_with fail
        refine (HC.out w).mono ?_
        rintro e w1 ⟨rfl, rfl⟩
        go_wp2_with fail
        refine HA.out.mono ?_
        rintro e w1 ⟨(⟨v, hv, rfl⟩ | ⟨hv, v, t, p, rfl⟩), hb⟩
        · have HB1 := Lib.hid hb
          rw [hv] at HG
          by_cases h5 : (262144 : Int) < v
          · have HE : Hid (lengthOf s.data.toList = (0, 41)) := Lib.hid (by rw [HG.out]; exact if_pos h5)
            clear hb hv HG
            go_wp2_with fail
            go_ret2
            rw [HE.out]
            exact ⟨rfl, HB1.out⟩
          · have HE : Hid (lengthOf s.data.toList = (v, 0)) := Lib.hid (by rw [HG.out]; exact if_neg h5)
            clear hb hv HG
            go_wp2_with fail
            go_ret2
            rw [HE.out]
            exact ⟨rfl, HB1.out⟩
        · have HB1 := Lib.hid hb
          have HE : Hid (lengthOf s.data.toList = (0, 41)) := Lib.hid (by rw [HG.out]; exact lenEnd_no hv)
          clear hb hv HG
          go_wp2_with fail
          go_ret2
          rw [HE.out]
          exact ⟨rfl, HB1.out⟩
end Go.Proofs.YtihcihpndckfjabGreatDoor
