/- payload's isName. Conditions: those that each theorem names. -/
import Derived.Test.YtfppemgagifmpaaDoorPlV
import Derived.Lib.ConvBytes
import Derived.Lib.AtoiErrMem
namespace Go.Proofs.YtfppemgagifmpaaDoor
set_option linter.unusedVariables false
open Go Go.RowKit Go.Shelf Pl
def allS (s : ByteArray) (p : UInt8 → Bool) : Bool := s.data.toList.all p
set_option maxHeartbeats 1000000 in
theorem allBytes_any (f : Nat) (p : UInt8 → Bool) (hp : TellsB f p) (s : ByteArray) (g c : Nat) (w : World) (hc : ∀ j (h : j < s.size), w.cell? ⟨g, j, none⟩ = some (.int .u8 s[j].toNat)) (hl : s.size ≤ 1048576) :
    Calls Tryd.prog 60 #[.slice (some ⟨g, 0, none⟩) s.size c, .func (.func f) #[] #[]] w fun e w' => e = .returned (.bool (allS s p)) ∧ w' = w := by
  obtain ⟨hg, hq⟩ := hp
  have HQ := Lib.hid hq
  have HS : Hid (s.size ≤ maxLen) := Lib.hid (by unfold maxLen; omega)
  clear hq hl
  go_enter Tryd.func60, Tryd.ntmps60
  have HC := Lib.hid hc
  clear hc
  go_wp2
  go_loop [9] (fun i => ∃ k : Nat, k ≤ s.size ∧ i = .int .i64 k ∧ Hid ((s.data.toList.take k).all p = true)) (fun i => s.size - (intOf i).toNat)
  case atStart => exact ⟨0, Nat.zero_le _, rfl, Lib.hid (by simp)⟩
  case round =>
    obtain ⟨k, hk, rfl, HA⟩ := hrel
    by_cases hlt : k < s.size
    · have hcell := HC.out k hlt
      have HX := HQ.out s[k]
      have hx : s.data.toList[k]? = some s[k] := Lib.data_getElem? s k hlt
      generalize hcc : s[k] = n at HX hx hcell
      have HX2 := Lib.hid HX
      have HXX := Lib.hid hx
      generalize (n.toNat : Int) = z at hcell HX2
      cases hpc : p n with
      | true =>
        rw [hpc] at HX2
        have HN := Lib.hid (all_next' hx HA.out hpc)
        clear HX hx HA hpc hcc
        go_wp2_with fail
        refine (HX2.out w).mono ?_
        rintro e w' ⟨rfl, rfl⟩
        go_wp2_with fail
        go_round
        case rel => exact ⟨k + 1, by omega, congrArg _ (wrap_s HS.out hlt), HN⟩
        case measure =>
          rw [wrap_s HS.out hlt]
          exact int_less hlt
      | false =>
        rw [hpc] at HX2
        have HN : Hid (allS s p = false) := Lib.hid (all_no' hx hpc)
        clear HX hx HA hpc hcc
        go_wp2_with fail
        refine (HX2.out w).mono ?_
        rintro e w' ⟨rfl, rfl⟩
        go_wp2_with fail
        go_ret
        rw [HN.out]
        exact ⟨rfl, rfl⟩
    · obtain rfl : k = s.size := by omega
      have hx : allS s p = true := by
        have := HA.out
        rwa [List.take_of_length_le (Nat.le_of_eq (Lib.size_eq s).symm)] at this
      have HE := Lib.hid hx
      clear hx
      go_wp2_with fail
      go_ret
      rw [HE.out]
      exact ⟨rfl, rfl⟩
theorem isName_eq {s : ByteArray} {c : UInt8} (h0 : 0 < s.size) (hc : s[0] = c) : isName s = (decide (s.size ≤ 32) && (!digitB c && allS s nameB)) := by
  have h := Lib.data_getElem? s 0 h0
  rw [hc] at h
  unfold isName
  cases hd : s.data.toList with
  | nil => rw [hd] at h; simp at h
  | cons d r =>
    rw [hd] at h
    simp at h
    subst h
    unfold allS
    rw [hd]
set_option maxHeartbeats 1000000 in
set_option maxRecDepth 100000 in
theorem name_any (s : ByteArray) (hs : s.size ≤ 140737488355328) (w : World) :
    Calls Tryd.prog 40 #[.string s] w fun e w' => e = .returned (.bool (isName s)) ∧ Below w.heap.size w w' := by
  by_cases h0 : s.size = 0
  · have hz : s = ⟨#[]⟩ := by
      apply ByteArray.ext
      exact Array.size_eq_zero_iff.1 h0
    subst hz
    have HV : Hid (isName ⟨#[]⟩ = false) := Lib.hid rfl
    go_enter Tryd.func40, Tryd.ntmps40
    go_wp2_with fail
    go_ret
    rw [HV.out]
    exact ⟨rfl, Below.refl _ _⟩
  · have hp : 0 < s.size := by omega
    obtain ⟨c, hc⟩ : ∃ c, s[0] = c := ⟨_, rfl⟩
    rw [isName_eq hp hc]
    have he : s.toList.isEmpty = false := by
      rw [Go.ByteArray.toList_eq, List.isEmpty_eq_false_iff]
      intro h
      have h2 := Lib.size_eq s
      rw [h] at h2
      exact h0 h2
    by_cases h32 : s.size ≤ 32
    · have h33 : (s.size : Int) ≤ 32 := by omega
      have HD := Lib.hid (digit_any c)
      have HA := Lib.hid (allBytes_any _ _ tells_name s w.heap.size (grownCap w s.size 0 5) (Lib.bytesWorld w 5 s) (fun j hj => by have h := Lib.bytesWorld_cell w 5 s j hj; rw [List.getD_eq_getElem?_getD, Lib.data_getElem? s j hj] at h; exact h) (by omega))
      have hrun := Lib.run_convert_string_bytes (P := Tryd.prog) w 9 75 5 s Tryd.underlying9 Tryd.underlying75 Tryd.underlying5
      have HB := Lib.hid (Lib.bytesWorld_below w 5 s)
      have HV : Hid ((decide (s.size ≤ 32) && (!digitB c && allS s nameB)) = (!digitB c && allS s nameB)) := Lib.hid (by simp [h32])
      rw [HV.out]
      generalize Lib.bytesWorld w 5 s = W at *
      generalize grownCap w s.size 0 5 = cap at *
      generalize allS s nameB = a at *
      clear HV
      go_enter Tryd.func40, Tryd.ntmps40
      go_wp2_with fail
      refine (HD.out w).mono ?_
      rintro e w' ⟨rfl, rfl⟩
      cases hd : digitB c with
      | true =>
        go_wp2_with fail
        go_ret
        exact ⟨by simp [hd], Below.refl _ _⟩
      | false =>
        go_wp2_with fail
        refine HA.out.mono ?_
        rintro e w2 ⟨rfl, rfl⟩
        go_wp2_with fail
        go_ret
        exact ⟨by simp [hd], HB.out⟩
    · have HV : Hid ((decide (s.size ≤ 32) && (!digitB c && allS s nameB)) = false) := Lib.hid (by simp [h32])
      rw [HV.out]
      have h33 : (32 : Int) < s.size := by omega
      clear hc
      go_enter Tryd.func40, Tryd.ntmps40
      go_wp2_with fail
      go_ret
      exact ⟨rfl, Below.refl _ _⟩
end Go.Proofs.YtfppemgagifmpaaDoor
