/- The document's own disk: Sync, Cut. Conditions: those that each theorem names. -/
import Derived.Test.YtblhbkhehddccaaRfFile
namespace Go.Proofs.Ytblhbkhehddccaa
set_option linter.unusedVariables false
open Go.RowKit Dk
def fileOf (M : RSt) (s : Nm) : FileC := ((nmGet M.now s).bind fun i => M.files[i]?).getD ⟨[], 0⟩
def placeOf (M : RSt) (s : Nm) : Nat := (nmGet M.now s).getD 0
def syncR (M : RSt) (s : Nm) : Int × RSt := if askE M s ≠ 0 then (askE M s, M) else if hitE M.hit ≠ 0 then (hitE M.hit, { M with made := M.made + 1 }) else
  (0, { M with made := M.made + 1, files := M.files.set (placeOf M s) { fileOf M s with synced := (fileOf M s).data.length } })
theorem syncR_ways (M : RSt) (s : Nm) : (askE M s ≠ 0 ∧ syncR M s = (askE M s, M)) ∨ (askE M s = 0 ∧ hitE M.hit ≠ 0 ∧ syncR M s = (hitE M.hit, { M with made := M.made + 1 })) ∨
    (askE M s = 0 ∧ hitE M.hit = 0 ∧ syncR M s = (0, { M with made := M.made + 1, files := M.files.set (placeOf M s) { fileOf M s with synced := (fileOf M s).data.length } })) := by
  unfold syncR
  by_cases h1 : askE M s = 0
  · by_cases h2 : hitE M.hit = 0
    · right; right; exact ⟨h1, h2, by rw [if_neg (fun c => c h1), if_neg (fun c => c h2)]⟩
    · right; left; exact ⟨h1, h2, by rw [if_neg (fun c => c h1), if_pos h2]⟩
  · left; exact ⟨h1, by rw [if_pos h1]⟩
theorem ask_file {M : RSt} {s : Nm} (h : askE M s = 0) (hf : Filed M s) : ∃ (i : Nat) (f : FileC), askF M s = i ∧ placeOf M s = i ∧ fileOf M s = f ∧ M.files[i]? = some f := by
  rcases ask_ways M s with ⟨-, -, h3⟩ | ⟨-, -, -, -, h4⟩ | ⟨i, -, hg, -, h3, -⟩
  · omega
  · omega
  · obtain ⟨f, hfi⟩ := hf i hg
    exact ⟨i, f, h3, by unfold placeOf; rw [hg]; rfl, by unfold fileOf; rw [hg]; simp [hfi], hfi⟩
theorem RfAt.ticked {w w' : World} {B : Nat} {X : Nat → Prop} {M : RSt} (h : RfAt w' B X M) (k : Rk X w w') : RfOp w B X M w' := ⟨X, h, fun _ h => .inl h, k⟩
set_option maxHeartbeats 1000000 in
set_option maxRecDepth 100000 in
theorem rsync_any (B : Nat) (X : Nat → Prop) (M : RSt) (s : ByteArray) (w : World) (h : RfAt w B X M) (hk : RfOk M) (hf : Filed M s) :
    Calls Try.prog 13 #[.pointer (some ⟨B, 0, none⟩), .string s] w fun e w' => e = .returned (.int .i64 (syncR M s).1) ∧ RfOp w B X (syncR M s).2 w' := by
  have HA := Lib.hid (rasked_any B X M s w h (by have := hk.now; unfold maxLen; omega))
  have HS := Lib.hid (rstep_any B X M w h hk.low hk.high hk.flt)
  have HO := Lib.hid (RfOp.same h)
  rcases syncR_ways M s with ⟨h1, h2⟩ | ⟨h1, h2, h3⟩ | ⟨h1, h2, h3⟩
  · rw [h2]
    generalize askF M s = F at *
    generalize askE M s = E at *
    have h1' : (E == 0) = false := by simp [h1]
    clear h1 h2 hk HS
    go_enter Try.func13, Try.ntmps13
    go_wp2_with fail
    refine HA.out.mono ?_
    rintro e w' ⟨rfl, rfl⟩
    go_wp2_with fail
    go_ret
    exact ⟨rfl, HO.out⟩
  · rw [h3]
    rw [h1] at HA
    generalize askF M s = F at *
    generalize hitE M.hit = E at *
    generalize hitN M.hit = N at *
    have h2' : (E == 0) = false := by simp [h2]
    clear h1 h2 h3 hk
    go_enter Try.func13, Try.ntmps13
    go_wp2_with fail
    refine HA.out.mono ?_
    rintro e w' ⟨rfl, rfl⟩
    go_wp2_with fail
    refine HS.out.mono ?_
    rintro e w2 ⟨rfl, k1, k2⟩
    have HF := Lib.hid (k1.ticked k2)
    clear k1 k2
    go_wp2_with fail
    go_ret
    exact ⟨rfl, HF.out⟩
  · obtain ⟨i, f, hi, hp, hfo, hfi⟩ := ask_file h1 hf
    rw [h3, hp, hfo]
    rw [h1, hi] at HA
    rw [h2] at HS
    generalize hitN M.hit = N at *
    have HFI := Lib.hid hfi
    have hil : (i : Int) < (M.files.length : Int) := by have := (List.getElem?_eq_some_iff.1 hfi).1; omega
    clear h1 h2 h3 hk hi hp hfo hfi hf h HO
    go_enter Try.func13, Try.ntmps13
    go_wp2_with fail
    refine HA.out.mono ?_
    rintro e w' ⟨rfl, rfl⟩
    go_wp2_with fail
    refine HS.out.mono ?_
    rintro e w2 ⟨rfl, ⟨fv, nv, lv, ov, pv, cs, ht⟩, k2⟩
    obtain ⟨g, c, he, hXg, hgB, c0, c1, f0, f1⟩ := ht.row (i := i) (f := f) HFI.out
    have hset := ht.setSynced (i := i) (f := f) HFI.out he f.data.length
    have HF := Lib.hid (show RfOp w' B X { M with made := M.made + 1, files := M.files.set i { f with synced := f.data.length } } (w2.setCell ⟨g, i * 2 + 1, none⟩ (.int .i64 f.data.length)).drew from
      ⟨X, RfAt.below ⟨_, _, _, _, _, _, hset⟩ (Below.refl _ _).drew, fun _ h => .inl h, (k2.set (.inl hXg)).trans (Rk.of (Below.refl _ _).drew)⟩)
    obtain ⟨⟨a0, -, -⟩, -, -, -⟩ := ht.cells
    simp only at he
    subst he
    have hsz : ((⟨f.data.toArray⟩ : ByteArray).size : Int) = (f.data.length : Int) := by show ((f.data.toArray.size : Nat) : Int) = _; simp
    generalize hbs : (⟨f.data.toArray⟩ : ByteArray) = bs at *
    generalize hfl : f.data.length = fl at *
    have HFL := Lib.hid hfl
    generalize M.files.length = n at *
    clear hbs hfl ht k2 hset hXg hgB f0
    go_wp2_with fail
    go_region
    go_wp2_with fail
    go_ret
    exact ⟨rfl, by rw [HFL.out]; exact HF.out⟩
/-! ### Cut -/
def cutR (M : RSt) (s : Nm) (k : Nat) : Int × RSt := if askE M s ≠ 0 then (askE M s, M) else if hitE M.hit ≠ 0 then (hitE M.hit, { M with made := M.made + 1 }) else
  (0, { M with made := M.made + 1, files := M.files.set (placeOf M s) ((fileOf M s).cut k) })
theorem cutR_ways (M : RSt) (s : Nm) (k : Nat) : (askE M s ≠ 0 ∧ cutR M s k = (askE M s, M)) ∨ (askE M s = 0 ∧ hitE M.hit ≠ 0 ∧ cutR M s k = (hitE M.hit, { M with made := M.made + 1 })) ∨
    (askE M s = 0 ∧ hitE M.hit = 0 ∧ cutR M s k = (0, { M with made := M.made + 1, files := M.files.set (placeOf M s) ((fileOf M s).cut k) })) := by
  unfold cutR
  by_cases h1 : askE M s = 0
  · by_cases h2 : hitE M.hit = 0
    · right; right; exact ⟨h1, h2, by rw [if_neg (fun c => c h1), if_neg (fun c => c h2)]⟩
    · right; left; exact ⟨h1, h2, by rw [if_neg (fun c => c h1), if_pos h2]⟩
  · left; exact ⟨h1, by rw [if_pos h1]⟩
theorem text_cut (d : List UInt8) (k : Nat) : (⟨d.toArray⟩ : ByteArray).extract 0 k = ⟨(d.take k).toArray⟩ := by
  apply ByteArray.ext
  rw [ByteArray.data_extract]
  show d.toArray.extract 0 k = (d.take k).toArray
  simp
set_option maxHeartbeats 2000000 in
set_option maxRecDepth 100000 in
theorem rcut_any (B : Nat) (X : Nat → Prop) (M : RSt) (s : ByteArray) (z : Int) (k : Nat) (w : World) (h : RfAt w B X M) (hk : RfOk M) (hf : Filed M s) (hz : max 0 (min z ((fileOf M s).data.length : Int)) = (k : Int)) :
    Calls Try.prog 11 #[.pointer (some ⟨B, 0, none⟩), .string s, .int .i64 z] w fun e w' => e = .returned (.int .i64 (cutR M s k).1) ∧ RfOp w B X (cutR M s k).2 w' := by
  have HA := Lib.hid (rasked_any B X M s w h (by have := hk.now; unfold maxLen; omega))
  have HS := Lib.hid (rstep_any B X M w h hk.low hk.high hk.flt)
  have HO := Lib.hid (RfOp.same h)
  rcases cutR_ways M s k with ⟨h1, h2⟩ | ⟨h1, h2, h3⟩ | ⟨h1, h2, h3⟩
  · rw [h2]
    generalize askF M s = F at *
    generalize askE M s = E at *
    have h1' : (E == 0) = false := by simp [h1]
    have h1'' : (E != 0) = true := by simp [h1]
    clear h1 h2 hk HS hz
    go_enter Try.func11, Try.ntmps11
    go_wp2_with fail
    refine HA.out.mono ?_
    rintro e w' ⟨rfl, rfl⟩
    go_wp2_with fail
    go_ret
    exact ⟨rfl, HO.out⟩
  · rw [h3]
    rw [h1] at HA
    generalize askF M s = F at *
    generalize hitE M.hit = E at *
    generalize hitN M.hit = N at *
    have h2' : (E != 0) = true := by simp [h2]
    clear h1 h2 h3 hk hz
    go_enter Try.func11, Try.ntmps11
    go_wp2_with fail
    refine HA.out.mono ?_
    rintro e w' ⟨rfl, rfl⟩
    go_wp2_with fail
    refine HS.out.mono ?_
    rintro e w2 ⟨rfl, k1, k2⟩
    have HF := Lib.hid (k1.ticked k2)
    clear k1 k2
    go_wp2_with fail
    go_ret
    exact ⟨rfl, HF.out⟩
  · obtain ⟨i, f, hi, hp, hfo, hfi⟩ := ask_file h1 hf
    rw [h3, hp, hfo]
    rw [hfo] at hz
    rw [h1, hi] at HA
    rw [h2] at HS
    generalize hitN M.hit = N at *
    have HFI := Lib.hid hfi
    have hil : (i : Int) < (M.files.length : Int) := by have := (List.getElem?_eq_some_iff.1 hfi).1; omega
    have hzk : min z (f.data.length : Int) ≤ (k : Int) := by omega
    have hkl : k ≤ f.data.length := by omega
    have HZ := Lib.hid hz
    clear h1 h2 h3 hk hi hp hfo hfi hf h HO hz
    go_enter Try.func11, Try.ntmps11
    go_wp2_with fail
    refine HA.out.mono ?_
    rintro e w' ⟨rfl, rfl⟩
    go_wp2_with fail
    refine HS.out.mono ?_
    rintro e w2 ⟨rfl, ⟨fv, nv, lv, ov, pv, cs, ht⟩, k2_⟩
    obtain ⟨g, c, he, hXg, hgB, c0, c1, f0, f1⟩ := ht.row (i := i) (f := f) HFI.out
    have ht2 := ht.setBytes (i := i) (f := f) HFI.out he (f.data.take k)
    obtain ⟨⟨a0, -, -⟩, -, -, -⟩ := ht.cells
    simp only at he
    subst he
    have hsz : (((⟨f.data.toArray⟩ : ByteArray).size : Nat) : Int) = (f.data.length : Int) := by show ((f.data.toArray.size : Nat) : Int) = _; simp
    have hcut := text_cut f.data k
    have hz := HZ.out
    rw [← hsz] at hz
    have hks : (k : Int) ≤ ((⟨f.data.toArray⟩ : ByteArray).size : Int) := by omega
    have hk0 : (0 : Int) ≤ (k : Int) := by omega
    have HT2 := Lib.hid ht2
    generalize hbs : (⟨f.data.toArray⟩ : ByteArray) = bs at *
    generalize hts : (⟨(f.data.take k).toArray⟩ : ByteArray) = ts at *
    have HTS := Lib.hid hts
    generalize M.files.length = n at *
    clear hbs hts ht ht2 hsz hkl hzk hgB
    go_wp2_with fail
    go_region
    have ht5 := HT2.out.below (Below.refl _ _).drew
    have hlt : i < M.files.length := (List.getElem?_eq_some_iff.1 HFI.out).1
    have hfi5 : (M.files.set i { f with data := f.data.take k })[i]? = some { f with data := f.data.take k } := List.getElem?_set_self hlt
    obtain ⟨g', c', he', hXg', -, e0, e1, q0, q1⟩ := ht5.row (i := i) (f := { f with data := f.data.take k }) hfi5
    have heq := he'
    injection heq with z1 z2 z3
    injection z1 with z1
    injection z1 with z1
    subst z1
    obtain ⟨k2, hk2⟩ : ∃ k2 : Nat, k2 = min f.synced (f.data.take k).length := ⟨_, rfl⟩
    have hset := ht5.setSynced (i := i) (f := { f with data := f.data.take k }) hfi5 he' k2
    have hmin : min (f.synced : Int) ((ts.size : Nat) : Int) = (k2 : Int) := by
      have hsz : ts.size = (f.data.take k).length := by rw [← HTS.out]; show (f.data.take k).toArray.size = _; simp
      rw [hsz, hk2]; omega
    have hfs : (M.files.set i { f with data := f.data.take k }).set i { f with data := f.data.take k, synced := k2 } = M.files.set i (f.cut k) := by
      rw [List.set_set, hk2]; rfl
    have HF : Hid (RfOp w' B X { M with made := M.made + 1, files := M.files.set i (f.cut k) } (((w2.setCell ⟨g, i * 2, none⟩ (.string ts)).drew).setCell ⟨g, i * 2 + 1, none⟩ (.int .i64 k2)).drew) := Lib.hid (by
      rw [← hfs]
      exact ⟨X, RfAt.below ⟨_, _, _, _, _, _, hset⟩ (Below.refl _ _).drew, fun _ h => .inl h, (((k2_.set (.inl hXg)).trans (Rk.of (Below.refl _ _).drew)).set (.inl hXg)).trans (Rk.of (Below.refl _ _).drew)⟩)
    simp only at e0 e1
    rw [HTS.out] at e0
    clear ht5 hfi5 he' hXg' hk2 hset hfs z2 z3 a0 c0 c1 f0 f1 q0 hlt hz hks hk0 hcut
    generalize (w2.setCell ⟨g, i * 2, none⟩ (.string ts)).drew = W5 at *
    go_wp2_with fail
    go_region
    go_wp2_with fail
    go_ret
    exact ⟨rfl, HF.out⟩
end Go.Proofs.Ytblhbkhehddccaa
