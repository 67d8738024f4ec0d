/- For any text, any kind of fault and any number the law DiskFaults of the document's chapter 2 returns true over the program's own disk: a step that a plan refuses does nothing, but that a short write lays just so many bytes; the next one is done. No condition. -/
import Derived.Test.YtadelkdecgljbaaRows
import Derived.WalkKit
import Derived.ProofKit
import Derived.OpenShut
import Derived.ShutString
import Derived.Test.YtadelkdecgljbaaDkSure
import Derived.SizedLaws
namespace Go.Proofs.Ytadelkdecgljbaa.diskFaults
open Go.ChangeShapes Go.WideShapes Go.ChangeAt Go.RowKit
open Go.ChangeMaps (open_string shut_string)
set_option linter.unusedVariables false

theorem own : ownKnob Try.prog.godebug = none := by kernel_rfl

/-! ### The walk -/
open Dk
def nF : Nm := ⟨#[102]⟩
def pl (k n : Int) : DSt := ⟨[], [], [], 0, [(1, k, n)]⟩
def t1 : DSt := ⟨[], [], [], 1, []⟩
def one (l : List UInt8) (n : Int) : DSt := ⟨[(nF, 0)], [[(nF, none)]], [⟨l, 0⟩], n, []⟩
theorem pl_new (k n : Int) : ({ Dk.new with plan := [(1, k, n)] } : DSt) = pl k n := rfl
theorem pl_hit (k n : Int) : (pl k n).hit = some (1, k, n) := by kernel_rfl
theorem pl_tick (k n : Int) : (pl k n).tick = t1 := by kernel_rfl
theorem pl_more (k n : Int) (l : List UInt8) : ({ more (pl k n).tick nF with files := (more (pl k n).tick nF).files.set (pl k n).files.length (FileC.mk l 0) } : DSt) = one l 1 := by kernel_rfl
theorem t_more (l : List UInt8) : ({ more t1.tick nF with files := (more t1.tick nF).files.set t1.files.length (FileC.mk l 0) } : DSt) = one l 2 := by kernel_rfl
theorem one_old (l m : List UInt8) : ({ (one l 1).tick with files := (one l 1).files.set 0 { (FileC.mk l 0) with data := (FileC.mk l 0).data ++ m } } : DSt) = one (l ++ m) 2 := by kernel_rfl
theorem take_str (s : ByteArray) (k : Nat) (hk : k ≤ s.size) : ((⟨(s.data.toList.take k).toArray⟩ : ByteArray).toList == (s.extract 0 k).toList) = true := by
  rw [toL, toL]; simp
set_option maxHeartbeats 2000000 in
set_option maxRecDepth 100000 in
theorem walk (a0 : ByteArray) (a1 : Int) (a2 : Int) (w0 : a0.size ≤ 140737488351232) (w1 : (Lit.int .i64 a1).wf = true) (w2 : (Lit.int .i64 a2).wf = true) (w : World) :
    Calls Try.prog 7 #[.string a0, .int .i64 a1, .int .i64 a2] w fun e w' => e = .returned (.bool true) ∧ Below w.heap.size w w' := by
  have hsz : a0.size ≤ maxLen := by unfold maxLen; omega
  have hm0 : -3 < a1.tmod 3 := by have := Int.lt_tmod_of_pos a1 (show (0 : Int) < 3 by decide); omega
  have hm1 : a1.tmod 3 < 3 := Int.tmod_lt_of_pos a1 (by decide)
  obtain ⟨k, hk⟩ : ∃ k : Nat, max 0 (min a2 1048576) = (k : Int) := ⟨(max 0 (min a2 1048576)).toNat, by omega⟩
  have hk1 : (k : Int) ≤ 1048576 := by omega
  have hk0 : (0 : Int) ≤ (k : Int) := by omega
  have hr : (a1.tmod 3 + 3) % 3 = 0 ∨ (a1.tmod 3 + 3) % 3 = 1 ∨ (a1.tmod 3 + 3) % 3 = 2 := by omega
  rcases hr with hr | hr | hr
  · go_enter Try.func7, Try.ntmps7
    go_wp2_with fail
    refine (at_new w).mono ?_
    rintro e w1 ⟨rfl, h1⟩
    have HSW := Lib.hid h1.size
    obtain ⟨A, hA⟩ : ∃ A, A = w.heap.size := ⟨_, rfl⟩
    rw [← hA] at h1
    rw [← hA]
    clear hA
    have hP := (h1.alloc (.cells #[.int .i64 1, .int .i64 1, .int .i64 0] 60)).plan_one (1, 1, 0) (by decide) (by decide)
    rw [show (w1.alloc (.cells #[.int .i64 1, .int .i64 1, .int .i64 0] 60)).heap.size = w1.heap.size + 1 by simp, pl_new] at hP
    have HP := Lib.hid hP
    clear h1 hP
    go_wp2_with fail
    refine (HP.out).mono ?_
    rintro e w2 ⟨rfl, h2⟩
    have H2 := Lib.hid h2
    clear h2
    go_wp2_with fail
    refine (H2.out.write_hit (by simp [pl]) (by simp [pl]) nF a0 (full _ rfl) 1 1 0 (by decide) (pl_hit 1 0)).mono ?_
    rintro e w3 ⟨rfl, h3⟩
    rw [pl_tick] at h3
    rw [show hitErr (1, 1, 0) = 22 from rfl]
    have H3 := Lib.hid h3
    clear h3
    go_wp2_with fail
    refine (H3.out.read_none nF (by decide) (full _ rfl) (by rfl)).mono ?_
    rintro e w3' ⟨rfl, rfl⟩
    go_wp2_with fail
    refine (H3.out.write_new (by decide) (by decide) (by decide) (by decide) nF a0 (by decide) hsz (full _ rfl) (by rfl) (by rfl) (by omega)).mono ?_
    rintro e w4 ⟨rfl, h4⟩
    rw [t_more] at h4
    have H4 := Lib.hid h4
    clear h4
    go_wp2_with fail
    refine (H4.out.steps).mono ?_
    rintro e w4' ⟨rfl, rfl⟩
    rw [show (one a0.data.toList 2).steps = 2 from rfl]
    go_wp2_with fail
    refine (sure_yes _).mono ?_
    rintro e w5 ⟨rfl, hb⟩
    have HB := Lib.hid hb
    clear hb
    go_wp2
    go_ret
    exact ⟨rfl, H4.out.below.trans (HB.out.mono H4.out.size)⟩
  · go_enter Try.func7, Try.ntmps7
    go_wp2_with fail
    refine (at_new w).mono ?_
    rintro e w1 ⟨rfl, h1⟩
    have HSW := Lib.hid h1.size
    obtain ⟨A, hA⟩ : ∃ A, A = w.heap.size := ⟨_, rfl⟩
    rw [← hA] at h1
    rw [← hA]
    clear hA
    have hP := (h1.alloc (.cells #[.int .i64 1, .int .i64 2, .int .i64 (k : Int)] 60)).plan_one (1, 2, (k : Int)) (by simp [planOk, mayB, Dk.new]) (by simp)
    rw [show (w1.alloc (.cells #[.int .i64 1, .int .i64 2, .int .i64 (k : Int)] 60)).heap.size = w1.heap.size + 1 by simp, pl_new] at hP
    have HP := Lib.hid hP
    clear h1 hP
    go_wp2_with fail
    refine (HP.out).mono ?_
    rintro e w2 ⟨rfl, h2⟩
    have H2 := Lib.hid h2
    clear h2
    go_wp2_with fail
    have HK1 := Lib.hid hk1
    clear hk hk1
    by_cases hkl : k ≤ a0.size
    · have hkl' : (k : Int) ≤ (a0.size : Int) := by omega
      have hmin : min (k : Int) (a0.size : Int) = (k : Int) := by omega
      have HTS := Lib.hid (take_str a0 k hkl)
      refine (H2.out.short_new (by simp [pl]) (by simp [pl]) (by simp [pl]) (by simp [pl]) nF a0 (by decide) hsz (full _ rfl) 1 k hkl (pl_hit 2 k) (by rfl) (by omega)).mono ?_
      rintro e w3 ⟨rfl, h3⟩
      rw [pl_more] at h3
      have H3 := Lib.hid h3
      clear h3
      go_wp2_with fail
      refine (H3.out.read_some nF (by decide) (full _ rfl) 0 ⟨a0.data.toList.take k, 0⟩ (by kernel_rfl) (by rfl)).mono ?_
      rintro e w3' ⟨rfl, rfl⟩
      have hts := HTS.out
      generalize ht : (⟨(a0.data.toList.take k).toArray⟩ : ByteArray) = t' at hts
      have HTT := Lib.hid ht
      clear ht
      go_wp2_with fail
      refine (H3.out.write_old (by simp [one]) (by simp [one]) nF a0 (by decide) hsz (full _ rfl) (by rfl) 0 ⟨a0.data.toList.take k, 0⟩ (by kernel_rfl) (by rfl) (by have := HK1.out; simp; omega)).mono ?_
      rintro e w4 ⟨rfl, h4⟩
      rw [one_old] at h4
      have H4 := Lib.hid h4
      clear h4
      go_wp2_with fail
      refine (H4.out.steps).mono ?_
      rintro e w4' ⟨rfl, rfl⟩
      rw [show (one (a0.data.toList.take k ++ a0.data.toList) 2).steps = 2 from rfl]
      go_wp2_with fail
      refine (sure_yes _).mono ?_
      rintro e w5 ⟨rfl, hb⟩
      have HB := Lib.hid hb
      clear hb
      go_wp2
      go_ret
      exact ⟨rfl, H4.out.below.trans (HB.out.mono H4.out.size)⟩
    · have hkl' : (a0.size : Int) < (k : Int) := by omega
      have hmin : min (k : Int) (a0.size : Int) = (a0.size : Int) := by omega
      refine (H2.out.short_new_all (by simp [pl]) (by simp [pl]) (by simp [pl]) (by simp [pl]) nF a0 (by decide) hsz (full _ rfl) 1 k hkl' (pl_hit 2 k) (by rfl) (by omega)).mono ?_
      rintro e w3 ⟨rfl, h3⟩
      rw [pl_more] at h3
      have H3 := Lib.hid h3
      clear h3
      go_wp2_with fail
      refine (H3.out.read_some nF (by decide) (full _ rfl) 0 ⟨a0.data.toList, 0⟩ (by kernel_rfl) (by rfl)).mono ?_
      rintro e w3' ⟨rfl, rfl⟩
      rw [show (⟨a0.data.toList.toArray⟩ : ByteArray) = a0 from Go.Joins.bytes_eta a0]
      go_wp2_with fail
      refine (H3.out.write_old (by simp [one]) (by simp [one]) nF a0 (by decide) hsz (full _ rfl) (by rfl) 0 ⟨a0.data.toList, 0⟩ (by kernel_rfl) (by rfl) (by have := HK1.out; simp; omega)).mono ?_
      rintro e w4 ⟨rfl, h4⟩
      rw [one_old] at h4
      have H4 := Lib.hid h4
      clear h4
      go_wp2_with fail
      refine (H4.out.steps).mono ?_
      rintro e w4' ⟨rfl, rfl⟩
      rw [show (one (a0.data.toList ++ a0.data.toList) 2).steps = 2 from rfl]
      go_wp2_with fail
      refine (sure_yes _).mono ?_
      rintro e w5 ⟨rfl, hb⟩
      have HB := Lib.hid hb
      clear hb
      go_wp2
      go_ret
      exact ⟨rfl, H4.out.below.trans (HB.out.mono H4.out.size)⟩
  · go_enter Try.func7, Try.ntmps7
    go_wp2_with fail
    refine (at_new w).mono ?_
    rintro e w1 ⟨rfl, h1⟩
    have HSW := Lib.hid h1.size
    obtain ⟨A, hA⟩ : ∃ A, A = w.heap.size := ⟨_, rfl⟩
    rw [← hA] at h1
    rw [← hA]
    clear hA
    have hP := (h1.alloc (.cells #[.int .i64 1, .int .i64 3, .int .i64 0] 60)).plan_one (1, 3, 0) (by decide) (by decide)
    rw [show (w1.alloc (.cells #[.int .i64 1, .int .i64 3, .int .i64 0] 60)).heap.size = w1.heap.size + 1 by simp, pl_new] at hP
    have HP := Lib.hid hP
    clear h1 hP
    go_wp2_with fail
    refine (HP.out).mono ?_
    rintro e w2 ⟨rfl, h2⟩
    have H2 := Lib.hid h2
    clear h2
    go_wp2_with fail
    refine (H2.out.write_hit (by simp [pl]) (by simp [pl]) nF a0 (full _ rfl) 1 3 0 (by decide) (pl_hit 3 0)).mono ?_
    rintro e w3 ⟨rfl, h3⟩
    rw [pl_tick] at h3
    rw [show hitErr (1, 3, 0) = 23 from rfl]
    have H3 := Lib.hid h3
    clear h3
    go_wp2_with fail
    refine (H3.out.read_none nF (by decide) (full _ rfl) (by rfl)).mono ?_
    rintro e w3' ⟨rfl, rfl⟩
    go_wp2_with fail
    refine (H3.out.write_new (by decide) (by decide) (by decide) (by decide) nF a0 (by decide) hsz (full _ rfl) (by rfl) (by rfl) (by omega)).mono ?_
    rintro e w4 ⟨rfl, h4⟩
    rw [t_more] at h4
    have H4 := Lib.hid h4
    clear h4
    go_wp2_with fail
    refine (H4.out.steps).mono ?_
    rintro e w4' ⟨rfl, rfl⟩
    rw [show (one a0.data.toList 2).steps = 2 from rfl]
    go_wp2_with fail
    refine (sure_yes _).mono ?_
    rintro e w5 ⟨rfl, hb⟩
    have HB := Lib.hid hb
    clear hb
    go_wp2
    go_ret
    exact ⟨rfl, H4.out.below.trans (HB.out.mono H4.out.size)⟩

/-! ### The row -/
set_option maxRecDepth 100000 in
theorem lifted (os : Os) (started : os.Started) (H : Type) (enc : TypeId × Value → H) :
    ReturnsInHanded {} Try.checked os 7 .any (Rows.diskFaultsSpec.pre6 enc Try.prog Try.f7 Rows.diskFaultsRow.domain false) (Rows.diskFaultsSpec.post enc Try.prog Try.f7 false true false false) := by
  refine returnsInHanded_of_change_sized (C := Try.checked) own started (by kernel_rfl) Try.func7
    (ChangeSpec.witness6 (enc := enc) (C := Try.checked) false ⟨#[], #[.string ByteArray.empty, .int .i64 0, .int .i64 0], []⟩ 8 (by kernel_rfl) (by kernel_rfl) (by kernel_rfl) (by kernel_rfl)) ?_
  intro W base args ds gs before hval0 hW hcnd hsz0 _
  have hval : ∀ (j : Nat) t v, Try.f7.params[j]? = some t → args[j]? = some v → Value.okWide Try.prog W .any base t v := hval0
  have hW' := hW
  obtain ⟨p, q, hA0, hV, rfl, hfz, hnd⟩ := hW
  have hA : DataW.TrodAll enc Try.prog W 0 (fun _ => true) true Try.f7.params.toList args.toList ds p := hA0
  have hsz : (DataW.weightsEach Try.prog (Try.f7.params.toList ++ Rows.diskFaultsSpec.plain.varTypes Try.prog) (ds ++ gs)).all (· ≤ reachBytes) = true := hsz0
  rw [Try.params7] at hA hval hsz
  obtain ⟨v0, vs0, d0, ds0, p0, q0, hargs, rfl, rfl, h0, r0⟩ := trodAll_cons hA
  obtain ⟨v1, vs1, d1, ds1, p1, q1, rfl, rfl, rfl, h1, r1⟩ := trodAll_cons r0
  obtain ⟨v2, vs2, d2, ds2, p2, q2, rfl, rfl, rfl, h2, r2⟩ := trodAll_cons r1
  obtain ⟨rfl, rfl, rfl⟩ := trodAll_nil r2
  obtain rfl : args = #[v0, v1, v2] := by cases args; simp_all
  obtain ⟨rfl, rfl⟩ := trodVars_none hV
  obtain ⟨a0, rfl, rfl, rfl, w0⟩ := open_string Try.underlying9 (hval 0 9 v0 rfl rfl) h0
  obtain ⟨a1, rfl, rfl, rfl, w1⟩ := open_int Try.underlying3 (hval 1 3 v1 rfl rfl) h1
  obtain ⟨a2, rfl, rfl, rfl, w2⟩ := open_int Try.underlying3 (hval 2 3 v2 rfl rfl) h2
  have s0 : a0.size ≤ 140737488351232 := by have := sized_string hsz (j := 0) (t := 9) rfl rfl; simpa [reachBytes] using this
  clear hA0 hval0
  simp only [List.append_nil] at hW'
  refine (walk a0 a1 a2 s0 w1 w2 W).mono fun e W' ⟨he, hg⟩ => ?_
  subst he
  exact ⟨_, rfl, _, _, _, [], _, [], hW', (trodAll_cons_mk (shut_bool Try.underlying4 _) trodAll_mk0), (trodAll_cons_mk (shut_string Try.underlying9 w0) (trodAll_cons_mk (shut_int Try.underlying3 w1) (trodAll_cons_mk (shut_int Try.underlying3 w2) trodAll_mk0))), rfl, hg.frame _, fun h => by cases h⟩

theorem over : Rows.diskFaultsRow.holds Try.pinned (OpenSpec.ofChange Rows.diskFaultsSpec) :=
  OpenClaim.holds_of_wide 7 Try.f7 rfl rfl rfl rfl rfl rfl rfl ⟨rfl, rfl, rfl, rfl, rfl⟩ rfl rfl rfl rfl rfl (by kernel_rfl) Try.func7 (by kernel_rfl)
    (of_decide_eq_true (by kernel_rfl)) (by unfold Func.isWrapper; first | (rw [if_pos (by decide +kernel)]; kernel_rfl) | (rw [if_neg (by decide +kernel)]; exact ⟨rfl, rfl⟩))
    (fun os started H enc _ => lifted os started H enc)

/-- The statement. -/
theorem proved : Rows.DiskFaultsSaid :=
  over
#print axioms proved
end Go.Proofs.Ytadelkdecgljbaa.diskFaults
