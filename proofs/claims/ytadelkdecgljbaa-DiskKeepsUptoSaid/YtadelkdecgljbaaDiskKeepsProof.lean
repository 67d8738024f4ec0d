/- For any two texts, any crash and any number, together of a bulk of at most 1048576, the law DiskKeeps of the document's chapter 2 returns true over the program's own disk: bytes that were synced under a name that lasts are there behind any crash, and behind them a beginning of the rest. -/
import Derived.Test.YtadelkdecgljbaaRows
import Derived.WalkKit
import Derived.ProofKit
import Derived.OpenShut
import Derived.ShutString
import Derived.ChangeOld
import Derived.Below
import Derived.SizedLaws
import Derived.JoinedCond
import Derived.Test.YtadelkdecgljbaaDkArgs
namespace Go.Proofs.Ytadelkdecgljbaa.diskKeeps
open Go.ChangeShapes Go.WideShapes Go.ChangeAt Go.RowKit Go.Proofs.Ytadelkdecgljbaa
open Go.ChangeMaps (open_string shut_string)
set_option linter.unusedVariables false

theorem own : ownKnob Try.prog.godebug = none := by kernel_rfl
theorem laidOut : laidOutB Try.prog = true := by kernel_rfl

/-! ### The walk -/
open Dk
def nF : Nm := ⟨#[102]⟩
def fl (l : List UInt8) : FileC := ⟨l, l.length⟩
def k1 (l : List UInt8) : DSt := ⟨[(nF, 0)], [[(nF, none)]], [⟨l, 0⟩], 1, []⟩
def k2 (l : List UInt8) : DSt := ⟨[(nF, 0)], [[(nF, none)]], [fl l], 2, []⟩
def k3 (l : List UInt8) : DSt := ⟨[(nF, 0)], [], [fl l], 3, []⟩
def k4 (l m : List UInt8) : DSt := ⟨[(nF, 0)], [], [⟨l ++ m, l.length⟩], 4, []⟩
def k5 (l : List UInt8) : DSt := ⟨[(nF, 0)], [], [fl l], 4, []⟩
theorem t1 (l : List UInt8) : ({ more new.tick nF with files := (more new.tick nF).files.set new.files.length (FileC.mk l 0) } : DSt) = k1 l := by kernel_rfl
theorem t2 (l : List UInt8) : ({ (k1 l).tick with files := (k1 l).files.set 0 (syncF ⟨l, 0⟩) } : DSt) = k2 l := by kernel_rfl
theorem t3 (l : List UInt8) : DSt.close (k2 l).tick = k3 l := by kernel_rfl
theorem t4 (l m : List UInt8) : ({ (k3 l).tick with files := (k3 l).files.set 0 { fl l with data := (fl l).data ++ m } } : DSt) = k4 l m := by kernel_rfl
theorem take_on (l m : List UInt8) (j : Nat) : (l ++ m).take (l.length + j) = l ++ m.take j := by
  rw [List.take_append, List.take_of_length_le (by omega)]; simp
theorem t5 (l m : List UInt8) (kk : Nat) (bs : List Int) : ∃ j, j ≤ m.length ∧ (k4 l m).crash kk bs = k5 (l ++ m.take j) := by
  refine ⟨min (left bs 0) m.length, Nat.min_le_right _ _, ?_⟩
  have : (k4 l m).undo kk = k4 l m := by simp [DSt.undo, k4]
  unfold DSt.crash
  rw [this]
  have e : l.length + min (left bs 0) ((l ++ m).length - l.length) = l.length + min (left bs 0) m.length := by simp
  show DSt.mk [(nF, 0)] [] [FileC.mk ((l ++ m).take (l.length + min (left bs 0) ((l ++ m).length - l.length))) ((l ++ m).take (l.length + min (left bs 0) ((l ++ m).length - l.length))).length] 4 [] = _
  rw [e, take_on]
  rfl
theorem t6 (l : List UInt8) (kk : Nat) (bs : List Int) : (k5 l).crash kk bs = k5 l := by
  have : (k5 l).undo kk = k5 l := by simp [DSt.undo, k5]
  unfold DSt.crash
  rw [this]
  simp [k5, crashFiles, FileC.crash, fl]
theorem pre_toList (a b t : ByteArray) (j : Nat) (hj : j ≤ b.data.toList.length) (ht : (⟨(a.data.toList ++ b.data.toList.take j).toArray⟩ : ByteArray) = t) :
    t.size = a.size + j ∧ j ≤ b.size ∧ (t.toList == ((a ++ b).extract 0 t.size).toList) = true := by
  have e1 : ∀ x : ByteArray, x.data.toList.length = x.size := fun x => by rw [Array.length_toList]; rfl
  have h1 : t.size = a.size + j := by
    rw [← e1 t, ← e1 a, ← ht]; simp; rw [e1] at hj; omega
  refine ⟨h1, by rw [← e1]; exact hj, ?_⟩
  rw [h1, toL, toL, ← ht]
  have e3 : ((a ++ b).extract 0 (a.size + j)).data.toList = (a.data.toList ++ b.data.toList).take (a.data.toList.length + j) := by
    simp [ByteArray.data_append, e1]
    rw [← e1 a, take_on, List.take_of_length_le (by omega)]
  rw [e3, take_on]
  simp
theorem ints_below {w w' : World} {u : Value} {bs : List Int} (h : IntsAt w u bs) (hb : Below w.heap.size w w') : IntsAt w' u bs := by
  rcases h with h | ⟨g, off, c, e, hg, hc⟩
  · exact .inl h
  · exact .inr ⟨g, off, c, e, Nat.lt_of_lt_of_le hg hb.size, fun W hW => hc W (hW.trans (hb.block g hg))⟩
set_option maxHeartbeats 2000000 in
set_option maxRecDepth 100000 in
theorem walk (a0 b0 : ByteArray) (n1 : Int) (u1 : Value) (l1 : List Int) (a2 : Int) (w : World) (wa0 : a0.size ≤ 1048576) (wb0 : b0.size ≤ 1048576) (c1 : CrashIn w n1 u1 l1) (w2 : (Lit.int .i64 a2).wf = true) :
    Calls Try.prog 6 #[.agg #[.string a0, .string b0], .agg #[.int .i64 n1, u1], .int .i64 a2] w fun e w' => e = .returned (.bool true) ∧ Below w.heap.size w w' := by
  have hm : a0.size ≤ maxLen ∧ b0.size ≤ maxLen := by unfold maxLen; omega
  have hq : a0.size ≤ 200000000000000 ∧ b0.size ≤ 200000000000000 := by omega
  go_enter Try.func6, Try.ntmps6
  go_wp2_with fail
  go_region
  generalize ho1 : Obj.cells #[Value.string a0, Value.string b0] 56 (0, 0) = o1
  generalize ho2 : Obj.cells #[Value.int IntKind.i64 n1, u1] 35 (0, 0) = o2
  have bw : Below w.heap.size w ((w.alloc o1).alloc o2).drew := (((Below.refl w.heap.size w).alloc (Nat.le_refl _) _).alloc (by simp) _).drew
  have hc2 : ((w.alloc o1).alloc o2).drew.heap[w.heap.size + 1]? = some o2 := by
    show ((w.alloc o1).alloc o2).heap[w.heap.size + 1]? = some o2
    have := heap_alloc_new (w.alloc o1) o2
    simpa using this
  have hi := ints_below c1.row bw
  have hsz : w.heap.size + 2 = ((w.alloc o1).alloc o2).drew.heap.size := by show _ = ((w.alloc o1).alloc o2).heap.size; simp
  subst ho2
  generalize ((w.alloc o1).alloc (.cells #[Value.int IntKind.i64 n1, u1] 35 (0, 0))).drew = W at *
  have HI := Lib.hid hi
  have HC2 := Lib.hid hc2
  have HBW := Lib.hid bw
  have HSZ := Lib.hid hsz
  have HM := Lib.hid hm
  have HQ := Lib.hid hq
  have C1 := Lib.hid c1
  have W2 := Lib.hid w2
  have WA := Lib.hid (And.intro wa0 wb0)
  clear hi hc2 bw hsz hm hq c1 ho1 wa0 wb0 w2
  go_wp2_with fail
  refine (at_new W).mono ?_
  rintro e w0 ⟨rfl, h0⟩
  generalize hA : W.heap.size = A at h0
  have H0 := Lib.hid h0
  clear h0
  have HA := Lib.hid hA
  clear hA
  go_wp2_with fail
  refine (H0.out.write_new (by decide) (by decide) (by decide) (by decide) nF a0 (by decide) HM.out.1 (full _ rfl) (by rfl) (by rfl) HQ.out.1).mono ?_
  rintro e w1 ⟨rfl, h1⟩
  rw [t1] at h1
  have H1 := Lib.hid h1
  clear h1
  go_wp2_with fail
  refine (H1.out.sync (by simp [k1]) (by simp [k1]) nF (by decide) (full _ rfl) 0 ⟨a0.data.toList, 0⟩ (by kernel_rfl) (by rfl) (by rfl)).mono ?_
  rintro e x2 ⟨rfl, h2⟩
  rw [t2] at h2
  have H2 := Lib.hid h2
  clear h2
  go_wp2_with fail
  refine (H2.out.syncNames (by simp [k2]) (by simp [k2]) (by rfl)).mono ?_
  rintro e w3 ⟨rfl, h3⟩
  rw [t3] at h3
  have H3 := Lib.hid h3
  clear h3
  go_wp2_with fail
  have hbn : (fl a0.data.toList).data.length + b0.size ≤ 200000000000000 := by
    have := WA.out
    have e : (fl a0.data.toList).data.length = a0.size := by show a0.data.toList.length = a0.size; rw [Array.length_toList]; rfl
    omega
  have HBN := Lib.hid hbn
  clear hbn
  refine (H3.out.write_old (by simp [k3]) (by simp [k3]) nF b0 (by decide) HM.out.2 (full _ rfl) (by rfl) 0 (fl a0.data.toList) (by kernel_rfl) (by rfl) HBN.out).mono ?_
  rintro e w4 ⟨rfl, h4⟩
  rw [t4] at h4
  have H4 := Lib.hid h4
  clear h4
  obtain ⟨kk, hkk⟩ : ∃ kk : Nat, max n1 0 = (kk : Int) := ⟨(max n1 0).toNat, by omega⟩
  have HKK := Lib.hid hkk
  clear hkk
  have hb := (H4.out.below.block (w.heap.size + 1) (by have := HSZ.out; omega)).trans HC2.out
  have d0 : w4.cell? ⟨w.heap.size + 1, 0, none⟩ = some (.int .i64 n1) := by simp [World.cell?, hb]
  have d1 : w4.cell? ⟨w.heap.size + 1, 1, none⟩ = some u1 := by simp [World.cell?, hb]
  have HB := Lib.hid hb
  clear hb
  go_wp2_with fail
  refine (H4.out.crash (by simp [k4]) (by simp [k4]) n1 kk HKK.out u1 l1 (ints_below HI.out H4.out.below) C1.out.len C1.out.fits (C1.out.own.imp id (fun h g hg => by have := h g hg; have := HSZ.out; omega))).mono ?_
  rintro e w5 ⟨rfl, h5⟩
  clear d0 d1
  obtain ⟨j, hj, ht5⟩ := t5 a0.data.toList b0.data.toList kk l1
  rw [ht5] at h5
  clear ht5
  have H5 := Lib.hid h5
  clear h5
  go_wp2_with fail
  refine (H5.out.read_some nF (by decide) (full _ rfl) 0 (fl (a0.data.toList ++ b0.data.toList.take j)) (by kernel_rfl) (by rfl)).mono ?_
  rintro e w5' ⟨rfl, rfl⟩
  rw [show (fl (a0.data.toList ++ b0.data.toList.take j)).data = a0.data.toList ++ b0.data.toList.take j from rfl]
  obtain ⟨t, ht⟩ : ∃ t : ByteArray, (⟨(a0.data.toList ++ b0.data.toList.take j).toArray⟩ : ByteArray) = t := ⟨_, rfl⟩
  obtain ⟨ht1, hjb, hx⟩ := pre_toList a0 b0 t j hj ht
  obtain ⟨C, hC⟩ : ∃ C, C = a0.data.toList ++ b0.data.toList.take j := ⟨_, rfl⟩
  rw [← hC] at H5 ht ⊢
  rw [ht]
  have HTC := Lib.hid ht
  have wa := WA.out.1
  have wb := WA.out.2
  have hl1 : ¬ (t.size : Int) < (a0.size : Int) := by omega
  have hl2 : ¬ (a0.size : Int) + (b0.size : Int) < (t.size : Int) := by omega
  have hl3 : (t.size : Int) ≤ (a0.size : Int) + (b0.size : Int) := by omega
  have hsa : (a0 ++ b0).size = a0.size + b0.size := ByteArray.size_append
  have e1 : decide (t.size < a0.size) = false := by simp; omega
  have e2 : decide ((a0.size : Int) + (b0.size : Int) < (t.size : Int)) = false := by simp; omega
  have E1 := Lib.hid e1
  have E2 := Lib.hid e2
  clear ht hj ht1 hjb hC e1 e2
  have hb2 : -9223372036854775808 ≤ a2 ∧ a2 ≤ 9223372036854775807 := by have := W2.out; simpa [Lit.wf, show IntKind.i64.min = -9223372036854775808 from rfl] using this
  obtain ⟨k2, hk2⟩ : ∃ k2 : Nat, max a2 0 = (k2 : Int) := ⟨(max a2 0).toNat, by omega⟩
  have HB2 := Lib.hid hb2
  have HK2 := Lib.hid hk2
  clear hb2 hk2
  go_wp2_with fail
  simp only [E1.out, E2.out, Bool.or_false]
  go_loopw [14] (fun i wr => ∃ k : Nat, k ≤ 5 ∧ i = .int .i64 k ∧ At W A (k5 C) wr) (fun i _ => 5 - (intOf i).toNat)
  case atStart => exact ⟨0, by omega, rfl, H5.out⟩
  case round =>
    obtain ⟨k, hk, rfl, hAt⟩ := hrel
    have HAT := Lib.hid hAt
    clear hAt
    by_cases hlt : (k : Int) < a2
    · by_cases hl5 : (k : Int) < 5
      · go_wp2_with fail
        refine (HAT.out.crash_own (by simp [k5]) (by simp [k5]) a2 k2 HK2.out a2 HB2.out).mono ?_
        rintro e w6 ⟨rfl, h6⟩
        rw [t6] at h6
        have H6 := Lib.hid h6
        clear h6
        go_wp2_with fail
        refine (H6.out.read_some nF (by decide) (full _ rfl) 0 (fl C) (by kernel_rfl) (by rfl)).mono ?_
        rintro e w6' ⟨rfl, rfl⟩
        rw [show (fl C).data = C from rfl, HTC.out]
        go_wp2
        go_roundw
        case rel => exact ⟨k + 1, by omega, by go_num, H6.out⟩
        case measure => simp [intOf]; omega
      · go_wp2_with fail
        refine (sure_yes _).mono ?_
        rintro e w7 ⟨rfl, hb⟩
        have H7 := Lib.hid hb
        clear hb
        go_wp2
        go_ret
        exact ⟨rfl, HBW.out.trans ((HAT.out.below.trans (H7.out.mono HAT.out.size)).mono (by have := HSZ.out; omega))⟩
    · go_wp2_with fail
      refine (sure_yes _).mono ?_
      rintro e w7 ⟨rfl, hb⟩
      have H7 := Lib.hid hb
      clear hb
      go_wp2
      go_ret
      exact ⟨rfl, HBW.out.trans ((HAT.out.below.trans (H7.out.mono HAT.out.size)).mono (by have := HSZ.out; omega))⟩

theorem toLen (s : ByteArray) : s.data.toList.length = s.size := by rw [Array.length_toList]; rfl

/-! ### The row -/
set_option maxRecDepth 100000 in
theorem contract (H : Type) (enc : TypeId × Value → H) (W : World) (base : Nat) (args : Array Value) (ds gs : List (DataW H)) (before : List MemPlace)
    (hval0 : ∀ (j : Nat) t v, Try.f6.params[j]? = some t → args[j]? = some v → Value.okWide Try.prog W .any base t v)
    (hW : DataW.Whole enc Try.prog Try.f6.params.toList Rows.diskKeepsSpec.vars false W args.toList ds gs before) (hsz : Rows.uptoSmall H (ds ++ gs) = true) :
    Calls Try.prog 6 args W fun e W' => ∃ v, e = .returned v ∧ Rows.diskKeepsSpec.post enc Try.prog Try.f6 false true false false W args v W' := by
  have hval : ∀ (j : Nat) t v, Try.f6.params[j]? = some t → args[j]? = some v → Value.okWide Try.prog W .any base t v := hval0
  have hW' := hW
  obtain ⟨p, q, hA0, hV, rfl, hfz, hnd⟩ := hW
  have hA : DataW.TrodAll enc Try.prog W 0 (fun _ => true) true Try.f6.params.toList args.toList ds p := hA0
  rw [Try.params6] at hA hval
  obtain ⟨v0, vs0, d0, ds0, p0, q0, hargs, rfl, rfl, h0, r0⟩ := trodAll_cons hA
  obtain ⟨v1, vs1, d1, ds1, p1, q1, rfl, rfl, rfl, h1, r1⟩ := trodAll_cons r0
  obtain ⟨v2, vs2, d2, ds2, p2, q2, rfl, rfl, rfl, h2, r2⟩ := trodAll_cons r1
  obtain ⟨rfl, rfl, rfl⟩ := trodAll_nil r2
  obtain rfl : args = #[v0, v1, v2] := by cases args; simp_all
  obtain ⟨rfl, rfl⟩ := trodVars_none hV
  have k0 := h0
  have lt0 : ∀ x ∈ p0, x.block < W.heap.size := by obtain ⟨m, hm⟩ := k0; exact DataW.trod_lt m _ _ _ hm
  obtain ⟨a0, b0, rfl, rfl, _, _⟩ := open_two (hval 0 56 v0 rfl rfl) h0
  have k1 := h1
  have lt1 : ∀ x ∈ p1, x.block < W.heap.size := by obtain ⟨m, hm⟩ := k1; exact DataW.trod_lt m _ _ _ hm
  obtain ⟨n1, u1, l1, rfl, c1⟩ := open_crash (hval 1 35 v1 rfl rfl) h1
  obtain ⟨a2, rfl, rfl, rfl, w2⟩ := open_int Try.underlying3 (hval 2 3 v2 rfl rfl) h2
  have s0 : a0.size ≤ 1048576 ∧ b0.size ≤ 1048576 := by
    have h := of_decide_eq_true hsz
    simp only [List.append_nil, Rows.uptoBulkAll, Rows.uptoBulk, toLen] at h
    omega
  clear hA0 hval0
  refine (walk a0 b0 n1 u1 l1 a2 W s0.1 s0.2 c1 w2).mono fun e W' ⟨he, bel⟩ => ?_
  subst he
  exact ⟨_, rfl, _, _, _, [], _, [], hW', trodAll_mk1 (shut_bool Try.underlying4 _), (trodAll_cons_mk (Below.trod laidOut (by kernel_rfl) (of_decide_eq_true (by kernel_rfl)) k0 bel lt0) (trodAll_cons_mk (Below.trod laidOut (by kernel_rfl) (of_decide_eq_true (by kernel_rfl)) k1 bel lt1) (trodAll_cons_mk (shut_int Try.underlying3 w2) trodAll_mk0))), rfl, bel.frame _, fun h => by cases h⟩

set_option maxRecDepth 100000 in
theorem lifted (os : Os) (started : os.Started) (H : Type) (enc : TypeId × Value → H) (F : Stop.Interp) :
    ReturnsInHanded {} Try.checked os 6 .any ((Rows.OpenSpec.upto Rows.diskKeepsSpec).pre6 enc Try.prog Try.f6 Rows.diskKeepsUptoRow.domain false) (((Rows.OpenSpec.upto Rows.diskKeepsSpec).at F).post enc Try.prog Try.f6 false true false false) := by
  refine returnsInHanded_of_cond (C := Try.checked) (s := Rows.OpenSpec.upto Rows.diskKeepsSpec) (k := Rows.uptoSmall) rfl own started (by kernel_rfl) Try.func6
    (OpenSpec.witness (enc := enc) (C := Try.checked) (s := Rows.OpenSpec.upto Rows.diskKeepsSpec) (k := Rows.uptoSmall) rfl false ⟨#[], #[.agg #[.string ByteArray.empty, .string ByteArray.empty], .agg #[.int .i64 0, .slice none 0 0], .int .i64 0], []⟩ 8 (by kernel_rfl) (by kernel_rfl) (by kernel_rfl)
      (x := ([.agg [.lit (.string []), .lit (.string [])], .agg [.lit (.int .i64 0), .nil], .lit (.int .i64 0)], [], [])) (by kernel_rfl) rfl (by kernel_rfl)) ?_
  intro W base args ds gs before hval hW _ hk _
  exact contract H enc W base args ds gs before hval hW hk

/-- The statement. -/
theorem proved : Rows.DiskKeepsUptoSaid :=
  OpenClaim.holds_of_cond 6 Try.f6 rfl rfl rfl rfl rfl rfl rfl ⟨rfl, rfl, rfl, rfl, rfl⟩ rfl rfl rfl rfl rfl (by kernel_rfl) Try.func6 (by kernel_rfl)
    (of_decide_eq_true (by kernel_rfl)) (by unfold Func.isWrapper; first | (rw [if_pos (by decide +kernel)]; kernel_rfl) | (rw [if_neg (by decide +kernel)]; exact ⟨rfl, rfl⟩))
    (fun os started H enc _ F => lifted os started H enc F)
#print axioms proved
end Go.Proofs.Ytadelkdecgljbaa.diskKeeps
