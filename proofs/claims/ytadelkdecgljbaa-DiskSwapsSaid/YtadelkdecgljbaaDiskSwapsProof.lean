/- For any two texts, any crash and either choice the law DiskSwaps of the document's chapter 2 returns true over the program's own disk: behind any crash a file that was written, synced and renamed over another one is the old one or the new one, whole. No condition. -/
import Derived.Test.YtadelkdecgljbaaRows
import Derived.WalkKit
import Derived.ProofKit
import Derived.OpenShut
import Derived.ShutString
import Derived.ChangeOld
import Derived.Below
import Derived.SizedLaws
import Derived.Test.YtadelkdecgljbaaDkArgs
namespace Go.Proofs.Ytadelkdecgljbaa.diskSwaps
open Go.ChangeShapes Go.WideShapes Go.ChangeAt Go.RowKit Go.Proofs.Ytadelkdecgljbaa
open Go.ChangeMaps (open_string shut_string)
set_option linter.unusedVariables false

theorem own : ownKnob Try.prog.godebug = none := by kernel_rfl
theorem laidOut : laidOutB Try.prog = true := by kernel_rfl

/-! ### The walk -/
open Dk
def fl (l : List UInt8) : FileC := ⟨l, l.length⟩
def s1 (l : List UInt8) : DSt := ⟨[(nA, 0)], [[(nA, none)]], [⟨l, 0⟩], 1, []⟩
def s2 (l : List UInt8) : DSt := ⟨[(nA, 0)], [[(nA, none)]], [fl l], 2, []⟩
def s3 (l : List UInt8) : DSt := ⟨[(nA, 0)], [], [fl l], 3, []⟩
def s4 (l m : List UInt8) : DSt := ⟨[(nA, 0), (nB, 1)], [[(nB, none)]], [fl l, ⟨m, 0⟩], 4, []⟩
def s5 (l m : List UInt8) : DSt := ⟨[(nA, 0), (nB, 1)], [[(nB, none)]], [fl l, fl m], 5, []⟩
def s6 (l m : List UInt8) : DSt := ⟨[(nA, 1)], [[(nB, none)], [(nB, some 1), (nA, some 0)]], [fl l, fl m], 6, []⟩
def s7 (l m : List UInt8) : DSt := ⟨[(nA, 1)], [], [fl l, fl m], 7, []⟩
def s8 (L : List (Nm × Nat)) (l m : List UInt8) (n : Int) : DSt := ⟨L, [], [fl l, fl m], n, []⟩
theorem t1 (l : List UInt8) : ({ more new.tick nA with files := (more new.tick nA).files.set new.files.length (FileC.mk l 0) } : DSt) = s1 l := by kernel_rfl
theorem t2 (l : List UInt8) : ({ (s1 l).tick with files := (s1 l).files.set 0 (syncF ⟨l, 0⟩) } : DSt) = s2 l := by kernel_rfl
theorem t3 (l : List UInt8) : DSt.close (s2 l).tick = s3 l := by kernel_rfl
theorem t4 (l m : List UInt8) : ({ more (s3 l).tick nB with files := (more (s3 l).tick nB).files.set (s3 l).files.length (FileC.mk m 0) } : DSt) = s4 l m := by kernel_rfl
theorem t5 (l m : List UInt8) : ({ (s4 l m).tick with files := (s4 l m).files.set 1 (syncF ⟨m, 0⟩) } : DSt) = s5 l m := by kernel_rfl
theorem t6 (l m : List UInt8) : (s5 l m).tick.relink [(nB, none), (nA, some 1)] = s6 l m := by kernel_rfl
theorem t7 (l m : List UInt8) : DSt.close (s6 l m).tick = s7 l m := by kernel_rfl
theorem crash_fl (l : List UInt8) (b : Nat) : (fl l).crash b = fl l := by simp [FileC.crash, fl]
theorem t8 (l m : List UInt8) (k : Nat) (bs : List Int) : (s7 l m).crash k bs = s8 [(nA, 1)] l m 7 := by
  have : (s7 l m).undo k = s7 l m := by simp [DSt.undo, s7]
  unfold DSt.crash
  rw [this]
  simp [s7, s8, crashFiles, crash_fl]
theorem files_same (bs : List Int) (l m : List UInt8) : ∀ (L : List (Nm × Nat)) (j : Nat), crashFiles bs L j [fl l, fl m] = [fl l, fl m]
  | [], _ => rfl
  | p :: r, j => by
    have : [fl l, fl m].modify p.2 (fun f => f.crash (left bs j)) = [fl l, fl m] := by
      match p.2 with
      | 0 => simp [crash_fl]
      | 1 => simp [crash_fl]
      | n + 2 => simp
    rw [crashFiles, this]
    exact files_same bs l m r (j + 1)
theorem t9 (l m : List UInt8) (k : Nat) (bs : List Int) : (s6 l m).crash k bs = s8 ((s6 l m).undo k).names l m 6 := by
  unfold DSt.crash
  rw [show (s6 l m).files = [fl l, fl m] from rfl, files_same]
  rfl
theorem und0 (l m : List UInt8) : ((s6 l m).undo 0).names = [(nA, 0)] := by kernel_rfl
theorem und1 (l m : List UInt8) : ((s6 l m).undo 1).names = [(nA, 0), (nB, 1)] := by kernel_rfl
theorem und2 (l m : List UInt8) (k : Nat) : ((s6 l m).undo (k + 2)).names = [(nA, 1)] := by simp [DSt.undo, s6]
theorem ints_below {w w' : World} {u : Value} {bs : List Int} (h : IntsAt w u bs) (hb : Below w.heap.size w w') : IntsAt w' u bs := by
  rcases h with h | ⟨g, off, c, e, hg, hc⟩
  · exact .inl h
  · exact .inr ⟨g, off, c, e, Nat.lt_of_lt_of_le hg hb.size, fun W hW => hc W (hW.trans (hb.block g hg))⟩
set_option maxHeartbeats 2000000 in
set_option maxRecDepth 100000 in
theorem walk (a0 b0 : ByteArray) (n1 : Int) (u1 : Value) (l1 : List Int) (a2 : Bool) (w : World) (wa0 : a0.size ≤ 140737488351232) (wb0 : b0.size ≤ 140737488351232) (c1 : CrashIn w n1 u1 l1) :
    Calls Try.prog 5 #[.agg #[.string a0, .string b0], .agg #[.int .i64 n1, u1], .bool a2] w fun e w' => e = .returned (.bool true) ∧ Below w.heap.size w w' := by
  have hm : a0.size ≤ maxLen ∧ b0.size ≤ maxLen := by unfold maxLen; omega
  have hq : a0.size ≤ 200000000000000 ∧ b0.size ≤ 200000000000000 := by omega
  go_enter Try.func5, Try.ntmps5
  go_wp2_with fail
  go_region
  generalize ho1 : Obj.cells #[Value.string a0, Value.string b0] 56 (0, 0) = o1
  generalize ho2 : Obj.cells #[Value.int IntKind.i64 n1, u1] 35 (0, 0) = o2
  have bw : Below w.heap.size w ((w.alloc o1).alloc o2).drew := (((Below.refl w.heap.size w).alloc (Nat.le_refl _) _).alloc (by simp) _).drew
  have hc2 : ((w.alloc o1).alloc o2).drew.heap[w.heap.size + 1]? = some o2 := by
    show ((w.alloc o1).alloc o2).heap[w.heap.size + 1]? = some o2
    have := heap_alloc_new (w.alloc o1) o2
    simpa using this
  have hi := ints_below c1.row bw
  have hsz : w.heap.size + 2 = ((w.alloc o1).alloc o2).drew.heap.size := by show _ = ((w.alloc o1).alloc o2).heap.size; simp
  subst ho2
  generalize ((w.alloc o1).alloc (.cells #[Value.int IntKind.i64 n1, u1] 35 (0, 0))).drew = W at *
  have HI := Lib.hid hi
  have HC2 := Lib.hid hc2
  have HBW := Lib.hid bw
  have HSZ := Lib.hid hsz
  have HM := Lib.hid hm
  have HQ := Lib.hid hq
  have C1 := Lib.hid c1
  clear hi hc2 bw hsz hm hq c1 ho1 wa0 wb0
  go_wp2_with fail
  refine (at_new W).mono ?_
  rintro e w0 ⟨rfl, h0⟩
  generalize hA : W.heap.size = A at h0
  have H0 := Lib.hid h0
  clear h0
  have HA := Lib.hid hA
  clear hA
  go_wp2_with fail
  refine (H0.out.write_new (by decide) (by decide) (by decide) (by decide) nA a0 (by decide) HM.out.1 (full _ rfl) (by rfl) (by rfl) HQ.out.1).mono ?_
  rintro e w1 ⟨rfl, h1⟩
  rw [t1] at h1
  have H1 := Lib.hid h1
  clear h1
  go_wp2_with fail
  refine (H1.out.sync (by first | decide | simp [s1]) (by first | decide | simp [s1]) nA (by first | decide | simp [s1]) (full _ rfl) 0 ⟨a0.data.toList, 0⟩ (by kernel_rfl) (by rfl) (by rfl)).mono ?_
  rintro e w2 ⟨rfl, h2⟩
  rw [t2] at h2
  have H2 := Lib.hid h2
  clear h2
  go_wp2_with fail
  refine (H2.out.syncNames (by first | decide | simp [s2]) (by first | decide | simp [s2]) (by rfl)).mono ?_
  rintro e w3 ⟨rfl, h3⟩
  rw [t3] at h3
  have H3 := Lib.hid h3
  clear h3
  go_wp2_with fail
  refine (H3.out.write_new (by first | decide | simp [s3]) (by first | decide | simp [s3]) (by first | decide | simp [s3]) (by first | decide | simp [s3]) nB b0 (by first | decide | simp [s3]) HM.out.2 (full _ rfl) (by rfl) (by kernel_rfl) HQ.out.2).mono ?_
  rintro e w4 ⟨rfl, h4⟩
  rw [t4] at h4
  have H4 := Lib.hid h4
  clear h4
  go_wp2_with fail
  refine (H4.out.sync (by first | decide | simp [s4]) (by first | decide | simp [s4]) nB (by first | decide | simp [s4]) (full _ rfl) 1 ⟨b0.data.toList, 0⟩ (by kernel_rfl) (by rfl) (by rfl)).mono ?_
  rintro e w5 ⟨rfl, h5⟩
  rw [t5] at h5
  have H5 := Lib.hid h5
  clear h5
  go_wp2_with fail
  refine (H5.out.rename (by first | decide | simp [s5]) (by first | decide | simp [s5]) (by first | decide | simp [s5]) (by first | decide | simp [s5]) nB nA (by first | decide | simp [s5]) (by first | decide | simp [s5]) (full _ rfl) (full _ rfl) (unlike _ _ (by first | decide | simp [s5])) 1 (by kernel_rfl) (by rfl)).mono ?_
  rintro e w6 ⟨rfl, h6⟩
  rw [t6] at h6
  have H6 := Lib.hid h6
  clear h6
  obtain ⟨kk, hkk⟩ : ∃ kk : Nat, max n1 0 = (kk : Int) := ⟨(max n1 0).toNat, by omega⟩
  have HKK := Lib.hid hkk
  clear hkk
  cases a2
  · have hn : n1 < 2 ∨ 2 ≤ n1 := by omega
    rcases hn with hn | hn
    · have hk2 : kk = 0 ∨ kk = 1 := by have := HKK.out; omega
      rcases hk2 with rfl | rfl
      · have hb := (H6.out.below.block (w.heap.size + 1) (by have := HSZ.out; omega)).trans HC2.out
        have d0 : w6.cell? ⟨w.heap.size + 1, 0, none⟩ = some (.int .i64 n1) := by simp [World.cell?, hb]
        have d1 : w6.cell? ⟨w.heap.size + 1, 1, none⟩ = some u1 := by simp [World.cell?, hb]
        have HB := Lib.hid hb
        clear hb
        go_wp2_with fail
        refine (H6.out.crash (by simp [s6]) (by simp [s6]) n1 _ HKK.out u1 l1 (ints_below HI.out H6.out.below) C1.out.len C1.out.fits (C1.out.own.imp id (fun h g hg => by have := h g hg; have := HSZ.out; omega))).mono ?_
        rintro e w8 ⟨rfl, h8⟩
        clear d0 d1
        rw [t9, und0] at h8
        have hb8 := (h8.below.block (w.heap.size + 1) (by have := HSZ.out; omega)).trans HC2.out
        have d8 : w8.cell? ⟨w.heap.size + 1, 0, none⟩ = some (.int .i64 n1) := by simp [World.cell?, hb8]
        have H8 := Lib.hid h8
        clear h8 hb8
        go_wp2_with fail
        refine (H8.out.read_some nA (by decide) (full _ rfl) 0 (fl a0.data.toList) (by kernel_rfl) (by rfl)).mono ?_
        rintro e w8' ⟨rfl, rfl⟩
        rw [show (⟨(fl a0.data.toList).data.toArray⟩ : ByteArray) = a0 from Go.Joins.bytes_eta a0]
        have hab : (a0.toList == b0.toList) = true ∨ (a0.toList == b0.toList) = false := by cases (a0.toList == b0.toList) <;> simp
        rcases hab with hab | hab
        · go_wp2_with fail
          refine (sure_yes _).mono ?_
          rintro e w9 ⟨rfl, hb⟩
          have H9 := Lib.hid hb
          clear hb
          go_wp2
          go_ret
          exact ⟨rfl, HBW.out.trans ((H8.out.below.trans (H9.out.mono H8.out.size)).mono (by have := HSZ.out; omega))⟩
        · go_wp2_with fail
          refine (sure_yes _).mono ?_
          rintro e w9 ⟨rfl, hb⟩
          have H9 := Lib.hid hb
          clear hb
          go_wp2
          go_ret
          exact ⟨rfl, HBW.out.trans ((H8.out.below.trans (H9.out.mono H8.out.size)).mono (by have := HSZ.out; omega))⟩
      · have hb := (H6.out.below.block (w.heap.size + 1) (by have := HSZ.out; omega)).trans HC2.out
        have d0 : w6.cell? ⟨w.heap.size + 1, 0, none⟩ = some (.int .i64 n1) := by simp [World.cell?, hb]
        have d1 : w6.cell? ⟨w.heap.size + 1, 1, none⟩ = some u1 := by simp [World.cell?, hb]
        have HB := Lib.hid hb
        clear hb
        go_wp2_with fail
        refine (H6.out.crash (by simp [s6]) (by simp [s6]) n1 _ HKK.out u1 l1 (ints_below HI.out H6.out.below) C1.out.len C1.out.fits (C1.out.own.imp id (fun h g hg => by have := h g hg; have := HSZ.out; omega))).mono ?_
        rintro e w8 ⟨rfl, h8⟩
        clear d0 d1
        rw [t9, und1] at h8
        have hb8 := (h8.below.block (w.heap.size + 1) (by have := HSZ.out; omega)).trans HC2.out
        have d8 : w8.cell? ⟨w.heap.size + 1, 0, none⟩ = some (.int .i64 n1) := by simp [World.cell?, hb8]
        have H8 := Lib.hid h8
        clear h8 hb8
        go_wp2_with fail
        refine (H8.out.read_some nA (by decide) (full _ rfl) 0 (fl a0.data.toList) (by kernel_rfl) (by rfl)).mono ?_
        rintro e w8' ⟨rfl, rfl⟩
        rw [show (⟨(fl a0.data.toList).data.toArray⟩ : ByteArray) = a0 from Go.Joins.bytes_eta a0]
        have hab : (a0.toList == b0.toList) = true ∨ (a0.toList == b0.toList) = false := by cases (a0.toList == b0.toList) <;> simp
        rcases hab with hab | hab
        · go_wp2_with fail
          refine (sure_yes _).mono ?_
          rintro e w9 ⟨rfl, hb⟩
          have H9 := Lib.hid hb
          clear hb
          go_wp2
          go_ret
          exact ⟨rfl, HBW.out.trans ((H8.out.below.trans (H9.out.mono H8.out.size)).mono (by have := HSZ.out; omega))⟩
        · go_wp2_with fail
          refine (sure_yes _).mono ?_
          rintro e w9 ⟨rfl, hb⟩
          have H9 := Lib.hid hb
          clear hb
          go_wp2
          go_ret
          exact ⟨rfl, HBW.out.trans ((H8.out.below.trans (H9.out.mono H8.out.size)).mono (by have := HSZ.out; omega))⟩
    · obtain ⟨k2, rfl⟩ : ∃ k2, kk = k2 + 2 := ⟨kk - 2, by have := HKK.out; omega⟩
      have hb := (H6.out.below.block (w.heap.size + 1) (by have := HSZ.out; omega)).trans HC2.out
      have d0 : w6.cell? ⟨w.heap.size + 1, 0, none⟩ = some (.int .i64 n1) := by simp [World.cell?, hb]
      have d1 : w6.cell? ⟨w.heap.size + 1, 1, none⟩ = some u1 := by simp [World.cell?, hb]
      have HB := Lib.hid hb
      clear hb
      go_wp2_with fail
      refine (H6.out.crash (by simp [s6]) (by simp [s6]) n1 _ HKK.out u1 l1 (ints_below HI.out H6.out.below) C1.out.len C1.out.fits (C1.out.own.imp id (fun h g hg => by have := h g hg; have := HSZ.out; omega))).mono ?_
      rintro e w8 ⟨rfl, h8⟩
      clear d0 d1
      rw [t9, und2] at h8
      have hb8 := (h8.below.block (w.heap.size + 1) (by have := HSZ.out; omega)).trans HC2.out
      have d8 : w8.cell? ⟨w.heap.size + 1, 0, none⟩ = some (.int .i64 n1) := by simp [World.cell?, hb8]
      have H8 := Lib.hid h8
      clear h8 hb8
      go_wp2_with fail
      refine (H8.out.read_some nA (by decide) (full _ rfl) 1 (fl b0.data.toList) (by kernel_rfl) (by rfl)).mono ?_
      rintro e w8' ⟨rfl, rfl⟩
      rw [show (⟨(fl b0.data.toList).data.toArray⟩ : ByteArray) = b0 from Go.Joins.bytes_eta b0]
      have hab : (b0.toList == a0.toList) = true ∨ (b0.toList == a0.toList) = false := by cases (b0.toList == a0.toList) <;> simp
      rcases hab with hab | hab
      · go_wp2_with fail
        refine (sure_yes _).mono ?_
        rintro e w9 ⟨rfl, hb⟩
        have H9 := Lib.hid hb
        clear hb
        go_wp2
        go_ret
        exact ⟨rfl, HBW.out.trans ((H8.out.below.trans (H9.out.mono H8.out.size)).mono (by have := HSZ.out; omega))⟩
      · go_wp2_with fail
        refine (sure_yes _).mono ?_
        rintro e w9 ⟨rfl, hb⟩
        have H9 := Lib.hid hb
        clear hb
        go_wp2
        go_ret
        exact ⟨rfl, HBW.out.trans ((H8.out.below.trans (H9.out.mono H8.out.size)).mono (by have := HSZ.out; omega))⟩
  · go_wp2_with fail
    refine (H6.out.syncNames (by first | decide | simp [s6]) (by first | decide | simp [s6]) (by rfl)).mono ?_
    rintro e w7 ⟨rfl, h7⟩
    rw [t7] at h7
    have H7 := Lib.hid h7
    clear h7
    have hb := (H7.out.below.block (w.heap.size + 1) (by have := HSZ.out; omega)).trans HC2.out
    have d0 : w7.cell? ⟨w.heap.size + 1, 0, none⟩ = some (.int .i64 n1) := by simp [World.cell?, hb]
    have d1 : w7.cell? ⟨w.heap.size + 1, 1, none⟩ = some u1 := by simp [World.cell?, hb]
    have HB := Lib.hid hb
    clear hb
    go_wp2_with fail
    refine (H7.out.crash (by simp [s7]) (by simp [s7]) n1 _ HKK.out u1 l1 (ints_below HI.out H7.out.below) C1.out.len C1.out.fits (C1.out.own.imp id (fun h g hg => by have := h g hg; have := HSZ.out; omega))).mono ?_
    rintro e w8 ⟨rfl, h8⟩
    clear d0 d1
    rw [t8] at h8
    have hb8 := (h8.below.block (w.heap.size + 1) (by have := HSZ.out; omega)).trans HC2.out
    have d8 : w8.cell? ⟨w.heap.size + 1, 0, none⟩ = some (.int .i64 n1) := by simp [World.cell?, hb8]
    have H8 := Lib.hid h8
    clear h8 hb8
    go_wp2_with fail
    refine (H8.out.read_some nA (by decide) (full _ rfl) 1 (fl b0.data.toList) (by kernel_rfl) (by rfl)).mono ?_
    rintro e w8' ⟨rfl, rfl⟩
    rw [show (⟨(fl b0.data.toList).data.toArray⟩ : ByteArray) = b0 from Go.Joins.bytes_eta b0]
    have hab : (b0.toList == a0.toList) = true ∨ (b0.toList == a0.toList) = false := by cases (b0.toList == a0.toList) <;> simp
    rcases hab with hab | hab
    · go_wp2_with fail
      refine (sure_yes _).mono ?_
      rintro e w9 ⟨rfl, hb⟩
      have H9 := Lib.hid hb
      clear hb
      go_wp2
      go_ret
      exact ⟨rfl, HBW.out.trans ((H8.out.below.trans (H9.out.mono H8.out.size)).mono (by have := HSZ.out; omega))⟩
    · go_wp2_with fail
      refine (sure_yes _).mono ?_
      rintro e w9 ⟨rfl, hb⟩
      have H9 := Lib.hid hb
      clear hb
      go_wp2
      go_ret
      exact ⟨rfl, HBW.out.trans ((H8.out.below.trans (H9.out.mono H8.out.size)).mono (by have := HSZ.out; omega))⟩

/-! ### The row -/
set_option maxRecDepth 100000 in
theorem lifted (os : Os) (started : os.Started) (H : Type) (enc : TypeId × Value → H) :
    ReturnsInHanded {} Try.checked os 5 .any (Rows.diskSwapsSpec.pre6 enc Try.prog Try.f5 Rows.diskSwapsRow.domain false) (Rows.diskSwapsSpec.post enc Try.prog Try.f5 false true false false) := by
  refine returnsInHanded_of_change_sized (C := Try.checked) own started (by kernel_rfl) Try.func5
    (ChangeSpec.witness6 (enc := enc) (C := Try.checked) false ⟨#[], #[.agg #[.string ByteArray.empty, .string ByteArray.empty], .agg #[.int .i64 0, .slice none 0 0], .bool false], []⟩ 8 (by kernel_rfl) (by kernel_rfl) (by kernel_rfl) (by kernel_rfl)) ?_
  intro W base args ds gs before hval0 hW hcnd hsz0 _
  have hval : ∀ (j : Nat) t v, Try.f5.params[j]? = some t → args[j]? = some v → Value.okWide Try.prog W .any base t v := hval0
  have hW' := hW
  obtain ⟨p, q, hA0, hV, rfl, hfz, hnd⟩ := hW
  have hA : DataW.TrodAll enc Try.prog W 0 (fun _ => true) true Try.f5.params.toList args.toList ds p := hA0
  have hsz : (DataW.weightsEach Try.prog (Try.f5.params.toList ++ Rows.diskSwapsSpec.plain.varTypes Try.prog) (ds ++ gs)).all (· ≤ reachBytes) = true := hsz0
  rw [Try.params5] at hA hval hsz
  obtain ⟨v0, vs0, d0, ds0, p0, q0, hargs, rfl, rfl, h0, r0⟩ := trodAll_cons hA
  obtain ⟨v1, vs1, d1, ds1, p1, q1, rfl, rfl, rfl, h1, r1⟩ := trodAll_cons r0
  obtain ⟨v2, vs2, d2, ds2, p2, q2, rfl, rfl, rfl, h2, r2⟩ := trodAll_cons r1
  obtain ⟨rfl, rfl, rfl⟩ := trodAll_nil r2
  obtain rfl : args = #[v0, v1, v2] := by cases args; simp_all
  obtain ⟨rfl, rfl⟩ := trodVars_none hV
  have k0 := h0
  have lt0 : ∀ x ∈ p0, x.block < W.heap.size := by obtain ⟨m, hm⟩ := k0; exact DataW.trod_lt m _ _ _ hm
  obtain ⟨a0, b0, rfl, rfl, _, _⟩ := open_two (hval 0 56 v0 rfl rfl) h0
  have k1 := h1
  have lt1 : ∀ x ∈ p1, x.block < W.heap.size := by obtain ⟨m, hm⟩ := k1; exact DataW.trod_lt m _ _ _ hm
  obtain ⟨n1, u1, l1, rfl, c1⟩ := open_crash (hval 1 35 v1 rfl rfl) h1
  obtain ⟨a2, rfl, rfl, rfl⟩ := open_bool Try.underlying4 (hval 2 4 v2 rfl rfl) h2
  have s0 : a0.size ≤ 140737488351232 ∧ b0.size ≤ 140737488351232 := by have := sized_two hsz (j := 0) rfl rfl; simpa [reachBytes] using this
  clear hA0 hval0
  refine (walk a0 b0 n1 u1 l1 a2 W s0.1 s0.2 c1).mono fun e W' ⟨he, bel⟩ => ?_
  subst he
  exact ⟨_, rfl, _, _, _, [], _, [], hW', trodAll_mk1 (shut_bool Try.underlying4 _), (trodAll_cons_mk (Below.trod laidOut (by kernel_rfl) (of_decide_eq_true (by kernel_rfl)) k0 bel lt0) (trodAll_cons_mk (Below.trod laidOut (by kernel_rfl) (of_decide_eq_true (by kernel_rfl)) k1 bel lt1) (trodAll_cons_mk (shut_bool Try.underlying4 _) trodAll_mk0))), rfl, bel.frame _, fun h => by cases h⟩

theorem over : Rows.diskSwapsRow.holds Try.pinned (OpenSpec.ofChange Rows.diskSwapsSpec) :=
  OpenClaim.holds_of_wide 5 Try.f5 rfl rfl rfl rfl rfl rfl rfl ⟨rfl, rfl, rfl, rfl, rfl⟩ rfl rfl rfl rfl rfl (by kernel_rfl) Try.func5 (by kernel_rfl)
    (of_decide_eq_true (by kernel_rfl)) (by unfold Func.isWrapper; first | (rw [if_pos (by decide +kernel)]; kernel_rfl) | (rw [if_neg (by decide +kernel)]; exact ⟨rfl, rfl⟩))
    (fun os started H enc _ => lifted os started H enc)

/-- The statement. -/
theorem proved : Rows.DiskSwapsSaid := over
#print axioms proved
end Go.Proofs.Ytadelkdecgljbaa.diskSwaps
