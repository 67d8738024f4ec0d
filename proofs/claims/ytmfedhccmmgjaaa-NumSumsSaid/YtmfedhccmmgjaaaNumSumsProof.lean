/- For any text, any int place and any byte the law NumSums of the document's chapter 1 returns true over the program's own Sum and Hash and the document's own answers: the check sum and the hash of any text; a text with one byte turned has another sum. No condition. -/
import Derived.Test.YtmfedhccmmgjaaaRows
import Derived.WalkKit
import Derived.ProofKit
import Derived.OpenShut
import Derived.ShutString
import Derived.Test.YtmfedhccmmgjaaaNumR
import Derived.Lib.ConvBytes
import Derived.SizedLaws
namespace Go.Proofs.Ytmfedhccmmgjaaa.numSums
open Go.ChangeShapes Go.WideShapes Go.ChangeAt Go.RowKit
open Go.ChangeMaps (open_string shut_string)
set_option linter.unusedVariables false

theorem own : ownKnob Try.prog.godebug = none := by kernel_rfl

/-! ### The walk -/
theorem bytes_none (bs : ByteArray) (h : bs.toList = []) : bs.size = 0 := by
  unfold ByteArray.toList at h
  rcases Nat.eq_zero_or_pos bs.size with e | e
  · exact e
  · exfalso
    unfold ByteArray.toList.loop at h
    rw [if_pos e] at h
    have key : ∀ (n i : Nat) (r : List UInt8), bs.size - i ≤ n → r ≠ [] → ByteArray.toList.loop bs i r ≠ [] := by
      intro n
      induction n with
      | zero => intro i r hi hr; unfold ByteArray.toList.loop; rw [if_neg (by omega)]; simpa using hr
      | succ n ih =>
        intro i r hi hr
        unfold ByteArray.toList.loop
        split
        · exact ih _ _ (by omega) (by simp)
        · simpa using hr
    exact key bs.size _ _ (by omega) (by simp) h
/-- The text s with the byte x at the place j. -/
def turned (s : ByteArray) (j : Nat) (x : UInt8) : ByteArray := ⟨s.data.setIfInBounds j x⟩
theorem turned_size (s : ByteArray) (j : Nat) (x : UInt8) : (turned s j x).size = s.size := by
  show (s.data.setIfInBounds j x).size = s.data.size
  simp
theorem turned_at (s : ByteArray) (j : Nat) (x : UInt8) (i : Nat) : byN (turned s j x) i = if i = j ∧ i < s.size then x.toNat else byN s i := by
  have hs := turned_size s j x
  by_cases h : i < s.size
  · have e0 : byN (turned s j x) i = ((turned s j x)[i]'(by rw [hs]; exact h)).toNat := by unfold byN; rw [dif_pos (by rw [hs]; exact h)]
    have e1 : byN s i = (s[i]'h).toNat := by unfold byN; rw [dif_pos h]
    have e : (turned s j x)[i]'(by rw [hs]; exact h) = (s.data.setIfInBounds j x)[i]'(by simpa using h) := rfl
    rw [e0, e1, e, Array.getElem_setIfInBounds]
    by_cases hj : j = i
    · rw [if_pos hj, if_pos ⟨hj.symm, h⟩]
    · rw [if_neg hj, if_neg (fun c => hj c.1.symm)]; rfl
  · have e0 : byN (turned s j x) i = 0 := by unfold byN; rw [dif_neg (by rw [hs]; exact h)]
    have e1 : byN s i = 0 := by unfold byN; rw [dif_neg h]
    rw [e0, e1, if_neg (fun c => h c.2)]
theorem crc_turned (s : ByteArray) (j : Nat) (x : UInt8) (hj : j < s.size) (hx : x.toNat ≠ byN s j) : crcN (turned s j x) ≠ crcN s := by
  intro e
  unfold crcN at e
  have e2 := xor_cancel e
  rw [turned_size] at e2
  refine sumN_other (turned s j x) s j ?_ ?_ s.size hj e2
  · rw [turned_at, if_pos ⟨rfl, hj⟩]; exact hx
  · intro i hi; rw [turned_at, if_neg (fun c => hi c.1)]
theorem setCell_cell (w : World) (g i k : Nat) (cs : Array Value) (t : TypeId) (fr : Nat × Nat) (v : Value) (h : w.heap[g]? = some (.cells cs t fr)) :
    (w.setCell ⟨g, i, none⟩ v).cell? ⟨g, k, none⟩ = (cs.setIfInBounds i v)[k]? := by
  simp [World.cell?, World.setCell, h, Array.getElem?_modify]
/-- What stands behind a conversion of a text into bytes, one of which is written, and back. -/
theorem bytes_turn (w : World) (s : ByteArray) (j : Nat) (x : UInt8) (hj : j < s.size) :
    ∃ cap W, (convert 9 44 (.string s)).run Try.prog w = .ok (.slice (some ⟨w.heap.size, 0, none⟩) s.size cap) W ∧
      W.cell? ⟨w.heap.size, j, none⟩ = some (.int .u8 (byN s j : Int)) ∧ W.frozen? ⟨w.heap.size, j, none⟩ = false ∧
      Below w.heap.size w (W.setCell ⟨w.heap.size, j, none⟩ (.int .u8 (x.toNat : Int))) ∧
      (convert 44 9 (.slice (some ⟨w.heap.size, 0, none⟩) s.size cap)).run Try.prog (W.setCell ⟨w.heap.size, j, none⟩ (.int .u8 (x.toNat : Int))) = .ok (.string (turned s j x)) (W.setCell ⟨w.heap.size, j, none⟩ (.int .u8 (x.toNat : Int))) := by
  have hrow := Lib.bytesWorld_at_new w 5 s
  have hget : ∀ i, i < s.size → (Lib.bytesCells w 5 s)[i]? = some (.int .u8 (byN s i : Int)) := by
    intro i hi
    have h1 := Lib.bytesWorld_cell w 5 s i hi
    rw [cell_of_row _ _ _ _ _ _ hrow] at h1
    rw [h1]
    unfold byN
    rw [dif_pos hi]
    have : s.data.toList.getD i 0 = s[i]'hi := by simp [List.getD, hi]; rfl
    rw [this]
  have hsz : s.size ≤ (Lib.bytesCells w 5 s).size := by simp [Lib.bytesCells]
  refine ⟨_, _, Lib.run_convert_string_bytes (P := Try.prog) w 9 44 5 s Try.underlying9 Try.underlying44 Try.underlying5, ?_, ?_, ?_, ?_⟩
  · rw [cell_of_row _ _ _ _ _ _ hrow, hget j hj]
  · simp [World.frozen?, hrow]; omega
  · refine Below.setCell ⟨?_, ?_, ?_, ?_, fun k hk => Lib.bytesWorld_at_old w 5 s k hk⟩ (Nat.le_refl _) _
    · rfl
    · rfl
    · rfl
    · rw [Lib.bytesWorld_size]; omega
  · have hl : (turned s j x).data.toList.length = s.size := by rw [← turned_size s j x]; simp
    have := run_convert_bytes_back (P := Try.prog) ((Lib.bytesWorld w 5 s).setCell ⟨w.heap.size, j, none⟩ (.int .u8 (x.toNat : Int))) 44 9 5 ⟨w.heap.size, 0, none⟩ (grownCap w s.size 0 5) (turned s j x).data.toList Try.underlying44 Try.underlying5 Try.underlying9
      (fun i hi => by
        have ha : (⟨w.heap.size, 0, none⟩ : Addr).add i = ⟨w.heap.size, i, none⟩ := by unfold Addr.add; split <;> simp_all
        have hi' : i < s.size := by rw [hl] at hi; exact hi
        rw [ha, setCell_cell _ _ _ _ _ _ _ _ hrow, Array.getElem?_setIfInBounds]
        have e : (turned s j x).data.toList[i].toNat = byN (turned s j x) i := by
          unfold byN; rw [dif_pos (by rw [turned_size]; exact hi')]; simp; rfl
        rw [e, turned_at]
        by_cases c : j = i
        · subst c; rw [if_pos rfl, if_pos (by omega), if_pos ⟨rfl, hj⟩]
        · rw [if_neg c, hget i hi', if_neg (fun c' => c c'.1.symm)])
    rw [hl] at this
    exact this
set_option maxHeartbeats 2000000 in
set_option maxRecDepth 100000 in
theorem walk (a0 : ByteArray) (a1 : Int) (a2 : Int) (w0 : a0.size ≤ 140737488351232) (w1 : (Lit.int .i64 a1).wf = true) (w2 : (Lit.int .u8 a2).wf = true) (w : World) :
    Calls Try.prog 7 #[.string a0, .int .i64 a1, .int .u8 a2] w fun e w' => e = .returned (.bool true) ∧ Below w.heap.size w w' := by
  have hreach := w0
  replace w0 : a0.size ≤ maxLen := by unfold maxLen; omega
  have hc := bounds_u8 w2
  have hh := hAt_bd a0 a0.size
  have hh0 : 0 ≤ hAt a0 a0.size / 4096 := by omega
  have hB := Below.refl w.heap.size w
  by_cases hz : a0.size = 0
  · have hem : a0 = ⟨#[]⟩ := by
      cases a0 with | mk d => simp [ByteArray.size] at hz; subst hz; rfl
    subst hem
    go_enter Try.func7, Try.ntmps7
    go_wp2_with (first
      | (go_at_call 21; refine (sum_any _ _ w0).mono ?_; rintro e w1 ⟨rfl, hb⟩; replace hB := hB.trans (hb.mono hB.size); clear hb)
      | (go_at_call 22; refine (sumRef_any _ _ w0).mono ?_; rintro e w1 ⟨rfl, rfl⟩)
      | (go_at_call 23; refine (hash_any _ _ w0).mono ?_; rintro e w1 ⟨rfl, rfl⟩)
      | (go_at_call 24; refine (hashRef_any _ _ w0).mono ?_; rintro e w1 ⟨rfl, rfl⟩)
      | (go_at_call 11; refine (awake_yes _).mono ?_; rintro e w1 ⟨rfl, hb⟩; replace hB := hB.trans (hb.mono hB.size); clear hb))
    go_ret
    exact ⟨rfl, hB⟩
  by_cases hc0 : a2 = 0
  · subst hc0
    go_enter Try.func7, Try.ntmps7
    go_wp2_with (first
      | (go_at_call 21; refine (sum_any _ _ w0).mono ?_; rintro e w1 ⟨rfl, hb⟩; replace hB := hB.trans (hb.mono hB.size); clear hb)
      | (go_at_call 22; refine (sumRef_any _ _ w0).mono ?_; rintro e w1 ⟨rfl, rfl⟩)
      | (go_at_call 23; refine (hash_any _ _ w0).mono ?_; rintro e w1 ⟨rfl, rfl⟩)
      | (go_at_call 24; refine (hashRef_any _ _ w0).mono ?_; rintro e w1 ⟨rfl, rfl⟩)
      | (go_at_call 11; refine (awake_yes _).mono ?_; rintro e w1 ⟨rfl, hb⟩; replace hB := hB.trans (hb.mono hB.size); clear hb))
    all_goals go_ret
    all_goals exact ⟨rfl, hB⟩
  obtain ⟨C, rfl⟩ := Int.eq_ofNat_of_zero_le hc.1
  have hne : a0.toList.isEmpty = false := by
    cases h : a0.toList with
    | nil => exact absurd (bytes_none a0 h) hz
    | cons _ _ => rfl
  have hC : ((C : Int) == 0) = false := by simp; omega
  have hn0 : (a0.size : Int) ≠ 0 := by omega
  have r0 : -(a0.size : Int) < a1.tmod a0.size ∧ a1.tmod a0.size < a0.size := by
    have h1 : (a1.tmod a0.size).natAbs < (a0.size : Int).natAbs := by rw [Int.natAbs_tmod]; exact Nat.mod_lt _ (by omega)
    omega
  obtain ⟨r1, r2⟩ := r0
  obtain ⟨j, hje⟩ : ∃ j : Nat, (j : Int) = (a1.tmod a0.size + a0.size) % a0.size := ⟨((a1.tmod a0.size + a0.size) % a0.size).toNat, Int.toNat_of_nonneg (Int.emod_nonneg _ hn0)⟩
  have hj : j < a0.size := by have := Int.emod_lt_of_pos (a1.tmod a0.size + a0.size) (by omega : (0 : Int) < a0.size); omega
  have hby := byN_lt a0 j
  obtain ⟨x, hx⟩ : ∃ x : UInt8, x = UInt8.ofNat (byN a0 j ^^^ C) := ⟨_, rfl⟩
  have hxn : x.toNat = byN a0 j ^^^ C := by
    rw [hx, UInt8.toNat_ofNat']
    have e8 : (2 : Nat) ^ 8 = 256 := by decide
    have := Nat.xor_lt_two_pow (n := 8) (x := byN a0 j) (y := C) (by omega) (by omega)
    omega
  have hxv : bits .xor .u8 (byN a0 j : Int) (C : Int) = (x.toNat : Int) := by rw [hxn]; exact u8_xor_nat _ _ hby (by omega)
  have hxd : x.toNat ≠ byN a0 j := by
    rw [hxn]; intro e
    have e2 : C = 0 := by
      have := congrArg (fun z => byN a0 j ^^^ z) e
      simp only [← Nat.xor_assoc, Nat.xor_self, Nat.zero_xor] at this
      exact this
    omega
  have hcrc := crc_turned a0 j x hj hxd
  have hcrc' : ((crcN (turned a0 j x) : Int) != (crcN a0 : Int)) = true := by simp only [bne_iff_ne, ne_eq]; omega
  have hts : (turned a0 j x).size ≤ maxLen := by rw [turned_size]; exact w0
  have hturn := fun w => bytes_turn w a0 j x hj
  have HT := Lib.hid hturn
  have HJ := Lib.hid hje
  have hjj : (a1.tmod a0.size + a0.size) % a0.size = (j : Int) := hje.symm
  obtain ⟨t, ht⟩ : ∃ t, t = turned a0 j x := ⟨_, rfl⟩
  rw [← ht] at hcrc' hts
  obtain ⟨y, hy⟩ : ∃ y : Int, y = (x.toNat : Int) := ⟨_, rfl⟩
  rw [← hy] at hxv
  have HT2 : Hid (∀ w : World, ∃ cap W, (convert 9 44 (.string a0)).run Try.prog w = .ok (.slice (some ⟨w.heap.size, 0, none⟩) a0.size cap) W ∧
      W.cell? ⟨w.heap.size, j, none⟩ = some (.int .u8 (byN a0 j : Int)) ∧ W.frozen? ⟨w.heap.size, j, none⟩ = false ∧
      Below w.heap.size w (W.setCell ⟨w.heap.size, j, none⟩ (.int .u8 y)) ∧
      (convert 44 9 (.slice (some ⟨w.heap.size, 0, none⟩) a0.size cap)).run Try.prog (W.setCell ⟨w.heap.size, j, none⟩ (.int .u8 y)) = .ok (.string t) (W.setCell ⟨w.heap.size, j, none⟩ (.int .u8 y))) := by
    rw [ht, hy]; exact hturn
  clear hje hturn HT HJ hcrc hxd hxn hx hy ht hc hc0 hz hh hn0
  go_enter Try.func7, Try.ntmps7
  go_wp2_with (first
    | (go_at_call 21; (with_reducible refine (sum_any a0 _ w0).mono ?_); rintro e w1 ⟨rfl, hb⟩; replace hB := hB.trans (hb.mono hB.size); clear hb)
    | (go_at_call 21; (with_reducible refine (sum_any t _ hts).mono ?_); rintro e w1 ⟨rfl, hb⟩; replace hB := hB.trans (hb.mono hB.size); clear hb)
    | (go_at_call 22; refine (sumRef_any _ _ w0).mono ?_; rintro e w1 ⟨rfl, rfl⟩)
    | (go_at_call 23; refine (hash_any _ _ w0).mono ?_; rintro e w1 ⟨rfl, rfl⟩)
    | (go_at_call 24; refine (hashRef_any _ _ w0).mono ?_; rintro e w1 ⟨rfl, rfl⟩)
    | (go_at_call 11; refine (awake_yes _).mono ?_; rintro e w2 ⟨rfl, hb⟩; replace hB := hB.trans (hb.mono hB.size); clear hb; obtain ⟨cap, W1, k1, k2, k3, k4, k5⟩ := HT2.out w2; replace hB := hB.trans (k4.mono hB.size); clear k4))
  go_ret
  exact ⟨rfl, hB⟩

/-! ### The row -/
set_option maxRecDepth 100000 in
theorem lifted (os : Os) (started : os.Started) (H : Type) (enc : TypeId × Value → H) :
    ReturnsInHanded {} Try.checked os 7 .any (Rows.numSumsSpec.pre6 enc Try.prog Try.f7 Rows.numSumsRow.domain false) (Rows.numSumsSpec.post enc Try.prog Try.f7 false true false false) := by
  refine returnsInHanded_of_change_sized (C := Try.checked) own started (by kernel_rfl) Try.func7
    (ChangeSpec.witness6 (enc := enc) (C := Try.checked) false ⟨#[], #[.string ByteArray.empty, .int .i64 0, .int .u8 0], []⟩ 8 (by kernel_rfl) (by kernel_rfl) (by kernel_rfl) (by kernel_rfl)) ?_
  intro W base args ds gs before hval0 hW hcnd hsz0 _
  have hval : ∀ (j : Nat) t v, Try.f7.params[j]? = some t → args[j]? = some v → Value.okWide Try.prog W .any base t v := hval0
  have hW' := hW
  obtain ⟨p, q, hA0, hV, rfl, hfz, hnd⟩ := hW
  have hA : DataW.TrodAll enc Try.prog W 0 (fun _ => true) true Try.f7.params.toList args.toList ds p := hA0
  have hsz : (DataW.weightsEach Try.prog (Try.f7.params.toList ++ Rows.numSumsSpec.plain.varTypes Try.prog) (ds ++ gs)).all (· ≤ reachBytes) = true := hsz0
  rw [Try.params7] at hA hval hsz
  obtain ⟨v0, vs0, d0, ds0, p0, q0, hargs, rfl, rfl, h0, r0⟩ := trodAll_cons hA
  obtain ⟨v1, vs1, d1, ds1, p1, q1, rfl, rfl, rfl, h1, r1⟩ := trodAll_cons r0
  obtain ⟨v2, vs2, d2, ds2, p2, q2, rfl, rfl, rfl, h2, r2⟩ := trodAll_cons r1
  obtain ⟨rfl, rfl, rfl⟩ := trodAll_nil r2
  obtain rfl : args = #[v0, v1, v2] := by cases args; simp_all
  obtain ⟨rfl, rfl⟩ := trodVars_none hV
  obtain ⟨a0, rfl, rfl, rfl, w0⟩ := open_string Try.underlying9 (hval 0 9 v0 rfl rfl) h0
  obtain ⟨a1, rfl, rfl, rfl, w1⟩ := open_int Try.underlying3 (hval 1 3 v1 rfl rfl) h1
  obtain ⟨a2, rfl, rfl, rfl, w2⟩ := open_int Try.underlying5 (hval 2 5 v2 rfl rfl) h2
  have s0 : a0.size ≤ 140737488351232 := by have := sized_string hsz (j := 0) (t := 9) rfl rfl; simpa [reachBytes] using this
  clear hA0 hval0
  simp only [List.append_nil] at hW'
  refine (walk a0 a1 a2 s0 w1 w2 W).mono fun e W' ⟨he, hg⟩ => ?_
  subst he
  exact ⟨_, rfl, _, _, _, [], _, [], hW', (trodAll_cons_mk (shut_bool Try.underlying4 _) trodAll_mk0), (trodAll_cons_mk (shut_string Try.underlying9 w0) (trodAll_cons_mk (shut_int Try.underlying3 w1) (trodAll_cons_mk (shut_int Try.underlying5 w2) trodAll_mk0))), rfl, hg.frame _, fun h => by cases h⟩

theorem over : Rows.numSumsRow.holds Try.pinned (OpenSpec.ofChange Rows.numSumsSpec) :=
  OpenClaim.holds_of_wide 7 Try.f7 rfl rfl rfl rfl rfl rfl rfl ⟨rfl, rfl, rfl, rfl, rfl⟩ rfl rfl rfl rfl rfl (by kernel_rfl) Try.func7 (by kernel_rfl)
    (of_decide_eq_true (by kernel_rfl)) (by unfold Func.isWrapper; first | (rw [if_pos (by decide +kernel)]; kernel_rfl) | (rw [if_neg (by decide +kernel)]; exact ⟨rfl, rfl⟩))
    (fun os started H enc _ => lifted os started H enc)

/-- The statement. -/
theorem proved : Rows.NumSumsSaid :=
  over
#print axioms proved
end Go.Proofs.Ytmfedhccmmgjaaa.numSums
