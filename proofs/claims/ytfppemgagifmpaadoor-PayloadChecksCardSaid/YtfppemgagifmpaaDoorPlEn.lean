/- payload's Encode. Conditions: those that each theorem names. -/
import Derived.Test.YtfppemgagifmpaaDoorPlBy
namespace Go.Proofs.YtfppemgagifmpaaDoor
set_option linter.unusedVariables false
open Go Go.RowKit Go.Shelf Pl
theorem u64_wrap (n : Int) : IntKind.u64.wrap n = (u64N n : Int) := by
  have : 0 ≤ IntKind.u64.wrap n := by show 0 ≤ n % 18446744073709551616; omega
  unfold u64N
  omega
theorem u64_lt (n : Int) : u64N n < 256 ^ 8 := by
  have h : IntKind.u64.wrap n = n % 18446744073709551616 := rfl
  have h8 : (256 : Nat) ^ 8 = 18446744073709551616 := by decide
  have := u64_wrap n
  omega
theorem value_any (B b : Nat) (l : List UInt8) (k n : Int) (t : ByteArray) (w : World) (G : Gp w) (h : WrAt B b (Lib.byteCells l) w) (hv : valB ⟨k, n, t⟩ = true) (hl : l.length ≤ 65535) (hB : B ≤ w.heap.size) :
    Calls Tryd.prog 38 #[.pointer (some ⟨b, 0, none⟩), .agg #[.int .i64 k, .int .i64 n, .string t]] w fun e w' => e = .returned (.tuple #[]) ∧ (WrAt B b (Lib.byteCells (l ++ bVal ⟨k, n, t⟩)) w' ∧ Kw B b w w') := by
  unfold valB at hv
  split at hv
  · rename_i hk
    simp only [Bool.and_eq_true, decide_eq_true_eq] at hv hk
    obtain ⟨q, hq⟩ : ∃ q : Nat, k = q := ⟨k.toNat, by omega⟩
    subst hq
    simp only [Int.toNat_natCast] at hv
    by_cases h2 : q = 2
    · subst h2
      have e : bVal ⟨((2 : Nat) : Int), n, t⟩ = fixL 1 2 ++ fixL 2 t.size ++ t.data.toList := if_pos rfl
      rw [e, ← List.append_assoc, ← List.append_assoc]
      have ht : t.size ≤ 256 := by have := hv.2.2.1; have h3 : (szT 2).2.2.2 = 256 := rfl; omega
      exact value_word B b l n t w G h ht hl hB
    · have e : bVal ⟨(q : Int), n, t⟩ = fixL 1 q ++ fixL (szT q).1.toNat (u64N n) := by
        unfold bVal
        rw [if_neg (by show ¬ (q : Int) = 2; omega)]
        rfl
      rw [e, ← List.append_assoc]
      have hq : q = 1 ∨ q = 3 := by omega
      rcases hq with rfl | rfl
      · exact value_num B b l 1 8 (u64N n) n t w G h (by omega) (by omega) (by omega) rfl (by omega) (by omega) (u64_lt n) (u64_wrap n) hl hB
      · refine value_num B b l 3 1 (u64N n) n t w G h (by omega) (by omega) (by omega) rfl (by omega) (by omega) ?_ (u64_wrap n) hl hB
        have h0 : (szT 3).2.1 = 0 := rfl
        have h1 : (szT 3).2.2.1 = 1 := rfl
        have h3 : IntKind.u64.wrap n = n % 18446744073709551616 := rfl
        have := u64_wrap n
        have a := hv.1
        have b := hv.2.1
        omega
  · cases hv
theorem wr_new (w : World) : WrAt w.heap.size w.heap.size (Lib.byteCells []) (w.alloc (.cells #[.pointer none, .slice none 0 0] 79)) :=
  .inl ⟨Nat.le_refl _, _, heap_last _ _, World.ownsRow_nil _ _ _ _, by simp [Value.ownBlock]⟩
def notMay : Value := .tuple #[.string ⟨#[]⟩, .int .i64 120]
set_option maxHeartbeats 1000000 in
set_option maxRecDepth 100000 in
theorem encode_no (i : Int) (vv fv : Value) (V : List Vec) (F : List Fld) (w : World) (G : Gp w) (hv : VecsAt w vv V) (hf : FldsAt w fv F) (kv : VecsOk V) (kf : FldsOk F) (hm : ptMay ⟨i, V, F⟩ = false) :
    Calls Tryd.prog 12 #[.agg #[.int .i64 i, vv, fv]] w fun e w' => e = .returned notMay ∧ Below w.heap.size w w' := by
  have HM := Lib.hid (fun W (g : Below w.heap.size w W) => ptMay_any i vv fv V F W (G.fresh g) (hv.below g) (hf.below g) kv kf)
  rw [hm] at HM
  obtain ⟨pv, cv, rfl⟩ := hv.form
  obtain ⟨pf, cf, rfl⟩ := hf.form
  clear hv hf kv kf hm
  unfold notMay
  obtain ⟨d0, d1, d2⟩ := cells3 w (.int .i64 i) (.slice pv V.length cv) (.slice pf F.length cf) 29
  have HB := Lib.hid (fresh_alloc w (.cells #[.int .i64 i, .slice pv V.length cv, .slice pf F.length cf] 29))
  go_enter Tryd.func12, Tryd.ntmps12
  go_wp2_with fail
  refine (HM.out _ HB.out).mono ?_
  rintro e w1 ⟨rfl, b1⟩
  have HB1 := Lib.hid (HB.out.trans (b1.mono HB.out.size))
  clear b1 d0 d1 d2
  go_wp2_with fail
  go_ret2
  exact ⟨rfl, HB1.out⟩
set_option maxHeartbeats 4000000 in
set_option maxRecDepth 100000 in
theorem encode_yes (i : Int) (vv fv : Value) (V : List Vec) (F : List Fld) (w : World) (G : Gp w) (hv : VecsAt w vv V) (hf : FldsAt w fv F) (kv : VecsOk V) (kf : FldsOk F) (hm : ptMay ⟨i, V, F⟩ = true) :
    Calls Tryd.prog 12 #[.agg #[.int .i64 i, vv, fv]] w fun e w' => e = .returned (.tuple #[.string ⟨(bPt ⟨i, V, F⟩).toArray⟩, .int .i64 0]) ∧ Below w.heap.size w w' := by
  have HP := Lib.hid (ptIs hm)
  have HM := Lib.hid (fun W (g : Below w.heap.size w W) => ptMay_any i vv fv V F W (G.fresh g) (hv.below g) (hf.below g) kv kf)
  rw [hm] at HM
  have HVA := Lib.hid (fun W (g : Below w.heap.size w W) => hv.below g)
  have HFA := Lib.hid (fun W (g : Below w.heap.size w W) => hf.below g)
  have HG := Lib.hid (fun W (g : Below w.heap.size w W) => G.fresh g)
  obtain ⟨pv, cv, rfl⟩ := hv.form
  obtain ⟨pf, cf, rfl⟩ := hf.form
  have HVR := Lib.hid hv
  have HFR := Lib.hid hf
  clear hv hf kv kf hm G
  have HE := Lib.hid (preF_all ⟨i, V, F⟩)
  have HON : Hid (bPt ⟨i, V, F⟩ ≠ []) := Lib.hid (fun h => by have := congrArg List.length h; unfold bPt at this; simp only [List.length_append, fixL_length, List.length_nil] at this; omega)
  have HV0 := Lib.hid (preV_all ⟨i, V, F⟩)
  generalize bPt ⟨i, V, F⟩ = out at *
  obtain ⟨d0, d1, d2⟩ := cells3 w (.int .i64 i) (.slice pv V.length cv) (.slice pf F.length cf) 29
  have HB := Lib.hid (fresh_alloc w (.cells #[.int .i64 i, .slice pv V.length cv, .slice pf F.length cf] 29))
  go_enter Tryd.func12, Tryd.ntmps12
  go_wp2_with fail
  refine (HM.out _ HB.out).mono ?_
  rintro e w2 ⟨rfl, b2⟩
  have HB2 := Lib.hid (HB.out.trans (b2.mono HB.out.size))
  have X2 := Lib.hid ((b2.block w.heap.size (by simp)).trans (heap_last w (.cells #[.int .i64 i, .slice pv V.length cv, .slice pf F.length cf] 29)))
  have S2 : Hid (w.heap.size < w2.heap.size) := Lib.hid (Nat.lt_of_lt_of_le (by simp) b2.size)
  have c0 := fun o => (cells3_new X2.out o).1
  have c1 := fun o => (cells3_new X2.out o).2.1
  have c2 := fun o => (cells3_new X2.out o).2.2
  clear b2 d0 d1 d2
  go_wp2_with fail
  have HW3 := Lib.hid (wr_new w2)
  have HB3 := Lib.hid (HB2.out.alloc HB2.out.size (.cells #[.pointer none, .slice none 0 0] 79))
  have X3 := Lib.hid ((heap_old w2 (.cells #[.pointer none, .slice none 0 0] 79) S2.out).trans X2.out)
  have S3 : Hid (w2.heap.size ≤ (w2.alloc (.cells #[.pointer none, .slice none 0 0] 79)).heap.size) := Lib.hid (by simp)
  generalize w2.alloc (.cells #[.pointer none, .slice none 0 0] 79) = w3 at *
  generalize w2.heap.size = b at *
  clear c0 c1 c2 X2 HB2 HM HB
  have HPC := Lib.hid (fun W (g : Kw b b w3 W) => cells3_of ((g.below.block w.heap.size S2.out).trans X3.out))
  have HBW := Lib.hid (fun W (g : Kw b b w3 W) => HB3.out.trans (g.below.mono (Nat.le_of_lt S2.out)))
  have HSZ := Lib.hid (fun W (g : Kw b b w3 W) => Nat.le_trans S3.out g.size)
  obtain ⟨I, hI⟩ : ∃ I : Nat, i = I := ⟨i.toNat, by have := HP.out.id1; simp only at this; omega⟩
  subst hI
  have HID : Hid (I < 256 ^ 8) := Lib.hid (by have := HP.out.id2; unfold maxId at this; simp only at this; omega)
  have q0 := cells3_of X3.out
  refine (number_any b b [] I I 8 w3 HW3.out (by omega) (by omega) HID.out (by show (I : Int) % 18446744073709551616 = I; have := HID.out; omega) (by simp) S3.out).mono ?_
  rintro e w4 ⟨rfl, h4, k4⟩
  have K4 := Lib.hid k4
  have H4 := Lib.hid h4
  obtain ⟨c0, c1, c2⟩ := HPC.out _ k4
  clear k4 h4 q0
  have HNV : Hid (V.length ≤ 4) := Lib.hid HP.out.nv
  go_wp2_with fail
  refine (number_any b b _ V.length V.length 1 w4 H4.out (by omega) (by omega) (by have := HNV.out; omega) (by show (V.length : Int) % 18446744073709551616 = V.length; have := HNV.out; omega) (by simp [fixL_length]) (HSZ.out _ K4.out)).mono ?_
  rintro e w5 ⟨rfl, h5, k5⟩
  have K5 := Lib.hid (K4.out.trans k5)
  have H5 : Hid (WrAt b b (Lib.byteCells (preV ⟨I, V, F⟩ 0)) w5) := Lib.hid (by
    have e : preV ⟨(I : Int), V, F⟩ 0 = [] ++ fixL 8 I ++ fixL 1 V.length := by unfold preV; simp
    rw [e]; exact h5)
  obtain ⟨c0, c1, c2⟩ := HPC.out _ K5.out
  clear k5 h5 K4 H4
  go_wp2_with fail
  have HVN : Hid (V ≠ []) := Lib.hid (fun e => by have := HP.out.nv1; rw [e] at this; simp at this)
  rcases HVR.out with ⟨e, _⟩ | ⟨bv, off, c, S, hsl, hbv, hcv, hiv⟩
  · exact absurd e HVN.out
  · have e := hsl
    injection e with e1 e2 e3
    subst e1 e3
    clear hsl e2
    have HCV := Lib.hid hcv
    have HIV := Lib.hid hiv
    have HBV := Lib.hid hbv
    clear hcv hiv hbv c0 c1 c2
    go_loopw [24] (fun x wr => ∃ k : Nat, k ≤ V.length ∧ x = .int .i64 k ∧ WrAt b b (Lib.byteCells (preV ⟨I, V, F⟩ k)) wr ∧ Kw b b w3 wr) (fun x _ => V.length - (intOf x).toNat)
    case atStart => exact ⟨0, Nat.zero_le _, rfl, H5.out, K5.out⟩
    case round =>
      obtain ⟨k, hk, rfl, hw, hkw⟩ := hrel
      have HWR := Lib.hid hw
      have HK := Lib.hid hkw
      have HLW := Lib.hid (HBW.out _ hkw)
      have HZB := Lib.hid (HSZ.out _ hkw)
      have HLT := Lib.hid hw.lt
      have HPL := Lib.hid (preV_len HP.out k)
      clear hw hkw
      by_cases hlt : k < V.length
      · obtain ⟨c0, c1⟩ := HCV.out wr (HLW.out.block bv HBV.out) k hlt
        have hx : V[k]? = some V[k] := List.getElem?_eq_getElem hlt
        have hmem := List.getElem_mem hlt
        have hin := (HIV.out k hlt)
        have hnm := HP.out.vn _ hmem
        have hvv := HP.out.vv _ hmem
        generalize hcc : V[k] = x at hx c0 c1 hin hnm hvv
        obtain ⟨nm, ns⟩ := x
        simp only at c0 c1 hin hnm hvv
        generalize S k = sv at *
        have HIN := Lib.hid hin
        obtain ⟨p, cp, rfl, -⟩ := hin.form
        have HNX := Lib.hid (preV_next (p := ⟨(I : Int), V, F⟩) hx)
        have HNM := Lib.hid hnm
        have HVV := Lib.hid hvv
        have z := heap_last wr (.cells #[.string nm, .slice p ns.length cp] 43)
        have d0 : (wr.alloc (.cells #[.string nm, .slice p ns.length cp] 43)).cell? ⟨wr.heap.size, 0, none⟩ = some (.string nm) := by rw [Lib.cell_of_heap z]; rfl
        have d1 : (wr.alloc (.cells #[.string nm, .slice p ns.length cp] 43)).cell? ⟨wr.heap.size, 1, none⟩ = some (.slice p ns.length cp) := by rw [Lib.cell_of_heap z]; rfl
        have Z := Lib.hid z
        have HKA := Lib.hid (HK.out.alloc HZB.out (.cells #[.string nm, .slice p ns.length cp] 43))
        have HWA := Lib.hid (HWR.out.below (fresh_alloc wr (.cells #[.string nm, .slice p ns.length cp] 43)))
        clear z hx hmem hin hnm hvv hcc
        go_wp2_with fail
        refine (text_any b b _ nm 1 _ HWA.out (by omega) (by omega) (by have := HNM.out; omega) (by have := HNM.out; omega) (by have := HPL.out; omega) (HSZ.out _ HKA.out)).mono ?_
        rintro e wa ⟨rfl, ha, ka⟩
        have za := Lib.hid (ka.block Z.out (by have := HLT.out; omega) (by decide))
        have e0 : wa.cell? ⟨wr.heap.size, 0, none⟩ = some (.string nm) := by rw [Lib.cell_of_heap za.out]; rfl
        have e1 : wa.cell? ⟨wr.heap.size, 1, none⟩ = some (.slice p ns.length cp) := by rw [Lib.cell_of_heap za.out]; rfl
        have HA := Lib.hid ha
        have KA := Lib.hid (HKA.out.trans ka)
        clear ha ka d0 d1 c0 c1
        go_wp2_with fail
        refine (number_any b b _ ns.length ns.length 1 wa HA.out (by omega) (by omega) (by have := HVV.out.2.1; omega) (by show (ns.length : Int) % 18446744073709551616 = ns.length; have := HVV.out.2.1; omega) (by have := HPL.out; have := HNM.out; simp only [List.length_append, fixL_length, ← Lib.size_eq]; omega) (HSZ.out _ KA.out)).mono ?_
        rintro e wb ⟨rfl, hb, kb⟩
        have zb := Lib.hid (kb.block za.out (by have := HLT.out; omega) (by decide))
        have f0 : wb.cell? ⟨wr.heap.size, 0, none⟩ = some (.string nm) := by rw [Lib.cell_of_heap zb.out]; rfl
        have f1 : wb.cell? ⟨wr.heap.size, 1, none⟩ = some (.slice p ns.length cp) := by rw [Lib.cell_of_heap zb.out]; rfl
        have HBB := Lib.hid hb
        have KB := Lib.hid (KA.out.trans kb)
        clear hb kb e0 e1
        obtain ⟨L0, hL0⟩ : ∃ L0, L0 = preV ⟨I, V, F⟩ k ++ fixL 1 nm.size ++ nm.data.toList ++ fixL 1 ns.length := ⟨_, rfl⟩
        have HL0 : Hid (L0.length ≤ 1100) := Lib.hid (by rw [hL0]; have := HPL.out; have := HNM.out; simp only [List.length_append, fixL_length, ← Lib.size_eq]; omega)
        have HNX2 : Hid (preV ⟨I, V, F⟩ (k + 1) = L0 ++ bInts ns) := Lib.hid (by rw [HNX.out, hL0]; unfold bVec; simp)
        rw [← hL0] at HBB
        clear hL0
        rcases HIN.out with ⟨e, _⟩ | ⟨bi, oi, ci, hsl, hbi, hci⟩
        · exact absurd HVV.out.1 (by rw [e]; simp)
        · injection hsl with e1 e2 e3
          subst e1 e3
          clear e2
          have HCI := Lib.hid hci
          have HBI := Lib.hid hbi
          clear hci hbi
          go_wp2_with fail
          go_loopw [38] (fun x wi => ∃ q : Nat, q ≤ ns.length ∧ x = .int .i64 q ∧ WrAt b b (Lib.byteCells (L0 ++ bInts (ns.take q))) wi ∧ Kw b b w3 wi) (fun x _ => ns.length - (intOf x).toNat)
          case atStart => exact ⟨0, Nat.zero_le _, rfl, by simpa [bInts] using HBB.out, KB.out⟩
          case round =>
            obtain ⟨q, hq, rfl, hw, hkw⟩ := hrel
            have HWQ := Lib.hid hw
            have HKQ := Lib.hid hkw
            clear hw hkw
            by_cases hlq : q < ns.length
            · have g0 := HCI.out wr (((HBW.out _ HKQ.out)).block bi HBI.out) q hlq
              have hx : ns[q]? = some ns[q] := List.getElem?_eq_getElem hlq
              have hmem := HVV.out.2.2 _ (List.getElem_mem hlq)
              generalize hcc : ns[q] = n at hx g0 hmem
              have HBX := Lib.hid (bInts_next hx)
              obtain ⟨m, hm⟩ : ∃ m : Nat, n + 32768 = m := ⟨(n + 32768).toNat, by omega⟩
              have HM2 : Hid ((n + 32768).toNat = m ∧ m < 65536) := Lib.hid (by omega)
              have HQL : Hid ((L0 ++ bInts (ns.take q)).length ≤ 2000) := Lib.hid (by
                have := HL0.out
                have := HVV.out.2.1
                rw [List.length_append, bInts_len, List.length_take]
                omega)
              clear hx hmem hcc
              go_wp2_with fail
              have hwm : wrap64 (m : Int) = m := by have := HM2.out.2; unfold wrap64; omega
              refine (number_any b b _ (wrap64 (m : Int)) m 2 wr HWQ.out (by omega) (by omega) (by have := HM2.out.2; omega) (by rw [hwm]; show (m : Int) % 18446744073709551616 = m; have := HM2.out.2; omega) (by have := HQL.out; omega) (HSZ.out _ HKQ.out)).mono ?_
              rintro e wj ⟨rfl, hj, kj⟩
              have HJ : Hid (WrAt b b (Lib.byteCells (L0 ++ bInts (ns.take (q + 1)))) wj) := Lib.hid (by
                rw [HBX.out, HM2.out.1, ← List.append_assoc]
                exact hj)
              have KJ := Lib.hid (HKQ.out.trans kj)
              clear hj kj hwm
              go_wp2_with fail
              go_roundw
              case rel => exact ⟨q + 1, by omega, congrArg _ (wrap_s (by unfold maxLen; have := HVV.out.2.1; omega) hlq), HJ.out, KJ.out⟩
              case measure =>
                rw [wrap_s (by unfold maxLen; have := HVV.out.2.1; omega) hlq]
                exact int_less hlq
            · obtain rfl : q = ns.length := by omega
              have HJ : Hid (WrAt b b (Lib.byteCells (preV ⟨I, V, F⟩ (k + 1))) wr) := Lib.hid (by
                rw [HNX2.out]
                have := HWQ.out
                rwa [List.take_length] at this)
              go_wp2_with fail
              go_roundw
              case rel => exact ⟨k + 1, by omega, congrArg _ (wrap_s (by unfold maxLen; have := HNV.out; omega) hlt), HJ.out, HKQ.out⟩
              case measure =>
                rw [wrap_s (by unfold maxLen; have := HNV.out; omega) hlt]
                exact int_less hlt
      · obtain rfl : k = V.length := by omega
        obtain ⟨c0, c1, c2⟩ := HPC.out _ HK.out
        have HNF : Hid (F.length ≤ 16) := Lib.hid HP.out.nf
        go_wp2_with fail
        refine (number_any b b _ F.length F.length 1 wr HWR.out (by omega) (by omega) (by have := HNF.out; omega) (by show (F.length : Int) % 18446744073709551616 = F.length; have := HNF.out; omega) (by have := HPL.out; omega) (HSZ.out _ HK.out)).mono ?_
        rintro e w6 ⟨rfl, h6, k6⟩
        have K6 := Lib.hid (HK.out.trans k6)
        have H6 : Hid (WrAt b b (Lib.byteCells (preF ⟨I, V, F⟩ 0)) w6) := Lib.hid (by
          have e := HV0.out
          rw [← e]; exact h6)
        clear c0 c1 c2 k6 h6 HLW HZB HLT HPL HWR HK
        obtain ⟨c0, c1, c2⟩ := HPC.out _ K6.out
        go_wp2_with fail
        clear c0 c1 c2
        go_loopw [54] (fun x wr => ∃ k : Nat, k ≤ F.length ∧ x = .int .i64 k ∧ WrAt b b (Lib.byteCells (preF ⟨I, V, F⟩ k)) wr ∧ Kw b b w3 wr) (fun x _ => F.length - (intOf x).toNat)
        case atStart => exact ⟨0, Nat.zero_le _, rfl, H6.out, K6.out⟩
        case round =>
          obtain ⟨k, hk, rfl, hw, hkw⟩ := hrel
          have HWR := Lib.hid hw
          have HK := Lib.hid hkw
          have HLW := Lib.hid (HBW.out _ hkw)
          have HZB := Lib.hid (HSZ.out _ hkw)
          have HLT := Lib.hid hw.lt
          have HPL := Lib.hid (preF_len HP.out k)
          clear hw hkw
          by_cases hlt : k < F.length
          · rcases HFR.out with ⟨e, _⟩ | ⟨bf, of, cf', hsl, hbf, hcf⟩
            · rw [e] at hlt; simp at hlt
            · injection hsl with e1 e2 e3
              subst e1 e3
              clear e2
              obtain ⟨c0, c1, c2, c3⟩ := hcf wr (HLW.out.block bf hbf) k hlt
              have hx : F[k]? = some F[k] := List.getElem?_eq_getElem hlt
              have hmem := List.getElem_mem hlt
              have hnm := HP.out.fn _ hmem
              have hvv := HP.out.fv _ hmem
              generalize hcc : F[k] = x at hx c0 c1 c2 c3 hnm hvv
              obtain ⟨nm, ⟨kd, n, t⟩⟩ := x
              simp only at c0 c1 c2 c3 hnm hvv
              have HNX := Lib.hid (preF_next (p := ⟨(I : Int), V, F⟩) hx)
              have HNM := Lib.hid hnm
              have HVV := Lib.hid hvv
              have z := heap_last wr (.cells #[.string nm, .int .i64 kd, .int .i64 n, .string t] 47)
              obtain ⟨d0, d1, d2, d3⟩ := cells4_of z
              have Z := Lib.hid z
              have HKA := Lib.hid (HK.out.alloc HZB.out (.cells #[.string nm, .int .i64 kd, .int .i64 n, .string t] 47))
              have HWA := Lib.hid (HWR.out.below (fresh_alloc wr (.cells #[.string nm, .int .i64 kd, .int .i64 n, .string t] 47)))
              clear z hx hmem hnm hvv hcc hcf hbf
              go_wp2_with fail
              refine (text_any b b _ nm 1 _ HWA.out (by omega) (by omega) (by have := HNM.out; omega) (by have := HNM.out; omega) (by have := HPL.out; omega) (HSZ.out _ HKA.out)).mono ?_
              rintro e wa ⟨rfl, ha, ka⟩
              have za := Lib.hid (ka.block Z.out (by have := HLT.out; omega) (by decide))
              obtain ⟨e0, e1, e2, e3⟩ := cells4_of za.out
              have HA := Lib.hid ha
              have KA := Lib.hid (HKA.out.trans ka)
              clear ha ka d0 d1 d2 d3 c0 c1 c2 c3
              go_wp2_with fail
              refine (value_any b b _ kd n t wa (HG.out _ (HBW.out _ KA.out)) HA.out HVV.out (by have := HPL.out; have := HNM.out; simp only [List.length_append, fixL_length, ← Lib.size_eq]; omega) (HSZ.out _ KA.out)).mono ?_
              rintro e wb ⟨rfl, hb, kb⟩
              have HJ : Hid (WrAt b b (Lib.byteCells (preF ⟨I, V, F⟩ (k + 1))) wb) := Lib.hid (by
                rw [HNX.out]
                unfold bFld
                simp only [← List.append_assoc]
                exact hb)
              have KJ := Lib.hid (KA.out.trans kb)
              clear hb kb e0 e1 e2 e3
              go_wp2_with fail
              go_roundw
              case rel => exact ⟨k + 1, by omega, congrArg _ (wrap_s (by unfold maxLen; have := HNF.out; omega) hlt), HJ.out, KJ.out⟩
              case measure =>
                rw [wrap_s (by unfold maxLen; have := HNF.out; omega) hlt]
                exact int_less hlt
          · obtain rfl : k = F.length := by omega
            have HWO : Hid (WrAt b b (Lib.byteCells out) wr) := Lib.hid (by
              have := HWR.out
              have e := HE.out
              rwa [e] at this)
            go_wp2_with fail
            refine (wlaid_any b b out wr HWO.out ?_).mono ?_
            · exact HON.out
            · rintro e wz ⟨rfl, bz⟩
              have HBZ := Lib.hid (HLW.out.trans (bz.mono (Nat.le_of_lt S2.out)))
              clear bz
              go_wp2_with fail
              go_ret2
              exact ⟨rfl, HBZ.out⟩
end Go.Proofs.YtfppemgagifmpaaDoor
