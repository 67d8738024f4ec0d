/- The document's own answers' call Parse. Conditions: those that each theorem names. -/
import Derived.Test.YtihcihpndckfjabGreatDoorHtQf
namespace Go.Proofs.YtihcihpndckfjabGreatDoor
set_option linter.unusedVariables false
open Go Go.RowKit Go.Shelf Ht

/-- What Parse answers. -/
def ParseP (l : List UInt8) (w : World) (e : Ending) (w' : World) : Prop := e = .returned (parseV l) ∧ Below w.heap.size w w'
theorem ParseP.no {l : List UInt8} {w w' : World} {e : Int} (h : parse l = (([], [], []), e)) (hb : Below w.heap.size w w') : ParseP l w (.returned (.tuple #[.agg #[.string ⟨#[]⟩, .string ⟨#[]⟩, .string ⟨#[]⟩], .int .i64 e])) w' := by
  refine ⟨?_, hb⟩
  unfold parseV reqV
  rw [h]
  rfl
theorem ParseP.yes {l m p b : List UInt8} {w w' : World} (h : parse l = ((m, p, b), 0)) (hb : Below w.heap.size w w') : ParseP l w (.returned (.tuple #[.agg #[.string (B m), .string (B p), .string (B b)], .int .i64 0])) w' := by
  refine ⟨?_, hb⟩
  unfold parseV reqV
  rw [h]
/-- A world with the request's block at K behind the result's. -/
structure Rq (w : World) (K : Nat) (m p : ByteArray) (x : World) : Prop where
  pa : Pa w x
  lt : w.heap.size < K
  req : x.heap[K]? = some (.cells #[.string m, .string p, .string ⟨#[]⟩] 23 (0, 0))
theorem Rq.then {w x y : World} {K : Nat} {m p : ByteArray} (h : Rq w K m p x) (g : Below x.heap.size x y) : Rq w K m p y :=
  ⟨h.pa.then g, h.lt, (g.block _ (Array.getElem?_eq_some_iff.1 h.req).1).trans h.req⟩
theorem Pa.lt {w x : World} (h : Pa w x) : w.heap.size < x.heap.size := (Array.getElem?_eq_some_iff.1 h.res).1
theorem Rq.new {w x : World} (h : Pa w x) (m p : ByteArray) : Rq w x.heap.size m p (x.alloc (.cells #[.string m, .string p, .string ⟨#[]⟩] 23)) :=
  ⟨h.then (below_alloc x _), h.lt, heap_alloc_new _ _⟩
/-- Where the loop over the lines stands. -/
def RpR (s : ByteArray) (i : Nat) (R : List UInt8) (w : World) (K : Nat) (m p : ByteArray) (q : Nat) (z : Int) (t : Bool) (wr : World) : Prop := PsR s.data.toList i R q z t ∧ Rq w K m p wr
set_option maxHeartbeats 2000000 in
set_option maxRecDepth 100000 in
theorem rparse_any (s : ByteArray) (w : World) (hs : s.size ≤ 16777215) (G : Gh w) :
    Calls Tryz.prog 7 #[.string s] w (ParseP s.data.toList w) := by
  have P0 := Lib.hid (Pa.new G)
  obtain ⟨d0, d1, d2, k0, k1, k2⟩ := P0.out.cells
  have H1 : Hid (∀ w, Calls Tryz.prog 19 #[.string s, .string ⟨#[13, 10, 13, 10]⟩, .int .i64 0] w fun e w' => e = .returned (.int .i64 (Lib.index s.data.toList hend)) ∧ w' = w) :=
    Lib.hid (fun w => by rw [← find_zero]; exact rfind_any s ⟨#[13, 10, 13, 10]⟩ 0 hs (by decide) (by decide) (Nat.zero_le _) w)
  rcases index_two s.data.toList hend with h1 | ⟨i, h1⟩
  · have HE := Lib.hid (parse_miss h1)
    rw [h1] at H1
    rw [← Lib.size_eq] at HE
    clear h1 G
    by_cases hb : (4096 : Int) < s.size
    · have HE2 := Lib.hid (HE.out.trans (by rw [if_pos (by omega)]))
      clear HE
      go_enter Tryz.func7, Tryz.ntmps7
      go_wp2_with fail
      refine (H1.out _).mono ?_
      rintro e w1 ⟨rfl, rfl⟩
      go_wp2_with fail
      refine bodyPost_ret (v := .tuple #[.agg #[.string ⟨#[]⟩, .string ⟨#[]⟩, .string ⟨#[]⟩], .int .i64 41]) (by simp [results, Tryz.results7, go_sem, d0, d1, d2]) rfl (ParseP.no HE2.out P0.out.below)
    · have HE2 := Lib.hid (HE.out.trans (by rw [if_neg (by omega)]))
      clear HE
      go_enter Tryz.func7, Tryz.ntmps7
      go_wp2_with fail
      refine (H1.out _).mono ?_
      rintro e w1 ⟨rfl, rfl⟩
      go_wp2_with fail
      refine bodyPost_ret (v := .tuple #[.agg #[.string ⟨#[]⟩, .string ⟨#[]⟩, .string ⟨#[]⟩], .int .i64 40]) (by simp [results, Tryz.results7, go_sem, d0, d1, d2]) rfl (ParseP.no HE2.out P0.out.below)
  rw [h1] at H1
  obtain ⟨a, ha, -, hai, hoa, -⟩ := line_end (k := 0) (occ_of h1).2.1 (Nat.zero_le _)
  obtain ⟨hlen, -, -, hpar⟩ := parse_hit h1 ha
  have hlen' : i + 4 ≤ s.size := by rw [Lib.size_eq]; exact hlen
  have H2 : Hid (∀ w, Calls Tryz.prog 19 #[.string s, .string ⟨#[13, 10]⟩, .int .i64 0] w fun e w' => e = .returned (.int .i64 a) ∧ w' = w) :=
    Lib.hid (fun w => by rw [← ha]; exact rfind_any s ⟨#[13, 10]⟩ 0 hs (by decide) (by decide) (Nat.zero_le _) w)
  have HI := Lib.hid h1
  have HP := Lib.hid hpar
  have HOA := Lib.hid hoa
  have j1 : (i : Int) + 4 ≤ s.size := by omega
  have j2 : (a : Int) ≤ i := by omega
  clear h1 ha hpar hoa hlen
  by_cases hb : (4096 : Int) < (i : Int) + 4
  · have HE := Lib.hid (HP.out.trans (if_pos (by omega)))
    clear HP G
    go_enter Tryz.func7, Tryz.ntmps7
    go_wp2_with fail
    refine (H1.out _).mono ?_
    rintro e w1 ⟨rfl, rfl⟩
    go_wp2_with fail
    refine bodyPost_ret (v := .tuple #[.agg #[.string ⟨#[]⟩, .string ⟨#[]⟩, .string ⟨#[]⟩], .int .i64 41]) (by simp [results, Tryz.results7, go_sem, d0, d1, d2]) rfl (ParseP.no HE.out P0.out.below)
  have HP1 := Lib.hid (HP.out.trans (if_neg (by omega)))
  have ht := take_B s a (by omega)
  have HFI : Hid (∀ w, Gh w → Calls Tryz.prog 20 #[.string (B (s.data.toList.take a))] w (FirstV (s.data.toList.take a) w)) :=
    Lib.hid (fun w G => by have := rfirst_any (B (s.data.toList.take a)) (by rw [B_size, List.length_take]; omega) w G; rwa [B_data] at this)
  have hps := PsR.new hai HOA.out
  generalize (s.data.toList.take (i + 4)).drop (a + 2) = R at *
  generalize s.data.toList.take a = F at *
  have HPS := Lib.hid hps
  have hds := drop_B s (i + 4)
  have hdl : ((s.data.toList.length - (i + 4) : Nat) : Int) = (s.size : Int) - i - 4 := by rw [← Lib.size_eq]; omega
  have HDL := Lib.hid hdl
  clear HP hps hdl hai G
  go_enter Tryz.func7, Tryz.ntmps7
  go_wp2_with fail
  refine (H1.out _).mono ?_
  rintro e w1 ⟨rfl, rfl⟩
  go_wp2_with fail
  refine (H2.out _).mono ?_
  rintro e w1 ⟨rfl, rfl⟩
  go_wp2_with fail
  refine (HFI.out _ P0.out.gh).mono ?_
  rintro e w1 ⟨m, p, ok, rfl, hok, hmp, hb1⟩
  have P1 := Lib.hid (P0.out.then hb1)
  have Q1 := Lib.hid (Rq.new P1.out m p)
  clear hb1
  clear d0 d1 d2 k0 k1 k2
  cases ok with
  | false =>
    have HE := Lib.hid (HP1.out.trans (if_pos hok))
    have hc := fun o => (P1.out.then (below_alloc w1 o)).cells
    have d0 := fun o => (hc o).1
    have d1 := fun o => (hc o).2.1
    have d2 := fun o => (hc o).2.2.1
    have k0 := fun o => (hc o).2.2.2.1
    have k1 := fun o => (hc o).2.2.2.2.1
    have k2 := fun o => (hc o).2.2.2.2.2
    have HB := Lib.hid (below_three Q1.out.pa.below)
    clear hok hmp hc
    go_wp2_with fail
    refine bodyPost_ret (v := .tuple #[.agg #[.string ⟨#[]⟩, .string ⟨#[]⟩, .string ⟨#[]⟩], .int .i64 40]) (by simp [results, Tryz.results7, go_sem, d0, d1, d2]) rfl (ParseP.no HE.out (HB.out _ _ _))
  | true =>
    have HP2 := Lib.hid (HP1.out.trans (if_neg (by rw [hok]; simp)))
    obtain ⟨rfl, rfl⟩ := hmp rfl
    clear hok hmp HP1
    generalize (cutFirst F).1 = m0 at *
    generalize (cutFirst F).2.1 = p0 at *
    go_wp2_with fail
    obtain ⟨K, hK⟩ : ∃ K, K = w1.heap.size := ⟨_, rfl⟩
    rw [← hK] at Q1
    rw [← hK]
    generalize w1.alloc (.cells #[.string (B m0), .string (B p0), .string ⟨#[]⟩] 23) = W0 at *
    clear hK P1
    clear j2
    go_loopw [5, 8, 9] (fun x y u wr => ∃ (q : Nat) (z : Int) (t : Bool), q ≤ i ∧ x = .int .i64 q ∧ y = .int .i64 z ∧ u = .bool t ∧ RpR s i R w K (B m0) (B p0) q z t wr) (fun x _ _ _ => i - (intOf x).toNat)
    case atStart => exact ⟨a, 0, false, HPS.out.1, rfl, rfl, rfl, HPS.out, Q1.out⟩
    case round =>
      obtain ⟨q, z, t, hq, rfl, rfl, rfl, hps, hrq⟩ := hrel
      have HRQ := Lib.hid hrq
      clear hrq
      by_cases hlt : q < i
      · obtain ⟨b, hb, hab, hbi, he1, he2, he3⟩ := PsR.step HI.out hps hlt
        have H3 : Hid (∀ w, Calls Tryz.prog 19 #[.string s, .string ⟨#[13, 10]⟩, .int .i64 ((q : Int) + 2)] w fun e w' => e = .returned (.int .i64 b) ∧ w' = w) :=
          Lib.hid (fun w => by rw [← hb]; exact rfind_any s ⟨#[13, 10]⟩ (q + 2) hs (by decide) (by decide) (by omega) w)
        have hmid := mid_B s (q + 2) b
        have HLI : Hid (∀ w, Calls Tryz.prog 21 #[.string (B ((s.data.toList.take b).drop (q + 2))), .bool t] w (LineV ((s.data.toList.take b).drop (q + 2)) t w)) :=
          Lib.hid (fun w => by have := rline_any (B ((s.data.toList.take b).drop (q + 2))) t (by rw [B_size, List.length_drop, List.length_take]; omega) w; rwa [B_data] at this)
        have HLJ : Hid (∀ w, Calls Tryz.prog 21 #[.string (B ((s.data.toList.take b).drop (q + 2))), .bool t] w fun e w' => e = .returned (.tuple #[.int .i64 (lineF ((s.data.toList.take b).drop (q + 2)) t).1, .int .i64 (lineF ((s.data.toList.take b).drop (q + 2)) t).2]) ∧ Below w.heap.size w w') := Lib.hid HLI.out
        clear HLI
        have l1 : (0 : Int) ≤ (q : Int) + 2 := by omega
        have l2 : (q : Int) + 2 ≤ b := by omega
        have l3 : (b : Int) ≤ s.size := by omega
        have HE1 := Lib.hid he1
        have HE2 := Lib.hid he2
        have HE3 := Lib.hid he3
        have HBI := Lib.hid hbi
        generalize lineF ((s.data.toList.take b).drop (q + 2)) t = nn at *
        obtain ⟨n, e0⟩ := nn
        generalize B ((s.data.toList.take b).drop (q + 2)) = x at *
        clear hb hab hbi he1 he2 he3 hps
        by_cases h0 : e0 = 0
        · subst h0
          by_cases hn : 0 ≤ n
          · have HN := Lib.hid (HE2.out rfl hn)
            clear HE1 HE2 HE3
            go_wp2_with fail
            refine (H3.out _).mono ?_
            rintro e w2 ⟨rfl, rfl⟩
            go_wp2_with fail
            refine (HLJ.out _).mono ?_
            rintro e w2 ⟨rfl, hb2⟩
            have HR2 := Lib.hid (HRQ.out.then hb2)
            clear hb2
            go_wp2_with fail
            go_roundw
            case rel => exact ⟨b, n, true, HBI.out, rfl, rfl, rfl, HN.out, HR2.out⟩
            case measure => simp [intOf]; omega
          · have HN := Lib.hid (HE3.out rfl hn)
            clear HE1 HE2 HE3
            go_wp2_with fail
            refine (H3.out _).mono ?_
            rintro e w2 ⟨rfl, rfl⟩
            go_wp2_with fail
            refine (HLJ.out _).mono ?_
            rintro e w2 ⟨rfl, hb2⟩
            have HR2 := Lib.hid (HRQ.out.then hb2)
            clear hb2
            go_wp2_with fail
            go_roundw
            case rel => exact ⟨b, z, t, HBI.out, rfl, rfl, rfl, HN.out, HR2.out⟩
            case measure => simp [intOf]; omega
        · have hz := HE1.out h0
          have HE : Hid (parse s.data.toList = (([], [], []), e0)) := Lib.hid (by rw [HP2.out, hz]; exact if_pos h0)
          have h0' : (e0 == 0) = false := by simpa using h0
          clear HE1 HE2 HE3 hz h0
          go_wp2_with fail
          refine (H3.out _).mono ?_
          rintro e w2 ⟨rfl, rfl⟩
          go_wp2_with fail
          refine (HLJ.out _).mono ?_
          rintro e w2 ⟨rfl, hb2⟩
          have HR2 := Lib.hid (HRQ.out.then hb2)
          obtain ⟨d0, d1, d2, k0, k1, k2⟩ := HR2.out.pa.cells
          have HB := Lib.hid (below_three HR2.out.pa.below)
          clear hb2
          go_wp2_with fail
          refine bodyPost_ret (v := .tuple #[.agg #[.string ⟨#[]⟩, .string ⟨#[]⟩, .string ⟨#[]⟩], .int .i64 e0]) (by simp [results, Tryz.results7, go_sem, d0, d1, d2]) rfl (ParseP.no HE.out (HB.out _ _ _))
      · have hz := PsR.stop HI.out hps hlt
        have hge : ¬ (q : Int) < i := by omega
        by_cases hc : (s.size : Int) - i - 4 = z
        · have HE : Hid (parse s.data.toList = ((m0, p0, s.data.toList.drop (i + 4)), 0)) := Lib.hid (by rw [HP2.out, hz, HDL.out]; exact (if_neg (by simp)).trans (if_neg (fun h => h hc)))
          have hc2 : ((s.size : Int) - i - 4 != z) = false := by simp [hc]
          obtain ⟨d0, d1, d2, k0, k1, k2⟩ := HRQ.out.pa.cells
          have r0 := HRQ.out.req
          have c0 : wr.cell? ⟨K, 0, none⟩ = some (.string (B m0)) := by simp [World.cell?, r0]
          have c1 : wr.cell? ⟨K, 1, none⟩ = some (.string (B p0)) := by simp [World.cell?, r0]
          have c2 : wr.cell? ⟨K, 2, none⟩ = some (.string ⟨#[]⟩) := by simp [World.cell?, r0]
          have g2 : wr.frozen? ⟨K, 2, none⟩ = false := by simp [World.frozen?, r0]
          have n1 : K ≠ w.heap.size := Nat.ne_of_gt HRQ.out.lt
          have HB := Lib.hid (HRQ.out.pa.below.setCell (p := ⟨K, 2, none⟩) (Nat.le_of_lt HRQ.out.lt) (.string (B (s.data.toList.drop (i + 4)))))
          have HB2 := Lib.hid (below_three HB.out)
          clear hps hz hc r0
          go_wp2_with fail
          refine bodyPost_ret (v := .tuple #[.agg #[.string (B m0), .string (B p0), .string (B (s.data.toList.drop (i + 4)))], .int .i64 0]) (by simp [results, Tryz.results7, go_sem, d0, d1, d2, n1]) rfl (ParseP.yes HE.out (HB2.out _ _ _))
        · have HE : Hid (parse s.data.toList = (([], [], []), 40)) := Lib.hid (by rw [HP2.out, hz, HDL.out]; exact (if_neg (by simp)).trans (if_pos hc))
          have hc2 : ((s.size : Int) - i - 4 != z) = true := by simp [hc]
          obtain ⟨d0, d1, d2, k0, k1, k2⟩ := HRQ.out.pa.cells
          have HB := Lib.hid (below_three HRQ.out.pa.below)
          clear hps hz hc
          go_wp2_with fail
          refine bodyPost_ret (v := .tuple #[.agg #[.string ⟨#[]⟩, .string ⟨#[]⟩, .string ⟨#[]⟩], .int .i64 40]) (by simp [results, Tryz.results7, go_sem, d0, d1, d2]) rfl (ParseP.no HE.out (HB.out _ _ _))
end Go.Proofs.YtihcihpndckfjabGreatDoor
