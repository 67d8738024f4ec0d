/- Rows of rows in memory; scalar's learn. Conditions: those that each theorem names. -/
import Derived.Test.YtfgmkdghpdpdkaaScD
namespace Go.Proofs.Ytfgmkdghpdpdkaa
set_option linter.unusedVariables false
open Go Go.RowKit Vc Rk
namespace Sc
/-- A row of rows of numbers, whoever's. -/
def RowsAt (w : World) (v : Value) (M : List (List Int)) : Prop := ∃ p c, v = .slice p M.length c ∧ M.length ≤ c ∧ (0 < M.length → ∃ b off, p = some ⟨b, off, none⟩ ∧ b < w.heap.size ∧
  ∀ (k : Nat) r, M[k]? = some r → ∃ pk ck, (∀ wr, Below w.heap.size w wr → wr.cell? ⟨b, off + k, none⟩ = some (.slice pk r.length ck)) ∧ IntsAt w (.slice pk r.length ck) r)
theorem RowsAt.below {w w' : World} {v : Value} {M : List (List Int)} (h : RowsAt w v M) (g : Below w.heap.size w w') : RowsAt w' v M := by
  obtain ⟨p, c, e, hc, h⟩ := h
  refine ⟨p, c, e, hc, fun h0 => ?_⟩
  obtain ⟨b, off, e2, hb, h⟩ := h h0
  refine ⟨b, off, e2, Nat.lt_of_lt_of_le hb g.size, fun k r hr => ?_⟩
  obtain ⟨pk, ck, h1, h2⟩ := h k r hr
  exact ⟨pk, ck, fun wr hw => h1 wr (g.trans (hw.mono g.size)), h2.below g⟩
set_option maxHeartbeats 1000000 in
theorem with_any (s : Sp) (x : Int) (w : World) :
    Calls Try.prog 42 #[spV s, .int .i64 x] w fun e w' => e = .returned (spV (wide s x)) ∧ Below w.heap.size w w' := by
  obtain ⟨l, r⟩ := s
  obtain ⟨c0, c1⟩ := sp_box w (l, r)
  have b0 : ∀ o, ((w.alloc (spO (l, r))).alloc o).cell? ⟨w.heap.size, 0, none⟩ = some (.int .i64 l) := fun o => by
    rw [← c0]; exact World.cell?_of_block (heap_old _ o (by simp))
  have b1 : ∀ o, ((w.alloc (spO (l, r))).alloc o).cell? ⟨w.heap.size, 1, none⟩ = some (.int .i64 r) := fun o => by
    rw [← c1]; exact World.cell?_of_block (heap_old _ o (by simp))
  simp only at c0 c1 b0 b1
  go_enter Try.func42, Try.ntmps42
  go_wp2_with fail
  have h := heap_last (w.alloc (.cells #[.int .i64 l, .int .i64 r] 72)) (.cells #[.int .i64 (min l x), .int .i64 (max r x)] 72)
  rw [show (w.alloc (.cells #[.int .i64 l, .int .i64 r] 72)).heap.size = w.heap.size + 1 by simp] at h
  have q0 := Lib.cell_of_heap h 0
  have q1 := Lib.cell_of_heap h 1
  refine bodyPost_ret (v := spV (wide (l, r) x)) (by simp [results, Try.results42, go_sem, q0, q1, wide]) rfl ⟨rfl, ((Below.refl _ w).alloc (Nat.le_refl _) _).alloc (by simp) _⟩
def mixS (S : List Sp) (v : List Int) (j : Nat) : List Sp := (List.zipWith wide S v).take j ++ S.drop j
theorem mix_len {S : List Sp} {v : List Int} (h : S.length = v.length) {j : Nat} (hj : j ≤ S.length) : (mixS S v j).length = S.length := by simp [mixS]; omega
theorem mix_at {S : List Sp} {v : List Int} (h : S.length = v.length) {j : Nat} (hj : j < S.length) : (mixS S v j)[j]? = S[j]? := by
  unfold mixS
  have : ((List.zipWith wide S v).take j).length = j := by simp; omega
  rw [List.getElem?_append_right (by omega), this, Nat.sub_self, List.getElem?_drop, Nat.add_zero]
theorem mix_set {S : List Sp} {v : List Int} (h : S.length = v.length) {j : Nat} {s : Sp} {x : Int} (hs : S[j]? = some s) (hx : v[j]? = some x) : (mixS S v j).set j (wide s x) = mixS S v (j + 1) := by
  obtain ⟨hj, rfl⟩ := List.getElem?_eq_some_iff.1 hs
  have ht : ((List.zipWith wide S v).take j).length = j := by simp; omega
  unfold mixS
  rw [List.set_append_right _ _ (by omega), ht, Nat.sub_self, List.take_add_one]
  have e : (List.zipWith wide S v)[j]? = some (wide S[j] x) := by simp [List.getElem?_zipWith, hs, hx]
  rw [e, List.drop_eq_getElem_cons hj, List.set_cons_zero]
  simp
theorem mix_end {S : List Sp} {v : List Int} (h : S.length = v.length) : mixS S v S.length = List.zipWith wide S v := by
  unfold mixS
  rw [List.drop_length, List.append_nil, List.take_of_length_le (by simp; omega)]
theorem learn_next {S : List Sp} {R : List (List Int)} {k : Nat} {v : List Int} (h : R[k]? = some v) : learnL S (R.take (k + 1)) = List.zipWith wide (learnL S (R.take k)) v := by
  unfold learnL
  rw [List.take_add_one, h, List.foldl_append]
  rfl
theorem learn_len {n : Nat} : ∀ (R : List (List Int)) (S : List Sp), S.length = n → (∀ v ∈ R, v.length = n) → (learnL S R).length = n
  | [], S, h, _ => h
  | v :: R, S, h, hR => learn_len R _ (by simp [h, hR v (by simp)]) fun u hu => hR u (by simp [hu])
theorem span_slices {p : Option Addr} {b off n c : Nat} (hp : p = some ⟨b, off, none⟩) (hc : n + 1 ≤ c) : ∃ q, (if c = 1 then p else p.map fun x => x.add 1) = q ∧ (0 < n → q = some ⟨b, off + 1, none⟩) := by
  subst hp
  refine ⟨_, rfl, fun h => ?_⟩
  rw [if_neg (by omega)]
  show some (Addr.add _ 1) = _
  rw [Rk.addr_at]
set_option maxHeartbeats 4000000 in
set_option maxRecDepth 100000 in
theorem learn_any (r : List Int) (R : List (List Int)) (v : Value) (w : World) (hM : RowsAt w v (r :: R)) (hr : ∀ u ∈ R, u.length = r.length) (h1 : 1 ≤ r.length) (h64 : r.length ≤ 64) (hm : R.length + 1 ≤ maxLen) :
    Calls Try.prog 25 #[v, .int .i64 (r.length : Int)] w fun e w' => ∃ u, e = .returned u ∧ OwnS w' w.heap.size u (learnL (r.zip r) R) ∧ Below w.heap.size w w' := by
  obtain ⟨p, c, rfl, hcap, hel⟩ := hM
  obtain ⟨b, off, rfl, hb, hel⟩ := hel (by simp)
  obtain ⟨p0, c0, hc0, hi0⟩ := hel 0 r rfl
  obtain ⟨b0, off0, c0', e0, hb0, hx0⟩ := at_cells hi0 (by omega)
  injection e0 with e1 e2 e3
  subst e1; subst e3; clear e2
  rw [Nat.add_zero] at hc0
  obtain ⟨o, hmk, hl0⟩ := make_spans r.length h64 w w.heap.size (Nat.le_refl _)
  have HMK := Lib.hid hmk
  have HL0 := Lib.hid hl0
  have HB1 : Hid (Below w.heap.size w (w.alloc o)) := Lib.hid (fresh_alloc _ _)
  obtain ⟨S, hS⟩ : ∃ S, S = r.zip r := ⟨_, rfl⟩
  have hSL : S.length = r.length := by rw [hS]; simp
  have hat : ∀ k, k < r.length → ∃ x : Int, S[k]? = some (x, x) ∧ ∀ wr, Below w.heap.size w wr → wr.cell? ⟨b0, off0 + k, none⟩ = some (.int .i64 x) := fun k hk => by
    refine ⟨r[k], by rw [hS]; simp [hk], fun wr hw => hx0 wr hw k hk⟩
  have HAT := Lib.hid hat
  have hrow : ∀ k u, R[k]? = some u → u.length = r.length ∧ ∃ bk ok ck, (∀ wr, Below w.heap.size w wr → wr.cell? ⟨b, off + 1 + k, none⟩ = some (.slice (some ⟨bk, ok, none⟩) r.length ck)) ∧ ∀ wr, Below w.heap.size w wr → ∀ j x, u[j]? = some x → wr.cell? ⟨bk, ok + j, none⟩ = some (.int .i64 x) := fun k u hu => by
    have hul := hr u (List.mem_of_getElem? hu)
    obtain ⟨pk, ck, h1', h2⟩ := hel (k + 1) u hu
    obtain ⟨bk, ok, ck', e, _, hx⟩ := at_cells h2 (by omega)
    injection e with e1 e2 e3
    subst e1; subst e3
    refine ⟨hul, bk, ok, ck, fun wr hw => ?_, fun wr hw j x hj => ?_⟩
    · have := h1' wr hw
      rw [hul] at this
      rw [← this]; congr 2; omega
    · obtain ⟨hj', rfl⟩ := List.getElem?_eq_some_iff.1 hj
      exact hx wr hw j hj'
  have HROW := Lib.hid hrow
  have HLEN : Hid (∀ k, (learnL S (R.take k)).length = r.length) := Lib.hid (fun k => learn_len _ _ hSL fun u hu => hr u (List.mem_of_mem_take hu))
  have HSL := Lib.hid hSL
  have HM := Lib.hid hm
  have HCAP : Hid (R.length + 1 ≤ c) := Lib.hid (by simpa using hcap)
  have hrl : (r :: R).length = R.length + 1 := rfl
  rw [hrl, ← hS]
  have hcw := hc0 w (Below.refl _ _)
  have hc1 := hc0 _ HB1.out
  clear hel hcap hc0 hi0 hx0 hmk hl0 hS hSL hat hrow hr hm h1 hb hb0 hrl
  generalize r.length = n at *
  generalize hm : R.length = m at *
  have HRM := Lib.hid hm
  clear hm
  have hm1 : (1 : Int) ≤ ((m + 1 : Nat) : Int) := by omega
  go_enter Try.func25, Try.ntmps25
  go_wp2_with fail
  rw [HMK.out]
  go_wp2_with fail
  have HBL : Hid (w.heap.size < (w.alloc o).heap.size) := Lib.hid (by simp)
  generalize w.alloc o = W1 at *
  clear HMK
  go_loopw [18] (fun i wr => ∃ k : Nat, k ≤ n ∧ i = .int .i64 k ∧ Below w.heap.size w wr ∧ W1.heap.size ≤ wr.heap.size ∧ OwnS wr w.heap.size (.slice (some ⟨w.heap.size, 0, none⟩) n n) (S.take k ++ List.replicate (n - k) (0, 0))) (fun i _ => n - (intOf i).toNat)
  case atStart => exact ⟨0, Nat.zero_le _, rfl, HB1.out, Nat.le_refl _, by simpa using HL0.out⟩
  case round =>
    obtain ⟨k, hk, rfl, hbw, hsz, how⟩ := hrel
    obtain ⟨wo, rfl⟩ : ∃ wo : World, wo = wr := ⟨_, rfl⟩
    have HBW := Lib.hid hbw
    have HSZ := Lib.hid hsz
    have HOW := Lib.hid how
    by_cases hlt : k < n
    · obtain ⟨x, hx, hcells⟩ := HAT.out k hlt
      have hcx := hcells wo hbw
      have HLT := Lib.hid hlt
      obtain ⟨⟨y, ⟨q0, f0⟩, q1, f1⟩, hput⟩ := put_span how k (by rw [fill_len hk HSL.out]; exact hlt)
      have h5 := hput (x, x)
      rw [fill_set hlt HSL.out hx] at h5
      have HPUT := Lib.hid h5
      clear hput h5 hcells hx hbw hsz how
      go_wp2_with fail
      go_roundw
      case rel => exact ⟨k + 1, HLT.out, by first | rfl | go_num, (HBW.out.setCell (p := ⟨w.heap.size, k * 2, none⟩) (Nat.le_refl _) _).setCell (p := ⟨w.heap.size, k * 2 + 1, none⟩) (Nat.le_refl _) _, by simpa using HSZ.out, HPUT.out⟩
      case measure => have := HLT.out; simp only [intOf]; omega
    · obtain rfl : k = n := by omega
      rw [fill_all HSL.out] at how
      have HW2 := Lib.hid how
      have HMM : Hid ((m : Int) ≤ 9223372036854775806) := Lib.hid (by have := HM.out; unfold maxLen at this; omega)
      clear how hbw hsz HOW HAT HL0 HB1
      go_wp2_with fail
      all_goals clear hc1 hcw
      · have HROW2 : Hid (∀ q u, R[q]? = some u → u.length = k ∧ ∃ bk ok ck, (∀ wr, Below w.heap.size w wr → wr.cell? ⟨b, off + q, none⟩ = some (.slice (some ⟨bk, ok, none⟩) k ck)) ∧ ∀ wr, Below w.heap.size w wr → ∀ j x, u[j]? = some x → wr.cell? ⟨bk, ok + j, none⟩ = some (.int .i64 x)) := Lib.hid (fun q u hu => by
          have h1 := (List.getElem?_eq_some_iff.1 hu).1
          have h2 := HCAP.out
          have h3 := HRM.out
          omega)
        have hmm := HMM.out
        go_loopw [33] (fun i wr => ∃ q : Nat, q ≤ m ∧ i = .int .i64 q ∧ Below w.heap.size w wr ∧ W1.heap.size ≤ wr.heap.size ∧ OwnS wr w.heap.size (.slice (some ⟨w.heap.size, 0, none⟩) k k) (learnL S (R.take q))) (fun i _ => m - (intOf i).toNat)
        case atStart => exact ⟨0, Nat.zero_le _, rfl, HBW.out, HSZ.out, by simpa [learnL] using HW2.out⟩
        case round =>
          obtain ⟨q, hq, rfl, hbw, hsz, how⟩ := hrel
          obtain ⟨wq, rfl⟩ : ∃ wq : World, wq = wr := ⟨_, rfl⟩
          have HBQ := Lib.hid hbw
          have HSQ := Lib.hid hsz
          have HOQ := Lib.hid how
          by_cases hlt : q < m
          · obtain ⟨u, hu⟩ : ∃ u, R[q]? = some u := ⟨_, List.getElem?_eq_getElem (by rw [HRM.out]; exact hlt)⟩
            obtain ⟨hul, bk, okk, ck, hcell, hxs⟩ := HROW2.out q u hu
            have hcl := hcell wq hbw
            have HQLT := Lib.hid hlt
            have HXS := Lib.hid hxs
            obtain ⟨Z, hZ⟩ : ∃ Z, Z = learnL S (R.take q) := ⟨_, rfl⟩
            have HZN : Hid (List.zipWith wide Z u = learnL S (R.take (q + 1))) := Lib.hid (by rw [hZ]; exact (learn_next hu).symm)
            have HZU : Hid (Z.length = k ∧ u.length = k) := Lib.hid ⟨by rw [hZ]; exact HLEN.out q, hul⟩
            rw [← hZ] at how
            have HOZ := Lib.hid how
            clear hxs hcell hu hul hZ hbw hsz how
            go_wp2_with fail
            go_loopw [39] (fun i wr => ∃ j : Nat, j ≤ k ∧ i = .int .i64 j ∧ Below w.heap.size w wr ∧ W1.heap.size ≤ wr.heap.size ∧ OwnS wr w.heap.size (.slice (some ⟨w.heap.size, 0, none⟩) k k) (mixS Z u j)) (fun i _ => k - (intOf i).toNat)
            case atStart => exact ⟨0, Nat.zero_le _, rfl, HBQ.out, HSQ.out, by simpa [mixS] using HOZ.out⟩
            case round =>
              obtain ⟨j, hj, rfl, hbw, hsz, how⟩ := hrel
              obtain ⟨wj, rfl⟩ : ∃ wj : World, wj = wr := ⟨_, rfl⟩
              have HBJ := Lib.hid hbw
              have HSJ := Lib.hid hsz
              have HOJ := Lib.hid how
              by_cases hlt : j < k
              · have hzl : Z.length = u.length := HZU.out.1.trans HZU.out.2.symm
                have hx : u[j]? = some (u[j]'(by rw [HZU.out.2]; exact hlt)) := List.getElem?_eq_getElem _
                have hs : Z[j]? = some (Z[j]'(by rw [HZU.out.1]; exact hlt)) := List.getElem?_eq_getElem _
                generalize u[j]'(by rw [HZU.out.2]; exact hlt) = x at hx
                generalize Z[j]'(by rw [HZU.out.1]; exact hlt) = s at hs
                have hcx := HXS.out wj hbw j x hx
                have hml : (mixS Z u j).length = k := by rw [mix_len hzl (by rw [HZU.out.1]; exact hj)]; exact HZU.out.1
                have hms : (mixS Z u j)[j]'(by rw [hml]; exact hlt) = s := by
                  have h := mix_at hzl (j := j) (by rw [HZU.out.1]; exact hlt)
                  rw [hs, List.getElem?_eq_getElem (by rw [hml]; exact hlt)] at h
                  injection h
                have k0 := (Rk.own_cell flatS how j (by rw [hml]; exact hlt) (i := 0) (u := .int .i64 s.1) (by rw [hms]; rfl)).1
                have k1 := (Rk.own_cell flatS how j (by rw [hml]; exact hlt) (i := 1) (u := .int .i64 s.2) (by rw [hms]; rfl)).1
                rw [Nat.add_zero] at k0
                have HJLT := Lib.hid hlt
                have HSET := Lib.hid (mix_set hzl hs hx)
                have HML := Lib.hid hml
                have HC := Lib.hid (fun W => with_any s x W)
                obtain ⟨lo, hi⟩ := s
                simp only at k0 k1
                clear hx hs hzl hml hms hbw hsz how
                go_wp2_with fail
                refine (HC.out _).mono ?_
                rintro e w5 ⟨rfl, hb5⟩
                have ho5 := own_below HOJ.out hb5
                have hb5' := HBJ.out.trans (hb5.mono HBJ.out.size)
                obtain ⟨⟨y, ⟨q0, f0⟩, q1, f1⟩, hput⟩ := put_span ho5 j (by rw [HML.out]; exact HJLT.out)
                have h5 := hput (wide (lo, hi) x)
                rw [HSET.out] at h5
                have HPUT := Lib.hid h5
                have HB5 := Lib.hid hb5'
                have HZ5 : Hid (W1.heap.size ≤ w5.heap.size) := Lib.hid (Nat.le_trans HSJ.out hb5.size)
                rw [show spV (wide (lo, hi) x) = .agg #[.int .i64 (wide (lo, hi) x).1, .int .i64 (wide (lo, hi) x).2] from rfl]
                clear hput h5 hb5 hb5' ho5 k0 k1 HC
                generalize wide (lo, hi) x = z at *
                obtain ⟨z0, z1⟩ := z
                go_wp2_with fail
                go_roundw
                case rel => exact ⟨j + 1, HJLT.out, by first | rfl | go_num, (HB5.out.setCell (p := ⟨w.heap.size, j * 2, none⟩) (Nat.le_refl _) _).setCell (p := ⟨w.heap.size, j * 2 + 1, none⟩) (Nat.le_refl _) _, by simpa using HZ5.out, HPUT.out⟩
                case measure => have := HJLT.out; simp only [intOf]; omega
              · obtain rfl : j = k := by omega
                have h5 := how
                have hze := mix_end (HZU.out.1.trans HZU.out.2.symm)
                rw [HZU.out.1] at hze
                rw [hze, HZN.out] at h5
                have HO5 := Lib.hid h5
                clear how hbw hsz h5 hze
                go_wp2_with fail
                go_roundw
                case rel => exact ⟨q + 1, HQLT.out, by first | rfl | go_num, HBJ.out, HSJ.out, HO5.out⟩
                case measure => have := HQLT.out; simp only [intOf]; omega
          · obtain rfl : q = m := by omega
            have hfin : OwnS wq w.heap.size (.slice (some ⟨w.heap.size, 0, none⟩) k k) (learnL S R) := by
              have h := how
              rwa [← HRM.out, List.take_length] at h
            have HF := Lib.hid hfin
            clear how hbw hsz hfin
            go_wp2_with fail
            go_ret
            exact ⟨_, rfl, HF.out, HBQ.out⟩
      · have HROW2 := HROW
        have hmm := HMM.out
        go_loopw [33] (fun i wr => ∃ q : Nat, q ≤ m ∧ i = .int .i64 q ∧ Below w.heap.size w wr ∧ W1.heap.size ≤ wr.heap.size ∧ OwnS wr w.heap.size (.slice (some ⟨w.heap.size, 0, none⟩) k k) (learnL S (R.take q))) (fun i _ => m - (intOf i).toNat)
        case atStart => exact ⟨0, Nat.zero_le _, rfl, HBW.out, HSZ.out, by simpa [learnL] using HW2.out⟩
        case round =>
          obtain ⟨q, hq, rfl, hbw, hsz, how⟩ := hrel
          obtain ⟨wq, rfl⟩ : ∃ wq : World, wq = wr := ⟨_, rfl⟩
          have HBQ := Lib.hid hbw
          have HSQ := Lib.hid hsz
          have HOQ := Lib.hid how
          by_cases hlt : q < m
          · obtain ⟨u, hu⟩ : ∃ u, R[q]? = some u := ⟨_, List.getElem?_eq_getElem (by rw [HRM.out]; exact hlt)⟩
            obtain ⟨hul, bk, okk, ck, hcell, hxs⟩ := HROW2.out q u hu
            have hcl := hcell wq hbw
            have HQLT := Lib.hid hlt
            have HXS := Lib.hid hxs
            obtain ⟨Z, hZ⟩ : ∃ Z, Z = learnL S (R.take q) := ⟨_, rfl⟩
            have HZN : Hid (List.zipWith wide Z u = learnL S (R.take (q + 1))) := Lib.hid (by rw [hZ]; exact (learn_next hu).symm)
            have HZU : Hid (Z.length = k ∧ u.length = k) := Lib.hid ⟨by rw [hZ]; exact HLEN.out q, hul⟩
            rw [← hZ] at how
            have HOZ := Lib.hid how
            clear hxs hcell hu hul hZ hbw hsz how
            go_wp2_with fail
            go_loopw [39] (fun i wr => ∃ j : Nat, j ≤ k ∧ i = .int .i64 j ∧ Below w.heap.size w wr ∧ W1.heap.size ≤ wr.heap.size ∧ OwnS wr w.heap.size (.slice (some ⟨w.heap.size, 0, none⟩) k k) (mixS Z u j)) (fun i _ => k - (intOf i).toNat)
            case atStart => exact ⟨0, Nat.zero_le _, rfl, HBQ.out, HSQ.out, by simpa [mixS] using HOZ.out⟩
            case round =>
              obtain ⟨j, hj, rfl, hbw, hsz, how⟩ := hrel
              obtain ⟨wj, rfl⟩ : ∃ wj : World, wj = wr := ⟨_, rfl⟩
              have HBJ := Lib.hid hbw
              have HSJ := Lib.hid hsz
              have HOJ := Lib.hid how
              by_cases hlt : j < k
              · have hzl : Z.length = u.length := HZU.out.1.trans HZU.out.2.symm
                have hx : u[j]? = some (u[j]'(by rw [HZU.out.2]; exact hlt)) := List.getElem?_eq_getElem _
                have hs : Z[j]? = some (Z[j]'(by rw [HZU.out.1]; exact hlt)) := List.getElem?_eq_getElem _
                generalize u[j]'(by rw [HZU.out.2]; exact hlt) = x at hx
                generalize Z[j]'(by rw [HZU.out.1]; exact hlt) = s at hs
                have hcx := HXS.out wj hbw j x hx
                have hml : (mixS Z u j).length = k := by rw [mix_len hzl (by rw [HZU.out.1]; exact hj)]; exact HZU.out.1
                have hms : (mixS Z u j)[j]'(by rw [hml]; exact hlt) = s := by
                  have h := mix_at hzl (j := j) (by rw [HZU.out.1]; exact hlt)
                  rw [hs, List.getElem?_eq_getElem (by rw [hml]; exact hlt)] at h
                  injection h
                have k0 := (Rk.own_cell flatS how j (by rw [hml]; exact hlt) (i := 0) (u := .int .i64 s.1) (by rw [hms]; rfl)).1
                have k1 := (Rk.own_cell flatS how j (by rw [hml]; exact hlt) (i := 1) (u := .int .i64 s.2) (by rw [hms]; rfl)).1
                rw [Nat.add_zero] at k0
                have HJLT := Lib.hid hlt
                have HSET := Lib.hid (mix_set hzl hs hx)
                have HML := Lib.hid hml
                have HC := Lib.hid (fun W => with_any s x W)
                obtain ⟨lo, hi⟩ := s
                simp only at k0 k1
                clear hx hs hzl hml hms hbw hsz how
                go_wp2_with fail
                refine (HC.out _).mono ?_
                rintro e w5 ⟨rfl, hb5⟩
                have ho5 := own_below HOJ.out hb5
                have hb5' := HBJ.out.trans (hb5.mono HBJ.out.size)
                obtain ⟨⟨y, ⟨q0, f0⟩, q1, f1⟩, hput⟩ := put_span ho5 j (by rw [HML.out]; exact HJLT.out)
                have h5 := hput (wide (lo, hi) x)
                rw [HSET.out] at h5
                have HPUT := Lib.hid h5
                have HB5 := Lib.hid hb5'
                have HZ5 : Hid (W1.heap.size ≤ w5.heap.size) := Lib.hid (Nat.le_trans HSJ.out hb5.size)
                rw [show spV (wide (lo, hi) x) = .agg #[.int .i64 (wide (lo, hi) x).1, .int .i64 (wide (lo, hi) x).2] from rfl]
                clear hput h5 hb5 hb5' ho5 k0 k1 HC
                generalize wide (lo, hi) x = z at *
                obtain ⟨z0, z1⟩ := z
                go_wp2_with fail
                go_roundw
                case rel => exact ⟨j + 1, HJLT.out, by first | rfl | go_num, (HB5.out.setCell (p := ⟨w.heap.size, j * 2, none⟩) (Nat.le_refl _) _).setCell (p := ⟨w.heap.size, j * 2 + 1, none⟩) (Nat.le_refl _) _, by simpa using HZ5.out, HPUT.out⟩
                case measure => have := HJLT.out; simp only [intOf]; omega
              · obtain rfl : j = k := by omega
                have h5 := how
                have hze := mix_end (HZU.out.1.trans HZU.out.2.symm)
                rw [HZU.out.1] at hze
                rw [hze, HZN.out] at h5
                have HO5 := Lib.hid h5
                clear how hbw hsz h5 hze
                go_wp2_with fail
                go_roundw
                case rel => exact ⟨q + 1, HQLT.out, by first | rfl | go_num, HBJ.out, HSJ.out, HO5.out⟩
                case measure => have := HQLT.out; simp only [intOf]; omega
          · obtain rfl : q = m := by omega
            have hfin : OwnS wq w.heap.size (.slice (some ⟨w.heap.size, 0, none⟩) k k) (learnL S R) := by
              have h := how
              rwa [← HRM.out, List.take_length] at h
            have HF := Lib.hid hfin
            clear how hbw hsz hfin
            go_wp2_with fail
            go_ret
            exact ⟨_, rfl, HF.out, HBQ.out⟩
end Sc
end Go.Proofs.Ytfgmkdghpdpdkaa
