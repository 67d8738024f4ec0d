/- The walk of the law HttpLines. Conditions: those that each theorem names. -/
import Derived.Test.YtknoikjkbnafoabDoorHtLn
namespace Go.Proofs.YtknoikjkbnafoabDoor
set_option linter.unusedVariables false
open Go Go.RowKit Go.Shelf Ht

set_option maxHeartbeats 2000000 in
set_option maxRecDepth 100000 in
theorem ln_no (m p b n v : ByteArray) (w : World) (hm : m.size ≤ 1048576) (hp : p.size ≤ 1048576) (hb : b.size ≤ 1048576) (G : Gh w) (he : (write m.data.toList p.data.toList b.data.toList).2 ≠ 0) :
    Calls Tryd.prog 4 #[.agg #[.string m, .string p, .string b], .string n, .string v] w fun e w' => e = .returned (.bool true) ∧ Below w.heap.size w w' := by
  have HG := Lib.hid G
  have HW := Lib.hid (fun w G => write_any m p b w (by omega) (by omega) (by omega) G)
  clear G hm hp hb
  obtain ⟨h1, h2⟩ := write_no he
  have hv : writeV m p b = .tuple #[.string ⟨#[]⟩, .int .i64 (write m.data.toList p.data.toList b.data.toList).2] := by unfold writeV; rw [h1]; rfl
  rw [hv] at HW
  clear hv h1 he
  have hs0 := held3_new (.string m) (.string p) (.string b) HG.out
  have HS := Lib.hid hs0
  have c0 := hs0.1
  have c1 := hs0.2.1
  have c2 := hs0.2.2.1
  clear hs0
  rcases h2 with h2 | h2
  all_goals rw [h2] at HW
  all_goals clear h2
  all_goals go_enter Tryd.func4, Tryd.ntmps4
  all_goals go_wp2_with fail
  all_goals refine (HW.out _ HS.out.2.2.2.1).mono ?_
  all_goals rintro e w1 ⟨rfl, g1⟩
  all_goals have H1 := Lib.hid (held3 HS.out g1)
  all_goals clear g1
  all_goals go_wp2_with fail
  all_goals refine (sure_yes _ H1.out.2.2.2.1).mono ?_
  all_goals rintro e w2 ⟨rfl, g2⟩
  all_goals have H2 := Lib.hid (below_then H1.out.2.2.2.2 g2)
  all_goals clear g2
  all_goals go_wp2_with fail
  all_goals go_ret
  all_goals exact ⟨rfl, H2.out⟩
theorem text_sizes (F R n v : List UInt8) (S N V : ByteArray) (hS : S.data.toList = F ++ (13 :: 10 :: R)) (hN : N.data.toList = n) (hV : V.data.toList = v) :
    S.extract 0 (F.length + 2) = B (F ++ [13, 10]) ∧ S.extract (F.length + 2) S.size = B R ∧
    ((((S.extract 0 (F.length + 2) ++ N) ++ ⟨#[58, 32]⟩) ++ V) ++ ⟨#[13, 10]⟩) ++ S.extract (F.length + 2) S.size = B ((((((F ++ [13, 10]) ++ n) ++ [58, 32]) ++ v) ++ [13, 10]) ++ R) := by
  have e1 : S.extract 0 (F.length + 2) = B (F ++ [13, 10]) := by
    rw [Lib.extract_eq, hS]
    have : F ++ 13 :: 10 :: R = (F ++ [13, 10]) ++ R := by simp
    rw [this, List.drop_zero, List.take_left' (by simp)]
    rfl
  have e2 : S.extract (F.length + 2) S.size = B R := by
    have hd : S.data.toList.drop (F.length + 2) = R := by
      rw [hS]
      have : F ++ 13 :: 10 :: R = (F ++ [13, 10]) ++ R := by simp
      rw [this, List.drop_left' (by simp)]
    have hl : S.size - (F.length + 2) = R.length := by rw [Lib.size_eq, hS]; simp; omega
    rw [Lib.extract_eq, hd, hl, List.take_length]
    rfl
  refine ⟨e1, e2, ?_⟩
  rw [e1, e2, ← hN, ← hV, ← B_of N, ← B_of V, B_data, B_data, B_append, show (⟨#[58, 32]⟩ : ByteArray) = B [58, 32] from rfl, show (⟨#[13, 10]⟩ : ByteArray) = B [13, 10] from rfl, B_append, B_append, B_append, B_append]
set_option maxHeartbeats 2000000 in
set_option maxRecDepth 100000 in
theorem ln_yes (m p b n v : ByteArray) (w : World) (hm : m.size ≤ 1048576) (hp : p.size ≤ 1048576) (hb : b.size ≤ 1048576) (hn : n.size ≤ 1048576) (hv : v.size ≤ 1048576) (G : Gh w) (he : (write m.data.toList p.data.toList b.data.toList).2 = 0) :
    Calls Tryd.prog 4 #[.agg #[.string m, .string p, .string b], .string n, .string v] w fun e w' => e = .returned (.bool true) ∧ Below w.heap.size w w' := by
  have HG := Lib.hid G
  have HW := Lib.hid (fun w G => write_any m p b w (by omega) (by omega) (by omega) G)
  obtain ⟨hm1, hp1, hb1, hl1, hw1⟩ := write_ok he
  obtain ⟨S, hS⟩ : ∃ S, S = B (headW m.data.toList p.data.toList b.data.toList ++ b.data.toList) := ⟨_, rfl⟩
  have hSd : S.data.toList = headW m.data.toList p.data.toList b.data.toList ++ b.data.toList := by rw [hS, B_data]
  have hSz : S.size ≤ 300000 := by rw [Lib.size_eq, hSd, List.length_append]; omega
  have hwv : writeV m p b = .tuple #[.string S, .int .i64 0] := by unfold writeV; rw [hw1, he, hS]
  rw [hwv] at HW
  have HPL := Lib.hid (plain_any n hn)
  have hs0 := held3_new (.string m) (.string p) (.string b) HG.out
  have HS := Lib.hid hs0
  clear hs0
  cases hpl : plainOk n.data.toList with
  | false =>
    rw [hpl] at HPL
    clear G hm hp hb he hm1 hp1 hb1 hl1 hw1 hS hSd hwv hpl
    go_enter Tryd.func4, Tryd.ntmps4
    go_wp2_with fail
    refine (HW.out _ HS.out.2.2.2.1).mono ?_
    rintro e w1 ⟨rfl, g1⟩
    have H1 := Lib.hid (held3 HS.out g1)
    clear g1
    go_wp2_with fail
    refine (HPL.out _).mono ?_
    rintro e w2 ⟨rfl, rfl⟩
    go_wp2_with fail
    refine (sure_yes _ H1.out.2.2.2.1).mono ?_
    rintro e w2 ⟨rfl, g2⟩
    have H2 := Lib.hid (below_then H1.out.2.2.2.2 g2)
    clear g2
    go_wp2_with fail
    go_ret
    exact ⟨rfl, H2.out⟩
  | true =>
    rw [hpl] at HPL
    obtain ⟨F, hF⟩ : ∃ F, F = firstL m.data.toList p.data.toList := ⟨_, rfl⟩
    obtain ⟨R, hR⟩ : ∃ R, R = lenL b.data.toList.length ++ (hend ++ b.data.toList) := ⟨_, rfl⟩
    have hSF : S.data.toList = F ++ (13 :: 10 :: R) := by rw [hSd, head_split, hF, hR]; rfl
    have hF10 : (10 : UInt8) ∉ F := by rw [hF]; exact no10 hm1 hp1
    obtain ⟨T, hT⟩ : ∃ T, T = B (withX m.data.toList p.data.toList b.data.toList n.data.toList v.data.toList) := ⟨_, rfl⟩
    obtain ⟨q1, q2, q3⟩ := text_sizes F R n.data.toList v.data.toList S n v hSF rfl rfl
    have q3 := q3.trans (show B ((((((F ++ [13, 10]) ++ n.data.toList) ++ [58, 32]) ++ v.data.toList) ++ [13, 10]) ++ R) = T by rw [hT, with_split, ← hF, ← hR]; rfl)
    have hSl : S.size = F.length + 2 + R.length := by rw [Lib.size_eq, hSF]; simp; omega
    have hTl : T.size = S.size + n.size + v.size + 4 := by
      rw [hT, B_size, with_split, ← hF, ← hR, hSl]
      simp only [List.length_append, crlf, List.length_cons, List.length_nil, ← Lib.size_eq]
      omega
    have HPB : Hid ((∀ x ∈ v.data.toList, 32 ≤ x.toNat) → ¬ 4096 < (T.size : Int) - b.size → ∀ w, Gh w → Calls Tryd.prog 8 #[.string T] w fun e' w' => e' = .returned (.tuple #[.agg #[.string m, .string p, .string b], .int .i64 0]) ∧ Below w.heap.size w w') :=
      Lib.hid (fun hv2 hl2 w G => by
        have := parse_w T m.data.toList p.data.toList b.data.toList 0 (by rw [hT, B_data]; exact parse_x hm1 hp1 hb1 hpl hv2 (by rw [hT, B_size, Lib.size_eq b] at hl2; omega)) (by omega) (by rw [hT, B_data]; exact read_x hm1 hp1 hpl hv2) w G
        rwa [B_of, B_of, B_of] at this)
    have HPG : Hid ((∀ x ∈ v.data.toList, 32 ≤ x.toNat) → 4096 < (T.size : Int) - b.size → ∀ w, Gh w → Calls Tryd.prog 8 #[.string T] w fun e' w' => e' = .returned (.tuple #[.agg #[.string ⟨#[]⟩, .string ⟨#[]⟩, .string ⟨#[]⟩], .int .i64 41]) ∧ Below w.heap.size w w') :=
      Lib.hid (fun hv2 hl2 w G => by
        have := parse_w T [] [] [] 41 (by rw [hT, B_data]; exact parse_xbig hm1 hp1 hpl hv2 (by rw [hT, B_size, Lib.size_eq b] at hl2; omega)) (by omega) (by rw [hT, B_data]; exact read_x hm1 hp1 hpl hv2) w G
        exact this)
    have hRl : 4 ≤ R.length := by rw [hR]; simp [hend]; omega
    have HQ := Lib.hid q3
    have HSF := Lib.hid hSF
    have HF10 := Lib.hid hF10
    obtain ⟨K, hK⟩ : ∃ K, K = F.length := ⟨_, rfl⟩
    have HK := Lib.hid hK
    rw [← hK] at hSl HQ q1 q2
    have z1 : (S.extract 0 (K + 2)).size = K + 2 := by rw [q1, B_size]; simp; omega
    have z2 : (S.extract (K + 2) S.size).size = R.length := by rw [q2, B_size]
    have HZ := Lib.hid (And.intro z1 z2)
    have tz : T.size ≤ 4000000 := by omega
    clear G hm hp he hm1 hp1 hb1 hl1 hw1 hS hSd hwv hpl hF hR hSF hF10 hT q1 q2 q3 hK z1 z2 hTl
    go_enter Tryd.func4, Tryd.ntmps4
    go_wp2_with fail
    refine (HW.out _ HS.out.2.2.2.1).mono ?_
    rintro e w1 ⟨rfl, g1⟩
    have H1 := Lib.hid (held3 HS.out g1)
    clear g1
    go_wp2_with fail
    refine (HPL.out _).mono ?_
    rintro e w2 ⟨rfl, rfl⟩
    go_wp2_with fail
    go_loop [9] (fun i => ∃ k : Nat, k ≤ v.size ∧ i = .int .i64 k ∧ Hid (∀ x ∈ v.data.toList.take k, 32 ≤ x.toNat)) (fun i => v.size - (intOf i).toNat)
    case atStart => exact ⟨0, Nat.zero_le _, rfl, Lib.hid (by simp)⟩
    case round =>
      obtain ⟨k, hk, rfl, HA⟩ := hrel
      by_cases hlt : k < v.size
      · have hx : v.data.toList[k]? = some v[k] := Lib.data_getElem? v k hlt
        generalize hc : v[k] = c at hx
        by_cases h32 : (c.toNat : Int) < 32
        · clear hx HA
          go_wp2_with fail
          refine (sure_yes _ H1.out.2.2.2.1).mono ?_
          rintro e w2 ⟨rfl, g2⟩
          have H2 := Lib.hid (below_then H1.out.2.2.2.2 g2)
          clear g2
          go_wp2_with fail
          go_ret
          exact ⟨rfl, H2.out⟩
        · have HN : Hid (∀ x ∈ v.data.toList.take (k + 1), 32 ≤ x.toNat) := Lib.hid (fun x hx2 => by
            rw [List.take_add_one, hx] at hx2
            rcases List.mem_append.1 hx2 with h | h
            · exact HA.out x h
            · have : x = c := by simpa using h
              subst this; omega)
          clear hx HA
          go_wp2_with fail
          go_round
          case rel => exact ⟨k + 1, by omega, by go_num, HN⟩
          case measure => simp [intOf]; omega
      · obtain rfl : k = v.size := by omega
        have HV : Hid (∀ x ∈ v.data.toList, 32 ≤ x.toNat) := Lib.hid (by
          have := HA.out
          rwa [List.take_of_length_le (Nat.le_of_eq (Lib.size_eq v).symm)] at this)
        clear HA
        have HPB2 := Lib.hid (HPB.out HV.out)
        have HPG2 := Lib.hid (HPG.out HV.out)
        clear HPB HPG HV
        go_wp2_with fail
        go_loop [10] (fun i => ∃ k : Nat, k ≤ K + 1 ∧ i = .int .i64 k) (fun i => K + 1 - (intOf i).toNat)
        case atStart => exact ⟨0, Nat.zero_le _, rfl⟩
        case round =>
          obtain ⟨j, hj, rfl⟩ := hrel
          have hjs : j < S.size := by omega
          have hx : S.data.toList[j]? = some S[j] := Lib.data_getElem? S j hjs
          generalize hc : S[j] = c at hx
          by_cases hjl : j < K + 1
          · have h10 : ¬ (c.toNat : Int) = 10 := by
              intro h
              have hc10 : c = 10 := UInt8.toNat_inj.1 (by rw [show (10 : UInt8).toNat = 10 from rfl]; omega)
              rw [HSF.out] at hx
              by_cases hjK : j < K
              · rw [List.getElem?_append_left (by rw [← HK.out]; exact hjK)] at hx
                exact HF10.out (hc10 ▸ List.mem_of_getElem? hx)
              · obtain rfl : j = K := by omega
                rw [List.getElem?_append_right (by rw [← HK.out]; exact Nat.le_refl _), ← HK.out, Nat.sub_self] at hx
                have : (13 : UInt8) = c := by simpa using hx
                rw [← this] at hc10
                exact absurd hc10 (by decide)
            clear hx
            go_wp2_with fail
            go_round
            case rel => exact ⟨j + 1, by omega, by go_num⟩
            case measure => simp [intOf]; omega
          · obtain rfl : j = K + 1 := by omega
            have hc10 : c = 10 := by
              rw [HSF.out, List.getElem?_append_right (by rw [← HK.out]; omega), ← HK.out] at hx
              have : K + 1 - K = 1 := by omega
              rw [this] at hx
              have : (10 : UInt8) = c := by simpa using hx
              exact this.symm
            subst hc10
            clear hx
            go_wp2_with fail
            obtain ⟨L, hL⟩ : ∃ L : Nat, L = K + 2 := ⟨_, rfl⟩
            rw [← hL] at HQ HZ
            obtain ⟨z1, z2⟩ := HZ.out
            obtain ⟨A, hA⟩ : ∃ A : Nat, A = K + 1 := ⟨_, rfl⟩
            have hA2 : ((K : Int) + 1) = (A : Int) := by omega
            rw [hA2]
            have b0 : IntKind.i64.wrap ((A : Int) + 1) = (L : Int) := by rw [IntWalk.i64_in _ (by omega)]; omega
            have b1 : ¬ 9223372036854775807 < L + n.size := by omega
            have b2 : ¬ 9223372036854775807 < L + n.size + 2 := by omega
            have b3 : ¬ 9223372036854775807 < L + n.size + 2 + v.size := by omega
            have b4 : ¬ 9223372036854775807 < L + n.size + 2 + v.size + 2 := by omega
            have b5 : ¬ 9223372036854775807 < L + n.size + 2 + v.size + 2 + R.length := by omega
            have b7 : (0 : Int) ≤ (L : Int) := by omega
            have b8 : (L : Int) ≤ S.size := by omega
            have b9 : L ≤ S.size := by omega
            have HSL : Hid (L = K + 2 ∧ A = K + 1 ∧ S.size = K + 2 + R.length) := Lib.hid ⟨hL, hA, hSl⟩
            have HRl := Lib.hid hRl
            clear hA2 hL hA hSl hRl hc hjs hj hjl
            have hs3 := held3_drew H1.out
            go_region_held3 (fun x => x.cell? ⟨w.heap.size, 0, none⟩ = some (.string m) ∧ x.cell? ⟨w.heap.size, 1, none⟩ = some (.string p) ∧ x.cell? ⟨w.heap.size, 2, none⟩ = some (.string b) ∧ Gh x ∧ Below w.heap.size w x)
              (assumption)
              (fail)
            rw [HQ.out]
            have H3 := Lib.hid (held3_drew H1.out)
            clear hs3 b0 b1 b2 b3 b4 b5 b7 b8 b9 z1 z2 HQ HZ HSF HF10 HK H1 HG HW HPL
            generalize w2.drew = w3 at *
            have c0 := H3.out.1
            have c1 := H3.out.2.1
            have c2 := H3.out.2.2.1
            by_cases hbig : (4096 : Int) < (T.size : Int) - b.size
            · have HP := Lib.hid (HPG2.out (by omega))
              clear HPG2 HPB2
              go_wp2_with fail
              refine (HP.out _ H3.out.2.2.2.1).mono ?_
              rintro e w4 ⟨rfl, g4⟩
              have H4 := Lib.hid (held3 H3.out g4)
              clear g4
              have HS4 := Lib.hid (fun o => held3 H4.out (below_alloc w4 o))
              go_wp2_with fail
              refine (sure_yes _ (HS4.out _).2.2.2.1).mono ?_
              rintro e w5 ⟨rfl, g5⟩
              have H5 := Lib.hid (below_then (HS4.out _).2.2.2.2 g5)
              clear g5
              go_wp2_with fail
              go_ret
              exact ⟨rfl, H5.out⟩
            · have HP := Lib.hid (HPB2.out (by omega))
              clear HPG2 HPB2
              go_wp2_with fail
              refine (HP.out _ H3.out.2.2.2.1).mono ?_
              rintro e w4 ⟨rfl, g4⟩
              have H4 := Lib.hid (held3 H3.out g4)
              clear g4 c0 c1 c2
              have hs4 := fun o => held3 H4.out (below_alloc w4 o)
              have HS4 := Lib.hid hs4
              have c0 := fun o => (hs4 o).1
              have c1 := fun o => (hs4 o).2.1
              have c2 := fun o => (hs4 o).2.2.1
              have d0 := H4.out.1
              have d1 := H4.out.2.1
              have d2 := H4.out.2.2.1
              have b2 := heap_alloc_new w4 (.cells #[.string m, .string p, .string b] 23)
              clear hs4
              go_wp2_with fail
              refine (sure_yes _ (HS4.out _).2.2.2.1).mono ?_
              rintro e w5 ⟨rfl, g5⟩
              have H5 := Lib.hid (below_then (HS4.out _).2.2.2.2 g5)
              clear g5
              go_wp2_with fail
              go_ret
              exact ⟨rfl, H5.out⟩
theorem lines_walk (m p b n v : ByteArray) (w : World) (hm : m.size ≤ 1048576) (hp : p.size ≤ 1048576) (hb : b.size ≤ 1048576) (hn : n.size ≤ 1048576) (hv : v.size ≤ 1048576) (G : Gh w) :
    Calls Tryd.prog 4 #[.agg #[.string m, .string p, .string b], .string n, .string v] w fun e w' => e = .returned (.bool true) ∧ Below w.heap.size w w' := by
  by_cases he : (write m.data.toList p.data.toList b.data.toList).2 = 0
  · exact ln_yes m p b n v w hm hp hb hn hv G he
  · exact ln_no m p b n v w hm hp hb G he
end Go.Proofs.YtknoikjkbnafoabDoor
