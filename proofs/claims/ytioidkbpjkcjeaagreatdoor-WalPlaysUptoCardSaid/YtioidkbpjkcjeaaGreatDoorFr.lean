/- The document's own numbers in bytes, for layers above it. Conditions: those that each theorem names. -/
import Derived.Test.YtioidkbpjkcjeaaGreatDoorFx
import Derived.OwnWalk
namespace Go.Proofs.YtioidkbpjkcjeaaGreatDoor
open Go.RowKit
set_option maxHeartbeats 400000 in
theorem unfixRef_wrong (s : ByteArray) (w : World) (h : s.size < 1 ∨ 8 < s.size) (hs : s.size ≤ maxLen) :
    Calls Tryz.prog 81 #[.string s] w fun e w' => e = .returned (.tuple #[.int .u64 0, .int .i64 11]) ∧ w = w' := by
  unfold maxLen at hs
  go_enter Tryz.func81, Tryz.ntmps81
  go_wp2
  all_goals go_ret2
  all_goals exact ⟨rfl, rfl⟩
theorem unfL_le7 (l : List UInt8) (h : l.length ≤ 7) : unfL l ≤ 72057594037927935 := by
  have h1 := unfL_lt l
  have h2 : 256 ^ l.length ≤ 256 ^ 7 := Nat.pow_le_pow_right (by decide) h
  have h3 : (256 : Nat) ^ 7 = 72057594037927936 := by decide
  omega
set_option maxHeartbeats 400000 in
theorem unfixRef_any (s : ByteArray) (w : World) (h : 1 ≤ s.size) (h' : s.size ≤ 8) :
    Calls Tryz.prog 81 #[.string s] w fun e w' => e = .returned (.tuple #[.int .u64 (unfL s.data.toList), .int .i64 0]) ∧ w = w' := by
  go_enter Tryz.func81, Tryz.ntmps81
  go_wp2
  go_loop [4, 5] (fun c i => ∃ j : Nat, j ≤ s.size ∧ i = .int .i64 ((j : Int) - 1) ∧ c = .int .u64 (unfL (s.data.toList.drop j))) (fun _ i => (intOf i + 1).toNat)
  case atStart => exact ⟨s.size, Nat.le_refl _, rfl, by rw [List.drop_of_length_le (by simp)]; rfl⟩
  case round =>
    obtain ⟨j, hj, rfl, rfl⟩ := hrel
    match j, hj with
    | 0, hj =>
      go_wp2
      go_ret2
      exact ⟨rfl, rfl⟩
    | k + 1, hj =>
      have ek : ((k + 1 : Nat) : Int) - 1 = (k : Int) := by omega
      rw [ek]
      have hlt : k < s.size := hj
      have hb : IntKind.u64.wrap ((s[k]'hlt).toNat : Int) = (byN s k : Int) := by rw [byN_get s k hlt]; have := byN_lt s k; exact IntWalk.u64_in _ (by omega)
      have hb2 := byN_lt s k
      have hu := unfL_le7 (s.data.toList.drop (k + 1)) (by simp; omega)
      have hd : unfL (s.data.toList.drop k) = byN s k + 256 * unfL (s.data.toList.drop (k + 1)) := by
        have e : s.data.toList.drop k = s[k] :: s.data.toList.drop (k + 1) := by
          rw [List.drop_eq_getElem_cons (by simpa using hlt)]; rfl
        have e2 : (s[k]'hlt).toNat = byN s k := by unfold byN; rw [dif_pos hlt]
        rw [e]; simp only [unfL, e2]
      have HD := Lib.hid hd
      clear hd ek
      go_wp2
      go_round
      case rel => exact ⟨k, by omega, by first | rfl | go_num, by rw [HD.out]; congr 1; omega⟩
      case measure => simp [intOf]
theorem fixL_snoc : ∀ k n, fixL (k + 1) n = fixL k n ++ [UInt8.ofNat (n / 256 ^ k % 256)]
  | 0, n => by simp [fixL]
  | k + 1, n => by
    rw [show fixL (k + 1 + 1) n = UInt8.ofNat (n % 256) :: fixL (k + 1) (n / 256) from rfl, fixL_snoc k (n / 256), Nat.div_div_eq_div_mul, Nat.pow_succ, Nat.mul_comm 256]
    rfl
theorem Tryz.infoU8 : (Tryz.prog.info? 5).map (fun i => (i.zero, i.size, i.bytes)) = some (some (.int .u8 0), 1, 1) := by kernel_rfl
def u8f (l : List UInt8) : List Value := l.map fun c => Value.int .u8 (c.toNat : Int)
theorem conv_f {w : World} {B : Nat} {v : Value} {l : List UInt8} (h : w.ownsRow B 5 1 v l.length (u8f l)) (hl : 1 ≤ l.length) :
    ∃ g cap, v = .slice (some ⟨g, 0, none⟩) l.length cap ∧ B ≤ g ∧ (convert 80 9 (.slice (some ⟨g, 0, none⟩) l.length cap)).run Tryz.prog w = .ok (.string ⟨l.toArray⟩) w := by
  obtain ⟨_, h | ⟨g, cap, cur, rfl, hg, hrow, hn, _, hsz, htk⟩⟩ := h
  · omega
  · refine ⟨g, cap, rfl, hg, run_convert_bytes_back (P := Tryz.prog) w _ _ 5 _ _ l Tryz.underlying80 Tryz.underlying5 Tryz.underlying9 fun j hj => ?_⟩
    have ha : (⟨g, 0, none⟩ : Addr).add j = ⟨g, j, none⟩ := by unfold Addr.add; split <;> simp_all
    rw [ha, cell_of_row _ _ _ _ _ _ hrow]
    have h1 : (cur.toList.take (l.length * 1))[j]? = (u8f l)[j]? := by rw [htk]
    rw [List.getElem?_take_of_lt (by omega)] at h1
    simp [u8f, hj] at h1
    exact h1
set_option maxHeartbeats 400000 in
theorem fixRef_wrong (N : Nat) (k : Int) (w : World) (h : k < 1 ∨ 8 < k) :
    Calls Tryz.prog 92 #[.int .u64 (N : Int), .int .i64 k] w fun e w' => e = .returned (.tuple #[.string ⟨#[]⟩, .int .i64 11]) ∧ Below w.heap.size w w' := by
  go_enter Tryz.func92, Tryz.ntmps92
  go_wp2
  all_goals go_ret2
  all_goals exact ⟨rfl, Below.refl _ _⟩
set_option maxHeartbeats 800000 in
set_option maxRecDepth 100000 in
theorem fixRef_any (N K : Nat) (w : World) (h : 1 ≤ K) (h' : K ≤ 8) (hN : N < 18446744073709551616) (R : Value) (hR : Hid (R = if N < 256 ^ K then .tuple #[.string ⟨(fixL K N).toArray⟩, .int .i64 0] else .tuple #[.string ⟨#[]⟩, .int .i64 11])) :
    Calls Tryz.prog 92 #[.int .u64 (N : Int), .int .i64 (K : Int)] w fun e w' =>
      e = .returned R ∧ Below w.heap.size w w' := by
  obtain ⟨i0, hi, hz0, hz1, hz2⟩ := info_parts Tryz.infoU8
  go_enter Tryz.func92, Tryz.ntmps92
  go_wp2
  go_loopw [0, 6, 7] (fun n v i wr => ∃ k : Nat, k ≤ K ∧ i = .int .i64 k ∧ n = .int .u64 ((N / 256 ^ k : Nat) : Int) ∧ wr.ownsRow w.heap.size 5 1 v k (u8f (fixL k N)) ∧ Below w.heap.size w wr) (fun _ _ i _ => K - (intOf i).toNat)
  case atStart => exact ⟨0, Nat.zero_le _, rfl, by simp, World.ownsRow_nil _ _ _ _, Below.refl _ _⟩
  case round =>
    obtain ⟨k, hk, rfl, rfl, hown, hbel⟩ := hrel
    by_cases hlt : k < K
    · obtain ⟨n, hn⟩ : ∃ n, n = N / 256 ^ k := ⟨_, rfl⟩
      have hn' : n ≤ 18446744073709551615 := by rw [hn]; have := Nat.div_le_self N (256 ^ k); omega
      have hs := Lib.hid hn
      rw [← hn]
      clear hn
      go_wp2_with (at_builtin; refine wpList_append_own _ rfl _ _ 80 rfl w.heap.size 5 i0 (.int .u8 0) 1 1 Tryz.underlying80 hi hz0 hz1 hz2 rfl (by decide) _ _ _ rfl (hown.alloc _) ⟨wr.heap.size, 0, none⟩ 1 1 [.int .u8 ((n : Int) % 256)] rfl rfl ?c1 ?c2 ?c3 ?c4 ?c5 ?_)
      case c1 =>
        intro j u hj
        match j, hj with
        | 0, hj => simp at hj; subst hj; simp [Addr.add]
      case c2 => intro u hu; simp at hu; subst hu; rfl
      case c3 => unfold maxLen; omega
      case c4 => omega
      case c5 => have := hbel.size; simp; omega
      · intro v' w1 hown' hgrow _
        have ho2 : w1.ownsRow w.heap.size 5 1 v' (k + 1) (u8f (fixL (k + 1) N)) := by
          rw [fixL_snoc, ← hs.out]
          have e : u8f (fixL k N ++ [UInt8.ofNat (n % 256)]) = u8f (fixL k N) ++ [.int .u8 ((n : Int) % 256)] := by
            simp only [u8f, List.map_append, List.map_cons, List.map_nil, UInt8.toNat_ofNat']; congr 3; omega
          rw [e]; exact hown'
        have hb2 : Below w.heap.size w w1 := by
          refine (hbel.alloc hbel.size _).grown hgrow (by have := hbel.size; simp; omega) fun k hk => ?_
          obtain ⟨_, h | ⟨g, cap, cur, rfl, hg, _⟩⟩ := hown
          · rw [h.1] at hk; cases hk
          · simp [Value.ownBlock] at hk; omega
        have HO := Lib.hid ho2
        have HB := Lib.hid hb2
        clear hown' hgrow hown hbel ho2 hb2
        go_wp2
        go_roundw
        case rel => exact ⟨k + 1, by omega, by go_num, by rw [Nat.pow_succ, ← Nat.div_div_eq_div_mul, ← hs.out]; rfl, HO.out, HB.out⟩
        case measure => simp [intOf]; omega
    · obtain rfl : k = K := by omega
      obtain ⟨g, cap, rfl, hg, hcv⟩ := conv_f (l := fixL k N) (by rw [fixL_length]; exact hown) (by rw [fixL_length]; exact h)
      rw [fixL_length] at hcv ⊢
      by_cases hf : N < 256 ^ k
      · have hz : N / 256 ^ k = 0 := Nat.div_eq_of_lt hf
        rw [hz]
        clear hz
        go_wp2
        go_ret2
        exact ⟨by rw [hR.out, if_pos hf]; rfl, hbel⟩
      · have hz : 0 < N / 256 ^ k := Nat.div_pos (by omega) (Nat.pow_pos (by decide))
        have HF := Lib.hid hf
        obtain ⟨n, hn⟩ : ∃ n, n = N / 256 ^ k := ⟨_, rfl⟩
        rw [← hn] at hz ⊢
        clear hn hf
        go_wp2
        go_ret2
        exact ⟨by rw [hR.out, if_neg HF.out]; rfl, hbel⟩
end Go.Proofs.YtioidkbpjkcjeaaGreatDoor
