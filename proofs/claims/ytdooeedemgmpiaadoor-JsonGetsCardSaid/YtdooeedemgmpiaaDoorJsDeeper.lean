/- The call deeper. Conditions: those that each theorem names. -/
import Derived.Test.YtdooeedemgmpiaaDoorJsWhole
namespace Go.Proofs.YtdooeedemgmpiaaDoor
set_option linter.unusedVariables false
open Go Go.RowKit Js

theorem KidsAt.at {S : Nat → Prop} {w : World} {p : Option Addr} : ∀ {i : Nat} {l : List J}, KidsAt S w p i l → ∀ q (h : q < l.length), ∃ g off v, p = some ⟨g, off, none⟩ ∧ S g ∧ g < w.heap.size ∧ Five w g (off + (i + q) * 5) v ∧ JAt S w l[q] v
  | _, [], _, q, h => by simp at h
  | i, j :: l, hk, 0, h => by
    unfold KidsAt at hk
    exact hk.1
  | i, j :: l, hk, q + 1, h => by
    unfold KidsAt at hk
    obtain ⟨g, off, v, h1, h2, h3, h4, h5⟩ := KidsAt.at hk.2 q (by simpa using h)
    exact ⟨g, off, v, h1, h2, h3, by rwa [show i + (q + 1) = i + 1 + q by omega], h5⟩
mutual
/-- No text and no row within is too great for the walks. -/
def Fits : J → Prop
  | .mk _ _ t ns l => t.size ≤ 16777215 ∧ ns.length ≤ 16777215 ∧ l.length ≤ 16777215 ∧ (∀ n ∈ ns, n.size ≤ 16777215) ∧ FitsAll l
def FitsAll : List J → Prop
  | [] => True
  | j :: l => Fits j ∧ FitsAll l
end
theorem FitsAll.mem : ∀ {l : List J}, FitsAll l → ∀ j ∈ l, Fits j
  | [], _, _, h => by simp at h
  | a :: l, hf, j, h => by
    unfold FitsAll at hf
    rcases List.mem_cons.1 h with h | h
    · rw [h]; exact hf.1
    · exact FitsAll.mem hf.2 j h
def DeepOk (j : J) : Prop := ∀ (m : Int) (S : Nat → Prop) (v : Value) (w : World), JAt S w j v → Fits j → -100 ≤ m → m ≤ 100 →
  Calls Tryd.prog 23 #[v, .int .i64 m] w fun e w' => e = .returned (.bool (decide (m < (depth j : Int)))) ∧ Gr none' w w'
theorem depth_pos (j : J) : 1 ≤ depth j := by cases j; simp [depth]
theorem depth_all (l : List J) (n : Nat) : depthAll l ≤ n ↔ ∀ j ∈ l, depth j ≤ n := by
  induction l with
  | nil => simp [depthAll]
  | cons j l ih => simp [depthAll, Nat.max_le, ih]
def DeepR (l : List J) (m : Int) (w : World) (k : Nat) (wr : World) : Prop := Gr none' w wr ∧ ∀ j ∈ l.take k, (depth j : Int) ≤ m - 1
set_option maxHeartbeats 1000000 in
set_option maxRecDepth 100000 in
theorem deep_step (k n : Int) (t : ByteArray) (ns : List ByteArray) (l : List J) (hl : ∀ j ∈ l, DeepOk j) : DeepOk (.mk k n t ns l) := by
  intro m S v w h hfit h0 h1
  unfold Fits at hfit
  obtain ⟨-, -, hlen, -, hfall⟩ := hfit
  have HF := Lib.hid hfall.mem
  have hlen' : (l.length : Int) ≤ 16777215 := by omega
  unfold JAt at h
  obtain ⟨np, nc, lp, lc, rfl, -, hk⟩ := h
  have HD := Lib.hid hl
  have HK := Lib.hid hk
  clear hl hk hfall
  go_enter Tryd.func23, Tryd.ntmps23
  by_cases hm : m < 1
  · go_wp2_with fail
    go_ret
    refine ⟨?_, (Gr.refl _ w).alloc _⟩
    have := depth_pos (.mk k n t ns l)
    have e : decide (m < (depth (.mk k n t ns l) : Int)) = true := decide_eq_true (by omega)
    rw [e]; rfl
  · go_wp2_with fail
    go_loopw [12] (fun i wr => ∃ q : Nat, q ≤ l.length ∧ i = .int .i64 q ∧ DeepR l m w q wr) (fun i _ => l.length - (intOf i).toNat)
    case atStart => exact ⟨0, Nat.zero_le _, rfl, (Gr.refl _ w).alloc _, by simp⟩
    case round =>
      obtain ⟨q, hq, rfl, hg, hd⟩ := hrel
      have HG := Lib.hid hg
      have HDD := Lib.hid hd
      by_cases hlt : q < l.length
      · obtain ⟨g, off, v, rfl, hs, hgl, hf, hj⟩ := HK.out.at q hlt
        have hf' := hf.frame (hg.block g hgl (fun x => x))
        have HJ := Lib.hid (JAt.frame (S' := S) (w' := wr) (fun _ _ h => h) (fun b hb hbl => hg.block b hbl (fun x => x)) hg.size _ _ hj)
        obtain ⟨np', nc', lp', lc', rfl, -, -⟩ := hj.five
        obtain ⟨a, b, c, d, e, he, hc⟩ := hf'
        simp only [Value.agg.injEq] at he
        simp at he
        obtain ⟨rfl, rfl, rfl, rfl, rfl⟩ := he
        obtain ⟨c0, c1, c2, c3, c4⟩ := hc wr rfl
        have HC := Lib.hid (HD.out l[q] (List.getElem_mem hlt) (m - 1) S)
        have HGL := Lib.hid hgl
        generalize hy : l[q].names.length = y1 at *
        generalize hz : l[q].list.length = y2 at *
        generalize hk : l[q].kind = q1 at *
        generalize hm : l[q].num = q2 at *
        generalize ht : l[q].text = q3 at *
        rw [Nat.zero_add] at c0 c1 c2 c3 c4
        clear hg hd hs hgl hf hj hc hy hz hk ht
        go_wp2_with fail
        refine (HC.out _ _ (HJ.out.alloc _) (HF.out _ (List.getElem_mem hlt)) (by omega) (by omega)).mono ?_
        rintro e w5 ⟨rfl, hg5⟩
        have HG5 : Hid (Gr none' w w5) := Lib.hid ((HG.out.alloc _).trans hg5)
        clear hg5
        by_cases hb : m - 1 < (depth l[q] : Int)
        · have HE : Hid (decide (m < (depth (.mk k n t ns l) : Int)) = true) := Lib.hid (decide_eq_true (by
            have h1 := (depth_all l (depthAll l)).1 (Nat.le_refl _) l[q] (List.getElem_mem hlt)
            simp only [depth]
            omega))
          rw [decide_eq_true hb]
          go_wp2_with fail
          go_ret
          rw [HE.out]
          exact ⟨rfl, HG5.out⟩
        · have HR : Hid (DeepR l m w (q + 1) w5) := Lib.hid ⟨HG5.out, fun j hj => by
            rw [List.take_succ_eq_append_getElem hlt, List.mem_append, List.mem_singleton] at hj
            rcases hj with hj | rfl
            · exact HDD.out j hj
            · omega⟩
          rw [decide_eq_false hb]
          go_wp2_with fail
          go_roundw
          case rel => exact ⟨q + 1, by omega, by go_num, HR.out⟩
          case measure => simp [intOf]; omega
      · obtain rfl : q = l.length := by omega
        have HE : Hid (decide (m < (depth (.mk k n t ns l) : Int)) = false) := Lib.hid (decide_eq_false (by
          have h1 : depthAll l ≤ (m - 1).toNat := (depth_all l _).2 fun j hj => by
            have := hd j (by rwa [List.take_length])
            omega
          simp only [depth]
          omega))
        clear hg hd
        go_wp2_with fail
        go_ret
        rw [HE.out]
        exact ⟨rfl, HG.out⟩
mutual
theorem deeper_any : ∀ j, DeepOk j
  | .mk k n t ns l => deep_step k n t ns l (deeper_all l)
theorem deeper_all : ∀ l : List J, ∀ j ∈ l, DeepOk j
  | [], _, h => by simp at h
  | a :: l, j, h => by
    rcases List.mem_cons.1 h with h | h
    · rw [h]; exact deeper_any a
    · exact deeper_all l j h
end
end Go.Proofs.YtdooeedemgmpiaaDoor
