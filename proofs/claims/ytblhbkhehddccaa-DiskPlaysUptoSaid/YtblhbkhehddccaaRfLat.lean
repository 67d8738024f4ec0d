/- The law's 'later': faults whose steps count from the next one. Conditions: those that each theorem names. -/
import Derived.Test.YtblhbkhehddccaaRfPlan
import Derived.Test.YtblhbkhehddccaaRfCrash
namespace Go.Proofs.Ytblhbkhehddccaa
set_option linter.unusedVariables false
open Go.RowKit Dk
def farB : Int := 1099511627776
def laterF (z : Int) (f : Int × Int × Int) : Int × Int × Int := if 0 < f.1 ∧ f.1 < farB then (f.1 + z, f.2.1, f.2.2) else f
def laterL (z : Int) (l : List (Int × Int × Int)) : List (Int × Int × Int) := l.map (laterF z)
theorem later_next {z : Int} {l : List (Int × Int × Int)} {k : Nat} (h : k < l.length) : (laterL z l).take (k + 1) = (laterL z l).take k ++ [laterF z l[k]] := by
  have hl : k < (laterL z l).length := by unfold laterL; simpa using h
  rw [List.take_succ_eq_append_getElem hl]
  simp [laterL]
theorem FltR.below {w w' : World} {v : Value} {L : List (Int × Int × Int)} (h : FltR w v L) (g : Below w.heap.size w w') : FltR w' v L := by
  rcases h with h | ⟨b, off, c, rfl, hg, hc⟩
  · exact .inl h
  · exact .inr ⟨b, off, c, rfl, Nat.lt_of_lt_of_le hg g.size, fun W' hW => hc W' (hW.trans (g.block b hg))⟩
def LaI (w : World) (z : Int) (l : List (Int × Int × Int)) (k : Nat) (u : Value) (wr : World) : Prop :=
  wr.ownsRow w.heap.size 63 3 u ((laterL z l).take k).length (fltCells ((laterL z l).take k)) ∧ Below w.heap.size w wr
theorem src_three {w : World} {a b c : Value} {T : TypeId} {xs : List Value} (hx : xs = [a, b, c]) : ∀ j u, xs[j]? = some u → (w.alloc (.cells #[a, b, c] T)).cell? ((⟨w.heap.size, 0, none⟩ : Addr).add j) = some u := by
  subst hx
  obtain ⟨e0, e1, e2⟩ := cellsThree (heapLast w (.cells #[a, b, c] T))
  intro j u hu
  match j, hu with
  | 0, hu => injection hu with hu; subst hu; have ea : (⟨w.heap.size, 0, none⟩ : Addr).add 0 = ⟨w.heap.size, 0, none⟩ := by simp [Addr.add]
             rw [ea]; exact e0
  | 1, hu => injection hu with hu; subst hu; have ea : (⟨w.heap.size, 0, none⟩ : Addr).add 1 = ⟨w.heap.size, 1, none⟩ := by simp [Addr.add]
             rw [ea]; exact e1
  | 2, hu => injection hu with hu; subst hu; have ea : (⟨w.heap.size, 0, none⟩ : Addr).add 2 = ⟨w.heap.size, 2, none⟩ := by simp [Addr.add]
             rw [ea]; exact e2
  | n + 3, hu => simp at hu
theorem later_step {w wq W1 : World} {z : Int} {l : List (Int × Int × Int)} {k : Nat} {u : Value} (h : LaI w z l k u wq) (hk : k < l.length) (hl : l.length ≤ 1048576) (hb : Below wq.heap.size wq W1) (a b c : Int) (hy : laterF z l[k] = (a, b, c)) :
    ∃ u' W3, (∀ ty, (Builtin.append_ #[29, 29] ty #[u, .slice (some ⟨W1.heap.size, 0, none⟩) 1 1]).run Try.prog (W1.alloc (.cells #[.int .i64 a, .int .i64 b, .int .i64 c] 63)) = .ok u' W3) ∧ LaI w z l (k + 1) u' W3 := by
  obtain ⟨h1, h2⟩ := h
  have ba := belowNew W1 (.cells #[.int .i64 a, .int .i64 b, .int .i64 c] 63)
  have k1 : Below w.heap.size w W1 := h2.trans (hb.mono h2.size)
  have k2 := k1.trans (ba.mono k1.size)
  have r1 : (W1.alloc (.cells #[.int .i64 a, .int .i64 b, .int .i64 c] 63)).ownsRow w.heap.size 63 3 u ((laterL z l).take k).length (fltCells ((laterL z l).take k)) := ownsRow_same h1 fun g hg => by
    have := (h1.lt g hg).2
    rw [ba.block g (by have := hb.size; omega), hb.block g this]
  obtain ⟨u', W3, run3, own3, gr3⟩ := append_flts (B := [(a, b, c)]) (q := some ⟨W1.heap.size, 0, none⟩) (c := 1) r1 (.inr ⟨_, rfl, src_three (by simp [fltCells])⟩) (by rw [List.length_take]; simp; omega) k2.size
  refine ⟨u', W3, run3, ?_, k2.grown gr3 k2.size (fun g hg => (h1.lt g hg).1)⟩
  rw [later_next hk, hy]
  exact own3
set_option maxHeartbeats 2000000 in
set_option maxRecDepth 100000 in
theorem later_any (l : List (Int × Int × Int)) (v : Value) (z : Int) (w : World) (h : FltR w v l) (hl : l.length ≤ 1048576) (hz : 0 ≤ z ∧ z ≤ 1099511627776) :
    Calls Try.prog 20 #[v, .int .i64 z] w fun e w' => ∃ u, e = .returned u ∧ LaI w z l l.length u w' := by
  obtain ⟨p, c, rfl⟩ := h.form
  have HH := Lib.hid h
  have HL := Lib.hid hl
  have HZ := Lib.hid hz
  have hs0 : LaI w z l 0 (.slice none 0 0) w := ⟨World.ownsRow_nil _ _ _ _, Below.refl _ _⟩
  have HS := Lib.hid hs0
  obtain ⟨n, hn⟩ : ∃ n, n = l.length := ⟨_, rfl⟩
  rw [← hn]
  have HN := Lib.hid hn
  have hnm : n ≤ maxLen := by unfold maxLen; omega
  have HNM := Lib.hid hnm
  clear h hl hz hs0 hn hnm
  go_enter Try.func20, Try.ntmps20
  go_wp2_with fail
  go_loopw [5, 6] (fun u i wr => ∃ k : Nat, k ≤ n ∧ i = .int .i64 k ∧ LaI w z l k u wr) (fun _ i _ => n - (intOf i).toNat)
  case atStart => exact ⟨0, Nat.zero_le _, rfl, HS.out⟩
  case round =>
    obtain ⟨k, hk, rfl, hI⟩ := hrel
    have HI := Lib.hid hI
    obtain ⟨wq, rfl⟩ : ∃ wq : World, wq = wr := ⟨_, rfl⟩
    have HQ := Lib.hid (HH.out.below HI.out.2)
    clear hI
    by_cases hlt : k < n
    · have hlk : k < l.length := by rw [← HN.out]; exact hlt
      obtain ⟨g, off, rfl, hc⟩ := flt_cell HQ.out hlk
      obtain ⟨c0, c1, c2⟩ := hc wq rfl
      have VX := Lib.hid (fun (W1 : World) (hb : Below wq.heap.size wq W1) (a b c : Int) (hy : laterF z l[k] = (a, b, c)) => later_step HI.out hlk HL.out hb a b c hy)
      generalize l[k] = y at *
      obtain ⟨ys, yk, yn⟩ := y
      simp only at c0 c1 c2
      obtain ⟨e0, e1, e2⟩ := cellsThree (heapLast wq (.cells #[.int .i64 ys, .int .i64 yk, .int .i64 yn] 63))
      have hb1 := Lib.hid (belowNew wq (.cells #[.int .i64 ys, .int .i64 yk, .int .i64 yn] 63))
      have hwn := wrapNext HNM.out hlt
      clear hc hlk
      by_cases h1 : 0 < ys
      · have d1 : decide (0 < ys) = true := decide_eq_true h1
        by_cases h2 : ys < farB
        · have d2 : decide (ys < farB) = true := decide_eq_true h2
          have hw : wrap64 (ys + z) = ys + z := by have := HZ.out; unfold farB at h2; unfold wrap64; omega
          unfold farB at d2
          obtain ⟨u', W3, run3, I3⟩ := VX.out (wq.alloc (.cells #[.int .i64 (ys + z), .int .i64 yk, .int .i64 yn] 63)) (belowNew wq _) (ys + z) yk yn (by unfold laterF; rw [if_pos ⟨h1, h2⟩])
          have HI3 := Lib.hid I3
          have hsz : (wq.alloc (.cells #[.int .i64 (ys + z), .int .i64 yk, .int .i64 yn] 63)).heap.size = wq.heap.size + 1 := by show (wq.heap.push _).size = _; simp
          rw [hsz] at run3
          clear I3 VX hsz h1 h2
          go_wp2_with (at_builtin; refine wpList_append_run (by rfl) _ _ _ _ (by rfl) _ _ u' W3 (by rfl) (by rfl) run3 ?_)
          go_roundw
          case rel => exact ⟨k + 1, by omega, congrArg _ hwn, HI3.out⟩
          case measure => rw [hwn]; exact nextLess hlt
        · have d2 : decide (ys < farB) = false := decide_eq_false h2
          unfold farB at d2
          obtain ⟨u', W3, run3, I3⟩ := VX.out (wq.alloc (.cells #[.int .i64 ys, .int .i64 yk, .int .i64 yn] 63)) (belowNew wq _) ys yk yn (by unfold laterF; rw [if_neg (fun c => h2 c.2)])
          have HI3 := Lib.hid I3
          have hsz : (wq.alloc (.cells #[.int .i64 ys, .int .i64 yk, .int .i64 yn] 63)).heap.size = wq.heap.size + 1 := by show (wq.heap.push _).size = _; simp
          rw [hsz] at run3
          clear I3 VX hsz h1 h2
          go_wp2_with (at_builtin; refine wpList_append_run (by rfl) _ _ _ _ (by rfl) _ _ u' W3 (by rfl) (by rfl) run3 ?_)
          go_roundw
          case rel => exact ⟨k + 1, by omega, congrArg _ hwn, HI3.out⟩
          case measure => rw [hwn]; exact nextLess hlt
      · have d1 : decide (0 < ys) = false := decide_eq_false h1
        obtain ⟨u', W3, run3, I3⟩ := VX.out (wq.alloc (.cells #[.int .i64 ys, .int .i64 yk, .int .i64 yn] 63)) (belowNew wq _) ys yk yn (by unfold laterF; rw [if_neg (fun c => h1 c.1)])
        have HI3 := Lib.hid I3
        have hsz : (wq.alloc (.cells #[.int .i64 ys, .int .i64 yk, .int .i64 yn] 63)).heap.size = wq.heap.size + 1 := by show (wq.heap.push _).size = _; simp
        rw [hsz] at run3
        clear I3 VX hsz h1
        go_wp2_with (at_builtin; refine wpList_append_run (by rfl) _ _ _ _ (by rfl) _ _ u' W3 (by rfl) (by rfl) run3 ?_)
        go_roundw
        case rel => exact ⟨k + 1, by omega, congrArg _ hwn, HI3.out⟩
        case measure => rw [hwn]; exact nextLess hlt
    · obtain rfl : k = n := by omega
      go_wp2_with fail
      go_ret
      exact ⟨_, rfl, HI.out⟩
end Go.Proofs.Ytblhbkhehddccaa
