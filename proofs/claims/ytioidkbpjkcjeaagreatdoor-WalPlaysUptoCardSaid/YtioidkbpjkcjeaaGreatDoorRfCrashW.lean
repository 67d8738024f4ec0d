/- The document's own disk: what Crash does, walked. Conditions: those that each theorem names. -/
import Derived.Test.YtioidkbpjkcjeaaGreatDoorRfCrash
namespace Go.Proofs.YtioidkbpjkcjeaaGreatDoor
set_option linter.unusedVariables false
open Go.RowKit Dk
theorem ints_below {w W : World} {v : Value} {l : List Int} (h : IntsAt w v l) (g : Below w.heap.size w W) : IntsAt W v l := by
  rcases h with h | ⟨b, off, c, rfl, hg, hc⟩
  · exact .inl h
  · exact .inr ⟨b, off, c, rfl, Nat.lt_of_lt_of_le hg g.size, fun W' hW => hc W' (hW.trans (g.block b hg))⟩
theorem ints_form {w : World} {v : Value} {l : List Int} (h : IntsAt w v l) : ∃ p c, v = .slice p l.length c := by
  rcases h with ⟨rfl, p, c, rfl⟩ | ⟨g, off, c, rfl, _⟩
  · exact ⟨p, c, rfl⟩
  · exact ⟨_, c, rfl⟩
theorem ints_cell {w : World} {p : Option Addr} {n c : Nat} {l : List Int} (h : IntsAt w (.slice p n c) l) {j : Nat} (hj : j < l.length) : ∃ g off, p = some ⟨g, off, none⟩ ∧ g < w.heap.size ∧ ∀ W : World, W.heap[g]? = w.heap[g]? → W.cell? ⟨g, off + j, none⟩ = some (.int .i64 l[j]) := by
  rcases h with ⟨rfl, _⟩ | ⟨g, off, c2, hs, hg, hc⟩
  · cases hj
  · injection hs with e1 e2 e3
    exact ⟨g, off, e1, hg, fun W hW => hc W hW j hj⟩
theorem crash_stop {M : RSt} {kk n : Nat} (h : n = min M.opn.length kk) : M.names n = M.names kk := by
  by_cases c : kk ≤ M.opn.length
  · have : n = kk := by omega
    rw [this]
  · have : n = M.opn.length := by omega
    rw [this, ← names_over (k := kk) (by omega)]
theorem rf_form {w : World} {base size n : Nat} {e : TypeId} {v : Value} {xs : List Value} (h : w.ownsRow base e size v n xs) : ∃ p c, v = .slice p n c := by
  rcases h.2 with ⟨rfl, h0⟩ | ⟨g, cap, cur, rfl, _⟩
  · exact ⟨none, 0, by rw [h0]⟩
  · exact ⟨_, _, rfl⟩
def CrI (w1 : World) (M : RSt) (L : List (Nm × Nat)) (bs : List Int) (j : Nat) (fu nu : Value) (wr : World) : Prop :=
  wr.ownsRow w1.heap.size 86 2 fu ((crFiles M L bs).take j).length (fileCells ((crFiles M L bs).take j)) ∧ wr.ownsRow w1.heap.size 119 2 nu ((crNames L).take j).length (nameCells ((crNames L).take j)) ∧
    (∀ g, fu.ownBlock = some g → nu.ownBlock ≠ some g) ∧ Below w1.heap.size w1 wr
theorem crash_arith {sy q b l : Nat} (h1 : sy ≤ l) (h2 : q = min b (l - sy)) (h3 : l ≤ 4611686018427387904) : sy + q ≤ l ∧ ((sy + q : Nat) : Int) = ((min (sy + q) l : Nat) : Int) ∧ wrap64 ((sy : Int) + (q : Int)) = ((sy + q : Nat) : Int) ∧ ((sy + q : Nat) : Int) ≤ (l : Int) ∧ (0 : Int) ≤ ((sy + q : Nat) : Int) := by
  refine ⟨by omega, by omega, by unfold wrap64; omega, by omega, by omega⟩
theorem measLess {n k : Nat} (h : k < n) : n - ((k : Int) + 1).toNat < n - (k : Int).toNat := by omega
theorem src_two {w : World} {a b : Value} {T : TypeId} {xs : List Value} (hx : xs = [a, b]) : ∀ j u, xs[j]? = some u → (w.alloc (.cells #[a, b] T)).cell? ((⟨w.heap.size, 0, none⟩ : Addr).add j) = some u := by
  subst hx
  obtain ⟨e0, e1⟩ := cellsPair (heapLast w (.cells #[a, b] T))
  intro j u hu
  match j, hu with
  | 0, hu =>
    injection hu with hu; subst hu
    have ea : (⟨w.heap.size, 0, none⟩ : Addr).add 0 = ⟨w.heap.size, 0, none⟩ := by simp [Addr.add]
    rw [ea]; exact e0
  | 1, hu =>
    injection hu with hu; subst hu
    have ea : (⟨w.heap.size, 0, none⟩ : Addr).add 1 = ⟨w.heap.size, 1, none⟩ := by simp [Addr.add]
    rw [ea]; exact e1
  | n + 2, hu => simp at hu
/-- A file and a name more, behind a crash. -/
theorem crash_next {w1 wz W1 : World} {M : RSt} {L : List (Nm × Nat)} {bs : List Int} {j : Nat} {fu nu : Value} (h : CrI w1 M L bs j fu nu wz) (hb : Below wz.heap.size wz W1) (x : FileC) (nm : Nm)
    (hf : (crFiles M L bs).take (j + 1) = (crFiles M L bs).take j ++ [x]) (hn : (crNames L).take (j + 1) = (crNames L).take j ++ [(nm, j)]) (hj : j ≤ 1099511627776) (d : ByteArray) (hd : d = ⟨x.data.toArray⟩) (z : Int) (hz : z = x.synced) :
    ∃ fu' W3, (∀ ty, (Builtin.append_ #[27, 27] ty #[fu, .slice (some ⟨W1.heap.size, 0, none⟩) 1 1]).run Tryz.prog (W1.alloc (.cells #[.string d, .int .i64 z] 86)) = .ok fu' W3) ∧ Below w1.heap.size w1 W3 ∧
      ∃ nu' W5, (∀ ty, (Builtin.append_ #[28, 28] ty #[nu, .slice (some ⟨W3.heap.size, 0, none⟩) 1 1]).run Tryz.prog (W3.alloc (.cells #[.string nm, .int .i64 j] 119)) = .ok nu' W5) ∧ CrI w1 M L bs (j + 1) fu' nu' W5 := by
  obtain ⟨h1, h2, h3, h4⟩ := h
  have hsz : ∀ (W : World) (o : Obj), (W.alloc o).heap.size = W.heap.size + 1 := fun W o => by show (W.heap.push o).size = _; simp
  have k1 : Below w1.heap.size w1 W1 := h4.trans (hb.mono h4.size)
  have ba := belowNew W1 (.cells #[.string d, .int .i64 z] 86)
  have k2 : Below w1.heap.size w1 (W1.alloc (.cells #[.string d, .int .i64 z] 86)) := k1.trans (ba.mono k1.size)
  have r1 : (W1.alloc (.cells #[.string d, .int .i64 z] 86)).ownsRow w1.heap.size 86 2 fu ((crFiles M L bs).take j).length (fileCells ((crFiles M L bs).take j)) := ownsRow_same h1 fun g hg => by
    have := (h1.lt g hg).2
    rw [ba.block g (by have := hb.size; omega), hb.block g this]
  have r2 : (W1.alloc (.cells #[.string d, .int .i64 z] 86)).ownsRow w1.heap.size 119 2 nu ((crNames L).take j).length (nameCells ((crNames L).take j)) := ownsRow_same h2 fun g hg => by
    have := (h2.lt g hg).2
    rw [ba.block g (by have := hb.size; omega), hb.block g this]
  have l1 : ((crFiles M L bs).take j).length ≤ j := by rw [List.length_take]; omega
  have l2 : ((crNames L).take j).length ≤ j := by rw [List.length_take]; omega
  obtain ⟨fu', W3, run3, own3, gr3, ob3⟩ := append_files (B := [x]) (q := some ⟨W1.heap.size, 0, none⟩) (c := 1) r1 (.inr ⟨_, rfl, src_two (by simp [fileCells, hd, hz])⟩) (by simp; omega) k2.size
  rw [← hf] at own3
  have k3 : Below w1.heap.size w1 W3 := k2.grown gr3 k2.size (fun g hg => (h1.lt g hg).1)
  have bc := belowNew W3 (.cells #[.string nm, .int .i64 j] 119)
  have s3 := gr3.size
  rw [hsz] at s3
  -- the names' row is another block than the files'
  have r4 : (W3.alloc (.cells #[.string nm, .int .i64 j] 119)).ownsRow w1.heap.size 119 2 nu ((crNames L).take j).length (nameCells ((crNames L).take j)) := ownsRow_same r2 fun g hg => by
    have hlt := (h2.lt g hg).2
    have hlt1 : g < W1.heap.size := Nat.lt_of_lt_of_le hlt hb.size
    rw [bc.block g (by omega)]
    exact gr3.block g (by rw [hsz]; omega) (fun e => h3 g e.symm hg)
  have k4 : Below w1.heap.size w1 (W3.alloc (.cells #[.string nm, .int .i64 j] 119)) := k3.trans (bc.mono k3.size)
  obtain ⟨nu', W5, run5, own5, gr5, ob5⟩ := append_names (B := [(nm, j)]) (q := some ⟨W3.heap.size, 0, none⟩) (c := 1) r4 (.inr ⟨_, rfl, src_two (by simp [nameCells])⟩) (by simp; omega) k4.size
  rw [← hn] at own5
  have hfl := own3.lt
  have ne : ∀ g, fu'.ownBlock = some g → nu'.ownBlock ≠ some g := fun g hg hn' => by
    have q1 := hfl g hg
    rcases ob5 with e5 | e5
    · rw [e5] at hn'
      have hlt := (h2.lt g hn').2
      have hlt1 : g < W1.heap.size := Nat.lt_of_lt_of_le hlt hb.size
      rcases ob3 with e3 | e3
      · rw [e3] at hg; exact h3 g hg hn'
      · rw [e3, hsz] at hg; injection hg with hg; omega
    · rw [e5, hsz] at hn'; injection hn' with hn'; omega
  refine ⟨fu', W3, run3, k3, nu', W5, run5, ?_, own5, ne, k4.grown gr5 k4.size (fun g hg => (h2.lt g hg).1)⟩
  refine ownsRow_same own3 fun g hg => ?_
  have q1 := hfl g hg
  rw [gr5.block g (by rw [hsz]; omega) (fun e => ?_), bc.block g (by omega)]
  have hlt := (h2.lt g e.symm).2
  have hlt1 : g < W1.heap.size := Nat.lt_of_lt_of_le hlt hb.size
  rcases ob3 with e3 | e3
  · rw [e3] at hg; exact h3 g hg e.symm
  · rw [e3, hsz] at hg; injection hg with hg; omega
set_option maxHeartbeats 1000000 in
set_option maxRecDepth 100000 in
theorem rcrash_any (B : Nat) (X : Nat → Prop) (M : RSt) (keep : Int) (kk : Nat) (hkk : max keep 0 = (kk : Int)) (bv : Value) (bs : List Int) (w : World) (h : RfAt w B X M) (hb : IntsAt w bv bs) (hbl : bs.length ≤ maxLen)
    (ho : M.opn.length ≤ 1099511627776) (hn : ∀ k, k ≤ M.opn.length → (M.names k).length ≤ 1099511627776) (hf : ∀ p ∈ M.names kk, ∃ f, M.files[p.2]? = some f ∧ f.synced ≤ f.data.length ∧ f.data.length ≤ 4611686018427387904) :
    Calls Tryz.prog 25 #[.pointer (some ⟨B, 0, none⟩), .agg #[.int .i64 keep, bv]] w fun e w' => e = .returned (.tuple #[]) ∧ RfOp w B X (M.crash kk bs) w' := by
  obtain ⟨fv, nv, lv, ov, pv, cs, ht0⟩ := h
  obtain ⟨pb, cb, rfl⟩ := ints_form hb
  obtain ⟨nb, hqb⟩ : ∃ nb, nb = bs.length := ⟨_, rfl⟩
  rw [← hqb] at hb ⊢
  have HQB := Lib.hid hqb
  clear hqb
  obtain ⟨W0, hW0⟩ : ∃ W0, W0 = w.alloc (.cells #[.int .i64 keep, .slice pb nb cb] 43) := ⟨_, rfl⟩
  have hg0 : Below w.heap.size w W0 := by rw [hW0]; exact belowNew w _
  have hbox := heapLast w (.cells #[.int .i64 keep, .slice pb nb cb] 43)
  rw [← hW0] at hbox
  have hwlt : w.heap.size < W0.heap.size := by rw [hW0]; show w.heap.size < (w.heap.push _).size; simp
  have HB0 := Lib.hid (hb)
  have HG0 := Lib.hid hg0
  have HT0 := Lib.hid ht0
  have HT := Lib.hid (ht0.below hg0)
  have HWL := Lib.hid hwlt
  have HBX := Lib.hid (fun W (g : Below W0.heap.size W0 W) => cellsPair ((g.block _ hwlt).trans hbox))
  obtain ⟨n, hnn⟩ : ∃ n, n = min M.opn.length kk := ⟨_, rfl⟩
  have HST := Lib.hid (crash_stop hnn)
  have hcs : cs.length = M.opn.length := by rw [ht0.sets, List.length_map]
  have HCS := Lib.hid hcs
  obtain ⟨po, co, hov⟩ := ht0.opn.form
  obtain ⟨no, hno⟩ : ∃ no, no = cs.length := ⟨_, rfl⟩
  rw [← hno] at hov
  subst hov
  have hnb : no ≤ 1099511627776 := by omega
  have HNN : Hid (n ≤ no ∧ (∀ k, k < n → k < cs.length ∧ (k : Int) < (no : Int) ∧ (k : Int) < keep) ∧ ((decide ((n : Int) < (no : Int))) = true → decide ((n : Int) < keep) = false)) := Lib.hid ⟨by omega, fun k hk => ⟨by omega, by omega, by omega⟩, fun c => by
    have c' := of_decide_eq_true c
    exact decide_eq_false (by omega)⟩
  have HN := Lib.hid hn
  have HNO : Hid (n ≤ M.opn.length) := Lib.hid (by omega)
  have HF := Lib.hid hf
  have HBL := Lib.hid hbl
  have HNB := Lib.hid hnb
  clear hb ht0 hg0 hbox hnn hcs hno ho hn hf hbl hnb hwlt hkk
  go_enter Tryz.func25, Tryz.ntmps25
  subst hW0
  obtain ⟨⟨a0, a1, a2⟩, a3, a4, a5⟩ := HT.out.cells
  have HR0 := Lib.hid HT.out.last
  clear a0 a1 a3 a4 a5
  go_wp2_with fail
  clear a2
  generalize w.alloc (.cells #[.int .i64 keep, .slice pb nb cb] 43) = W0 at *
  go_loopw [4, 5] (fun u i wr => ∃ k : Nat, k ≤ n ∧ i = .int .i64 k ∧ RowN wr u (M.names k) ∧ Below W0.heap.size W0 wr) (fun _ i _ => n - (intOf i).toNat)
  case atStart => exact ⟨0, Nat.zero_le _, rfl, HR0.out, Below.refl _ _⟩
  case round =>
    obtain ⟨k, hk, rfl, hr, hb⟩ := hrel
    have HB := Lib.hid hb
    have HR := Lib.hid hr
    obtain ⟨wq, rfl⟩ : ∃ wq : World, wq = wr := ⟨_, rfl⟩
    obtain ⟨x0, x1⟩ := HBX.out wq hb
    have HQ := Lib.hid (HT.out.below hb)
    obtain ⟨-, a3, -, -⟩ := HQ.out.cells
    have hkb : k < 1099511627777 := by have := HNN.out.1; have := HNB.out; omega
    clear hb hr
    by_cases hlt : k < n
    · obtain ⟨hkc, hkno, hkeep⟩ := HNN.out.2.1 k hlt
      have hd1 : decide ((k : Int) < (no : Int)) = true := decide_eq_true hkno
      have hd2 : decide ((k : Int) < keep) = true := decide_eq_true hkeep
      obtain ⟨g, off, rfl, c0, c1, c2, c3⟩ := chg_cell HQ.out.opn hkc
      have HSU : Hid (M.names (k + 1) = (cs[k]).sets.foldl nmSet (M.names k)) := Lib.hid (by
        have hko : k < M.opn.length := by have := HNO.out; omega
        rw [names_succ hko]
        congr 1
        have e1 : M.opn[k]? = (cs.map Chg.sets)[k]? := by rw [HT0.out.sets]
        rw [List.getElem?_eq_getElem hko, List.getElem?_map, List.getElem?_eq_getElem hkc] at e1
        exact Option.some.inj e1)
      have HD := Lib.hid (done_any (M.names k) _ (cs[k]) wq HR.out (HN.out k (by have := HNO.out; omega)))
      generalize cs[k] = ch at *
      obtain ⟨kd, ca, cb', cf⟩ := ch
      simp only at c0 c1 c2 c3 HD
      clear hkc
      go_wp2_with fail
      refine HD.out.mono ?_
      rintro e w3 ⟨u3, rfl, hu3⟩
      rw [← HSU.out] at hu3
      have HR3 := Lib.hid (row_names hu3.1)
      have HB3 := Lib.hid (HB.out.trans (hu3.2.mono HB.out.size))
      clear hu3
      go_wp2_with fail
      go_roundw
      case rel => exact ⟨k + 1, by omega, by first | rfl | go_num, HR3.out, HB3.out⟩
      case measure => simp [intOf]; omega
    · obtain rfl : k = n := by omega
      have hdis : ((k : Int) < (no : Int) ∧ k < no ∧ ¬ (k : Int) < keep) ∨ (¬ (k : Int) < (no : Int) ∧ ¬ k < no) := by
        by_cases c : k < no
        · exact .inl ⟨by omega, c, by have := HNN.out.2.2 (decide_eq_true (by omega)); simpa using this⟩
        · exact .inr ⟨by omega, c⟩
      obtain ⟨L, hL⟩ : ∃ L, L = M.names k := ⟨_, rfl⟩
      have HR2 := Lib.hid (show RowN wq _ L by rw [hL]; exact HR.out)
      have hLk : L = M.names kk := by rw [hL]; exact HST.out
      have HLK := Lib.hid hLk
      have HFL := Lib.hid (show ∀ p ∈ L, ∃ f, M.files[p.2]? = some f ∧ f.synced ≤ f.data.length ∧ f.data.length ≤ 4611686018427387904 by rw [hLk]; exact HF.out)
      have HLL : Hid (L.length ≤ 1099511627776) := Lib.hid (by rw [hL]; exact HN.out k (by have := HNO.out; omega))
      obtain ⟨pu, cu, hu⟩ := HR2.out.form
      subst hu
      obtain ⟨NL, hNL⟩ : ∃ NL, NL = L.length := ⟨_, rfl⟩
      rw [← hNL] at HR2 ⊢
      have HNL := Lib.hid hNL
      have HIN := Lib.hid (ints_below (ints_below HB0.out HG0.out) (by exact HB.out))
      have HS0 : Hid (CrI wq M L bs 0 (.slice none 0 0) (.slice none 0 0) wq) := Lib.hid ⟨World.ownsRow_nil _ _ _ _, World.ownsRow_nil _ _ _ _, (by intro g hg; cases hg), Below.refl _ _⟩
      clear hL hLk hNL HR HN HNN HNO HST HB0 HF HCS HR0
      rcases hdis with ⟨hd, hd2, hd3⟩ | ⟨hd, hd2⟩
      all_goals
        go_wp2_with fail
        try clear hd3
        clear hd hd2 x0 x1 hk hlt hkb a3
        go_loopw [6, 7, 8] (fun fu nu i wr => ∃ j : Nat, j ≤ NL ∧ i = .int .i64 j ∧ CrI wq M L bs j fu nu wr) (fun _ _ i _ => NL - (intOf i).toNat)
        case atStart => exact ⟨0, Nat.zero_le _, rfl, HS0.out⟩
        case round =>
          obtain ⟨j, hj, rfl, hI⟩ := hrel
          obtain ⟨wz, rfl⟩ : ∃ wz : World, wz = wr := ⟨_, rfl⟩
          have HI := Lib.hid hI
          have HBZ := Lib.hid (HB.out.trans (hI.2.2.2.mono HB.out.size))
          obtain ⟨x0, x1⟩ := HBX.out wz HBZ.out
          have HQZ := Lib.hid (HT.out.below HBZ.out)
          obtain ⟨⟨a0, -, -⟩, -, -, -⟩ := HQZ.out.cells
          have hjb : j < 1099511627777 := by have := HLL.out; have := HNL.out; omega
          have hbl := HBL.out
          clear hI
          by_cases hlt : j < NL
          · have hjl : j < L.length := by rw [← HNL.out]; exact hlt
            obtain ⟨gn, on, rfl, hgn, hcn⟩ := HR2.out.at hjl
            obtain ⟨c0, c1⟩ := hcn wz (HI.out.2.2.2.block gn hgn)
            obtain ⟨f, hff, hsy, hdl⟩ := HFL.out (L[j]) (List.getElem_mem hjl)
            obtain ⟨gf, cf, hfv, hXf, hgB, g0, g1, -, -⟩ := HQZ.out.row hff
            subst hfv
            have b0 := belowNew wz (.cells #[.string ⟨#[]⟩, .int .i64 0] 86)
            have HQ1 := HQZ.out.below b0
            obtain ⟨⟨d0, -, -⟩, -, -, -⟩ := HQ1.cells
            obtain ⟨d1, d2⟩ := hcn _ ((b0.block gn (Nat.lt_of_lt_of_le hgn HI.out.2.2.2.size)).trans (HI.out.2.2.2.block gn hgn))
            obtain ⟨gf', cf', hfv, -, -, f0, f1, -, -⟩ := HQ1.row hff
            injection hfv with q1 q2 q3
            injection q1 with q1
            injection q1 with q1
            subst q1
            clear q2 q3 b0 HQ1
            have HNX := Lib.hid (crNames_next hjl)
            have HFX := Lib.hid (crFiles_next (M := M) (bs := bs) hjl)
            rw [hff] at HFX
            simp only [Option.getD_some] at HFX
            have hil : ((L[j]).2 : Int) < (M.files.length : Int) := by have := (List.getElem?_eq_some_iff.1 hff).1; omega
            generalize L[j] = nm at *
            obtain ⟨nm, ix⟩ := nm
            simp only at c0 c1 d1 d2 f0 f1 g0 g1 hil HNX HFX
            generalize hbs : (⟨f.data.toArray⟩ : ByteArray) = dt at *
            have HDT := Lib.hid hbs
            generalize hsn : f.synced = sy at *
            have HSY := Lib.hid hsn
            generalize M.files.length = nf at *
            clear hbs hsn hff hXf hgB hjl
            go_wp2_with fail
            go_region
            have hp := cellsPair (heapLast wz (.cells #[.string dt, .int .i64 sy] 86))
            have HB1 := Lib.hid (Below.drew (belowNew wz (.cells #[.string dt, .int .i64 sy] 86)))
            obtain ⟨y0, y1⟩ : (wz.alloc (.cells #[.string dt, .int .i64 sy] 86)).drew.cell? ⟨wz.heap.size, 0, none⟩ = some (.string dt) ∧ (wz.alloc (.cells #[.string dt, .int .i64 sy] 86)).drew.cell? ⟨wz.heap.size, 1, none⟩ = some (.int .i64 sy) := hp
            obtain ⟨x2, x3⟩ := HBX.out _ (HBZ.out.trans (HB1.out.mono HBZ.out.size))
            have HI1 := Lib.hid (ints_below HIN.out (HI.out.2.2.2.trans (HB1.out.mono HI.out.2.2.2.size)))
            generalize (wz.alloc (.cells #[.string dt, .int .i64 sy] 86)).drew = W1 at *
            clear x0 x1 d0 d1 d2 f0 f1 g0 g1 c0 c1 a0 hil
            have hsz : dt.size = f.data.length := by rw [← HDT.out]; show f.data.toArray.size = _; simp
            rcases Nat.eq_zero_or_pos nb with hz | hz
            · as_aux_lemma =>
              have hlf : left bs j = 0 := by unfold left; rw [if_pos (by rw [← HQB.out]; exact hz)]
              have hzA : ¬ (0 : Int) < (nb : Int) := by omega
              have hzB : ¬ 0 < nb := by omega
              clear hz
              have hdd : dt.extract 0 sy = ⟨(f.crash (left bs j)).data.toArray⟩ := by
                rw [hlf, ← HDT.out, text_cut]
                show _ = (⟨(f.data.take (f.synced + min 0 _)).toArray⟩ : ByteArray)
                rw [HSY.out, Nat.zero_min, Nat.add_zero]
              have hss : (sy : Int) = ((f.crash (left bs j)).synced : Int) := by
                rw [hlf]
                show _ = (((f.data.take (f.synced + min 0 _)).length : Nat) : Int)
                rw [HSY.out, Nat.zero_min, Nat.add_zero, List.length_take, Nat.min_eq_left hsy]
              obtain ⟨fu', W3, run3, k3, nu', W5, run5, I5⟩ := crash_next HI.out HB1.out (f.crash (left bs j)) nm HFX.out HNX.out (by exact Nat.le_of_lt_succ hjb) _ hdd _ hss
              have HI5 := Lib.hid I5
              obtain ⟨c0, -⟩ := hcn W3 (k3.block gn hgn)
              clear I5 hdd hss hlf
              go_wp2_with (first
                | (at_builtin; refine wpList_append_run (by rfl) _ _ _ _ (by rfl) _ _ fu' W3 (by rfl) (by rfl) run3 ?_)
                | (at_builtin; refine wpList_append_run (by rfl) _ _ _ _ (by rfl) _ _ nu' W5 (by rfl) (by rfl) run5 ?_))
              go_roundw
              case rel => exact ⟨j + 1, Nat.succ_le_of_lt hlt, by first | rfl | go_num, HI5.out⟩
              case measure => show NL - ((j : Int) + 1).toNat < NL - ((j : Int)).toNat; exact measLess hlt
            · as_aux_lemma =>
              have hlt2 : j % nb < bs.length := by rw [← HQB.out]; exact Nat.mod_lt _ hz
              obtain ⟨gb, ob, rfl, hgb, hcb⟩ := ints_cell HI1.out hlt2
              have y2 := hcb W1 rfl
              have e : ((left bs j : Nat) : Int) = max bs[j % nb] 0 := by
                have h0 : ¬ bs.length = 0 := by rw [← HQB.out]; omega
                simp only [left, if_neg h0]
                simp only [← HQB.out, List.getD_eq_getElem?_getD, List.getElem?_eq_getElem hlt2, Option.getD_some]
                omega
              obtain ⟨q, hq⟩ : ∃ q, q = min (left bs j) (f.data.length - sy) := ⟨_, rfl⟩
              generalize bs[j % nb] = x at y2 e
              have hx : max 0 (min x ((f.data.length : Int) - (sy : Int))) = (q : Int) := by omega
              clear hcb hlt2
              have hmod : (j : Int).tmod (nb : Int) = ((j % nb : Nat) : Int) := by rw [Int.tmod_eq_emod_of_nonneg (by omega)]; omega
              have q0 : (0 : Int) ≤ (j : Int) := by omega
              have q1 : (0 : Int) < (nb : Int) := by omega
              have hne : ((nb : Int) == 0) = false := by simp; omega
              have hltI : ((j % nb : Nat) : Int) < (nb : Int) := Int.ofNat_lt.2 (Nat.mod_lt _ hz)
              generalize j % nb = jm at *
              have HQ := Lib.hid hq
              have HXX := Lib.hid e
              clear hq e
              go_wp2_with fail
              go_region
              have hdd : dt.extract 0 (sy + q) = ⟨(f.crash (left bs j)).data.toArray⟩ := by
                rw [← HDT.out, text_cut]
                show _ = (⟨(f.data.take (f.synced + min (left bs j) (f.data.length - f.synced))).toArray⟩ : ByteArray)
                rw [HSY.out, ← HQ.out]
              obtain ⟨hqle, hql, hwr, hq1, hq2⟩ := crash_arith hsy HQ.out hdl
              have hss : ((sy + q : Nat) : Int) = ((f.crash (left bs j)).synced : Int) := by
                show _ = (((f.data.take (f.synced + min (left bs j) (f.data.length - f.synced))).length : Nat) : Int)
                rw [HSY.out, ← HQ.out, List.length_take, Nat.min_eq_left hqle]
              obtain ⟨fu', W3, run3, k3, nu', W5, run5, I5⟩ := crash_next HI.out HB1.out.drew (f.crash (left bs j)) nm HFX.out HNX.out (by exact Nat.le_of_lt_succ hjb) _ hdd _ hss
              have HI5 := Lib.hid I5
              obtain ⟨c0, -⟩ := hcn W3 (k3.block gn hgn)
              have z0 : W1.drew.cell? ⟨wz.heap.size, 0, none⟩ = some (.string dt) := y0
              have z1 : W1.drew.cell? ⟨wz.heap.size, 1, none⟩ = some (.int .i64 sy) := y1
              try rw [hx]
              clear I5 hdd hss
              generalize W1.drew = W2 at *
              generalize hsq : sy + q = sq at *
              clear hmod hx hne hltI q1 hsq hql
              go_wp2_with (first
                | (at_builtin; refine wpList_append_run (by rfl) _ _ _ _ (by rfl) _ _ fu' W3 (by rfl) (by rfl) run3 ?_)
                | (at_builtin; refine wpList_append_run (by rfl) _ _ _ _ (by rfl) _ _ nu' W5 (by rfl) (by rfl) run5 ?_))
              go_roundw
              case rel => exact ⟨j + 1, Nat.succ_le_of_lt hlt, by first | rfl | go_num, HI5.out⟩
              case measure => show NL - ((j : Int) + 1).toNat < NL - ((j : Int)).toNat; exact measLess hlt
          · as_aux_lemma =>
            obtain rfl : j = NL := by omega
            obtain ⟨h1, h2, h3, h4⟩ := HI.out
            have e1 : (crFiles M L bs).take j = crFiles M L bs := List.take_of_length_le (by unfold crFiles; rw [List.length_mapIdx, ← HNL.out]; exact Nat.le_refl _)
            have e2 : (crNames L).take j = crNames L := List.take_of_length_le (by unfold crNames; rw [List.length_mapIdx, ← HNL.out]; exact Nat.le_refl _)
            rw [e1] at h1
            rw [e2] at h2
            obtain ⟨pf, cf, hfu⟩ := rf_form h1
            obtain ⟨pn, cn, hnu⟩ := rf_form h2
            subst hfu hnu
            obtain ⟨k1, k2⟩ := crash_top (HT.out.below HB.out) h4 (crNames L) (crFiles M L bs) h1 h2 h3
            have HFIN : Hid (RfOp w B X (M.crash kk bs) _) := Lib.hid (by
              rw [crash_eq, ← HLK.out]
              exact ⟨_, ⟨_, _, _, _, _, _, k1⟩, fun b hb => hb.imp id (fun h => Nat.le_trans (Nat.le_trans HG0.out.size HB.out.size) h.1), ((Rk.of HG0.out).trans (Rk.of HB.out)).trans k2⟩)
            have z0 := HQZ.out.free 0
            have z1 := HQZ.out.free 1
            have z2 := HQZ.out.free 2
            have z3 := HQZ.out.free 3
            have z4 := HQZ.out.free 4
            obtain ⟨⟨a0, a1, a2⟩, a3, a4, a5⟩ := HQZ.out.cells
            generalize (crFiles M L bs).length = lf at *
            generalize (crNames L).length = ln at *
            clear h1 h2 h3 h4 e1 e2 k1 k2
            go_wp2_with fail
            go_end0
            exact ⟨rfl, HFIN.out⟩
end Go.Proofs.YtioidkbpjkcjeaaGreatDoor
