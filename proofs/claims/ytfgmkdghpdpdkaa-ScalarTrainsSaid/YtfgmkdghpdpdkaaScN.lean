/- Rows of items and of candidates; scalar's order of candidates; the library's stable sort of fewer than 20 of them. Conditions: those that each theorem names. -/
import Derived.Test.YtfgmkdghpdpdkaaScD
import Derived.Test.YtfgmkdghpdpdkaaRkS
import Derived.Test.YtfgmkdghpdpdkaaTkE
import Derived.Test.YtfgmkdghpdpdkaaScLay
namespace Go.Proofs.Ytfgmkdghpdpdkaa
set_option linter.unusedVariables false
open Go Go.RowKit Go.Shelf Go.Sort Vc Rk
namespace Sc
/-- An item as it lies, with the numbers of its vector. -/
structure It where
  id : Int
  p : Option Addr
  n : Nat
  c : Nat
  V : List Int
instance : Inhabited It := ⟨⟨0, none, 0, 0, []⟩⟩
def encT (x : It) : List Value := [.int .i64 x.id, .slice x.p x.n x.c]
theorem infoT : (Try.prog.info? 49).map (fun i => (i.zero, i.size, i.bytes)) = some (some (.agg #[.int .i64 0, .slice none 0 0]), 2, 32) := by kernel_rfl
theorem flatT : Flat Try.prog encT 2 49 46 32 :=
  ⟨Try.underlying46, info_of infoT rfl, by decide, fun _ => rfl, fun x u hu => by
    simp only [encT, List.mem_cons, List.not_mem_nil, or_false] at hu
    rcases hu with rfl | rfl <;> rfl⟩
/-- A candidate: its hit (id, score), and its item. -/
abbrev Ca := Tk.Ht × It
def encC (x : Ca) : List Value := [.int .i64 x.1.1, .int .i64 x.1.2, .int .i64 x.2.id, .slice x.2.p x.2.n x.2.c]
theorem infoC : (Try.prog.info? 90).map (fun i => (i.zero, i.size, i.bytes)) = some (some (.agg #[.int .i64 0, .int .i64 0, .int .i64 0, .slice none 0 0]), 4, 48) := by kernel_rfl
theorem flatC : Flat Try.prog encC 4 90 78 48 :=
  ⟨Try.underlying78, info_of infoC rfl, by decide, fun _ => rfl, fun x u hu => by
    simp only [encC, List.mem_cons, List.not_mem_nil, or_false] at hu
    rcases hu with rfl | rfl | rfl | rfl <;> rfl⟩
abbrev OwnC (w : World) (base : Nat) (v : Value) (L : List Ca) : Prop := Rk.Own encC 4 90 w base v L
/-- An item's vector lies as it says. -/
def ItW (w : World) (x : It) : Prop := IntsAt w (.slice x.p x.n x.c) x.V
theorem ItW.below {w w' : World} {x : It} (h : ItW w x) (g : Below w.heap.size w w') : ItW w' x := KAt.below h g
/-! ### The order -/
def cfC (m : Int) (x y : Ca) : Int := if Tk.ltH m x.1 y.1 = true then -1 else if Tk.ltH m y.1 x.1 = true then 1 else 0
theorem ltC (m : Int) (x y : Ca) : ltOf (cfC m) x y = Tk.ltH m x.1 y.1 := by
  unfold ltOf cfC
  cases h : Tk.ltH m x.1 y.1 with
  | true => simp
  | false =>
    cases h2 : Tk.ltH m y.1 x.1 <;> simp
theorem swoC (m : Int) : SWO (ltOf (cfC m)) where
  irrefl x := by rw [ltC]; exact (Tk.swo m).irrefl _
  trans x y z h1 h2 := by rw [ltC] at *; exact (Tk.swo m).trans _ _ _ h1 h2
  ntrans x y z h1 h2 := by rw [ltC] at *; exact (Tk.swo m).ntrans _ _ _ h1 h2
abbrev caO (x : Ca) : Obj := .cells (encC x).toArray 90
theorem first1_enters : ∀ args w, (callFunc 56 args).run Try.prog w = .ok (.enter 56 args) w := enters_of Try.func56 (by kernel_rfl) rfl
set_option maxHeartbeats 2000000 in
set_option maxRecDepth 100000 in
theorem first1_any (m : Int) (X : Nat) (a b : Ca) (w : World) (hX : X < w.heap.size) (hm : w.cell? ⟨X, 0, none⟩ = some (.int .i64 m)) :
    Calls Try.prog 56 #[.agg (encC a).toArray, .agg (encC b).toArray, .pointer (some ⟨X, 0, none⟩)] w fun e w' => e = .returned (.int .i64 (cfC m a b)) ∧ Rk.Gn w w' := by
  obtain ⟨W2, hW2⟩ : ∃ W2, W2 = (w.alloc (caO a)).alloc (caO b) := ⟨_, rfl⟩
  have hg2 : Rk.Gn w W2 := by rw [hW2]; exact ((Rk.Gn.refl w).alloc _).alloc _
  have ha : W2.heap[w.heap.size]? = some (caO a) := by rw [hW2, heap_old _ _ (by simp)]; exact heap_last _ _
  have hb : W2.heap[w.heap.size + 1]? = some (caO b) := by
    have h := heap_last (w.alloc (caO a)) (caO b)
    rw [show (w.alloc (caO a)).heap.size = w.heap.size + 1 by simp, ← hW2] at h
    exact h
  have cells : ∀ W, Rk.Gn W2 W → W.cell? ⟨X, 0, none⟩ = some (.int .i64 m) ∧ (W.cell? ⟨w.heap.size, 0, none⟩ = some (.int .i64 a.1.1) ∧ W.cell? ⟨w.heap.size, 1, none⟩ = some (.int .i64 a.1.2)) ∧ W.cell? ⟨w.heap.size + 1, 0, none⟩ = some (.int .i64 b.1.1) ∧ W.cell? ⟨w.heap.size + 1, 1, none⟩ = some (.int .i64 b.1.2) := fun W hW => by
    have h1 := (hW.below.block _ (lt_of_block ha)).trans ha
    have h2 := (hW.below.block _ (lt_of_block hb)).trans hb
    have hwx : W.heap[X]? = w.heap[X]? := (hW.below.block X (Nat.lt_of_lt_of_le hX hg2.below.size)).trans (hg2.below.block X hX)
    refine ⟨by rw [← hm]; exact World.cell?_of_block hwx, ⟨?_, ?_⟩, ?_, ?_⟩
    · rw [Lib.cell_of_heap h1]; rfl
    · rw [Lib.cell_of_heap h1]; rfl
    · rw [Lib.cell_of_heap h2]; rfl
    · rw [Lib.cell_of_heap h2]; rfl
  have HCE := Lib.hid cells
  have HG2 := Lib.hid hg2
  obtain ⟨x0, ⟨a0, a1⟩, b0, b1⟩ := cells W2 (Rk.Gn.refl _)
  have HC1 := Lib.hid (fun W => Tq.less_any m a.1 b.1 W)
  have HC2 := Lib.hid (fun W => Tq.less_any m b.1 a.1 W)
  have hcf : cfC m a b = if Tk.ltH m a.1 b.1 = true then -1 else if Tk.ltH m b.1 a.1 = true then 1 else 0 := rfl
  rw [hcf]
  obtain ⟨⟨ha1, ha2⟩, ita⟩ := a
  obtain ⟨⟨hb1, hb2⟩, itb⟩ := b
  simp only at *
  generalize Tk.ltH m (ha1, ha2) (hb1, hb2) = t1 at *
  generalize Tk.ltH m (hb1, hb2) (ha1, ha2) = t2 at *
  clear cells hg2 ha hb hcf hm hX
  cases t1 with
  | true =>
    simp only [if_true]
    go_enter Try.func56, Try.ntmps56
    go_upto_region 1 with fail
    rw [← hW2]
    clear hW2
    go_wp2_with fail
    refine (HC1.out _).mono ?_
    rintro e w3 ⟨rfl, hg⟩
    have HG := Lib.hid (HG2.out.trans hg)
    clear hg
    go_wp2_with fail
    go_ret
    exact ⟨rfl, HG.out⟩
  | false =>
    cases t2 with
    | true =>
      simp only [if_true, Bool.false_eq_true, if_false]
      go_enter Try.func56, Try.ntmps56
      go_upto_region 1 with fail
      rw [← hW2]
      clear hW2
      go_wp2_with fail
      refine (HC1.out _).mono ?_
      rintro e w3 ⟨rfl, hg⟩
      have HG := Lib.hid (HG2.out.trans hg)
      obtain ⟨x0, ⟨a0, a1⟩, b0, b1⟩ := HCE.out w3 hg
      clear hg
      go_wp2_with fail
      refine (HC2.out _).mono ?_
      rintro e w4 ⟨rfl, hg4⟩
      have HG4 := Lib.hid (HG.out.trans hg4)
      clear hg4
      go_wp2_with fail
      go_ret
      exact ⟨rfl, HG4.out⟩
    | false =>
      simp only [if_true, Bool.false_eq_true, if_false]
      go_enter Try.func56, Try.ntmps56
      go_upto_region 1 with fail
      rw [← hW2]
      clear hW2
      go_wp2_with fail
      refine (HC1.out _).mono ?_
      rintro e w3 ⟨rfl, hg⟩
      have HG := Lib.hid (HG2.out.trans hg)
      obtain ⟨x0, ⟨a0, a1⟩, b0, b1⟩ := HCE.out w3 hg
      clear hg
      go_wp2_with fail
      refine (HC2.out _).mono ?_
      rintro e w4 ⟨rfl, hg4⟩
      have HG4 := Lib.hid (HG.out.trans hg4)
      clear hg4
      go_wp2_with fail
      go_ret
      exact ⟨rfl, HG4.out⟩
/-- What is asked of the library's stable sort, of so many candidates: what it leaves is sorted, and the same ones. -/
def StOk (m : Int) (L : List Ca) : Prop := ∀ (X : Nat) (v : Value) (base : Nat) (w : World), OwnC w base v L → (X < w.heap.size ∧ v.ownBlock ≠ some X) → base ≤ w.heap.size → w.cell? ⟨X, 0, none⟩ = some (.int .i64 m) →
  Calls Try.prog 55 #[v, .func (.func 56) #[] #[.pointer (some ⟨X, 0, none⟩)]] w fun e w' =>
    e = .returned (.tuple #[]) ∧ ∃ L', OwnC w' base v L' ∧ L'.Perm L ∧ L'.Pairwise (fun a b => ltOf (cfC m) b a = false) ∧ Below base w w'
theorem cmp_lays (m : Int) (X g n : Nat) (w : World) (hX : X < w.heap.size) (hXg : X ≠ g) (hm : w.cell? ⟨X, 0, none⟩ = some (.int .i64 m)) :
    CmpLays Try.prog 56 #[.pointer (some ⟨X, 0, none⟩)] encC 4 (cfC m) g 0 n w := by
  intro q os dk hs x y
  have hg' : X < (sortWorldK encC 4 w g 0 q dk os).heap.size := by
    show X < ((putRowK encC 4 (Sort.ahead w q) g 0 dk).heap ++ os).size
    simp [putRowK, putRow, mapBlock, Sort.ahead]
    omega
  have hcell : (sortWorldK encC 4 w g 0 q dk os).cell? ⟨X, 0, none⟩ = some (.int .i64 m) := by
    unfold sortWorldK
    rw [cell?_grow _ _ _ (by show X < _; simp [putRowK, putRow, mapBlock, Sort.ahead]; omega), cell?_putRowK_other _ _ _ _ _ _ _ hXg]
    exact hm
  exact first1_any m X x y _ hg' hcell
theorem perm_of {d d' : Array Ca} (h : PermIn 0 d.size d d') : d'.toList.Perm d.toList := by
  have h1 := h.2.2
  rwa [show d'.extract 0 d.size = d' by rw [← h.1, Array.extract_size], Array.extract_size] at h1
theorem pair_of {m : Int} {d : Array Ca} (h : SortedIn (ltOf (cfC m)) 0 d.size d) : d.toList.Pairwise (fun a b => ltOf (cfC m) b a = false) := by
  rw [List.pairwise_iff_getElem]
  intro i j hi hj hij
  have hj' : j < d.size := by simpa using hj
  have := h i j (Nat.zero_le _) hij hj'
  rwa [getElem!_pos d j hj', getElem!_pos d i (by omega)] at this
set_option maxHeartbeats 2000000 in
set_option maxRecDepth 100000 in
theorem stable_small (m : Int) (L : List Ca) (h0 : 0 < L.length) (h20 : L.length < 20) : StOk m L := by
  intro X v base w h hX hB hm
  obtain ⟨g, cap, rfl, hb, hg⟩ := own_form h h0
  have hcmp := cmp_lays m X g L.toArray.size w hX.1 (fun e => hX.2 (by rw [e]; rfl)) hm
  have hcon := AnyQ.insertionSortCmpFunc Try.insC 4 Try.isAgg90 Try.sizeOf90 encC (fun _ => rfl) flatC.one (cfC m) 56 #[.pointer (some ⟨X, 0, none⟩)] g 0 cap 0 L.toArray.size L.toArray w first1_enters hcmp (own_holds flatC h) hg (Nat.zero_le _) (Nat.le_refl _) (by simp; omega)
  change Calls Try.prog 75 _ _ _ at hcon
  obtain ⟨hpe, hso⟩ := insertionSort_holds (swoC m) L.toArray 0 L.toArray.size (Nat.zero_le _) (Nat.le_refl _)
  have hfin : ∀ q os, OwnC (sortWorldK encC 4 w g 0 q (Sort.insertionSort (ltOf (cfC m)) L.toArray 0 L.toArray.size) os) base (.slice (some ⟨g, 0, none⟩) L.length cap) (Sort.insertionSort (ltOf (cfC m)) L.toArray 0 L.toArray.size).toList := fun q os => by
    have h1 := own_sorted (q := q) (os := os) flatC h (ys := (Sort.insertionSort (ltOf (cfC m)) L.toArray 0 L.toArray.size).toList) (by have := hpe.1; simpa using this)
    simpa using h1
  have hbe : ∀ q os d, Below base w (sortWorldK encC 4 w g 0 q d os) := fun q os d => below_sorted (Below.refl _ w) hb hB
  have hper : (Sort.insertionSort (ltOf (cfC m)) L.toArray 0 L.toArray.size).toList.Perm L := by simpa using perm_of hpe
  have hpa : (Sort.insertionSort (ltOf (cfC m)) L.toArray 0 L.toArray.size).toList.Pairwise (fun a b => ltOf (cfC m) b a = false) := pair_of (by have := hpe.1; rw [this]; exact hso)
  have HF := Lib.hid hfin
  have HBE := Lib.hid hbe
  have HPE := Lib.hid hper
  have HPA := Lib.hid hpa
  have HCON := Lib.hid hcon
  have hn1 : ¬ (20 : Int) ≤ (L.length : Int) := by omega
  have hn2 : ¬ (20 : Int) < (L.length : Int) := by omega
  rw [List.size_toArray] at HCON HPE HPA HF
  generalize Sort.insertionSort (ltOf (cfC m)) L.toArray 0 L.length = D at *
  clear hcon hpe hso hfin hbe hper hpa hcmp h hm
  generalize L.length = n at *
  have C : Hid (Calls Try.prog 67 #[.slice (some ⟨g, 0, none⟩) n cap, .int .i64 (n : Int), .func (.func 56) #[] #[.pointer (some ⟨X, 0, none⟩)]] w fun e w' => e = .returned (.tuple #[]) ∧ ∃ L', OwnC w' base (.slice (some ⟨g, 0, none⟩) n cap) L' ∧ L'.Perm L ∧ L'.Pairwise (fun a b => ltOf (cfC m) b a = false) ∧ Below base w w') := Lib.hid (by
    go_enter Try.func67, Try.ntmps67
    go_wp2_with fail
    refine wp_loop_rounds 1 ?_
    rw [rounds_succ]
    go_wp2_with fail
    refine HCON.out.mono ?_
    rintro e w2 ⟨rfl, q, os, rfl⟩
    go_wp2_with fail
    refine wp_loop_rounds 1 ?_
    rw [rounds_succ]
    go_wp2_with fail
    go_end0
    exact ⟨rfl, D.toList, HF.out q os, HPE.out, HPA.out, HBE.out q os D⟩)
  go_enter Try.func55, Try.ntmps55
  go_wp2_with fail
  refine C.out.mono ?_
  rintro e w2 ⟨rfl, h2⟩
  have H2 := Lib.hid h2
  clear h2
  go_wp2_with fail
  go_end0
  exact ⟨rfl, H2.out⟩
end Sc
end Go.Proofs.Ytfgmkdghpdpdkaa
