/- manifest's call Encode. Conditions: those that each theorem names. -/
import Derived.Test.YtkbdokakoapooaaGreatDoorMfF
import Derived.Laws.OwnMore
import Derived.Lib.Join
namespace Go.Proofs.YtkbdokakoapooaaGreatDoor
set_option linter.unusedVariables false
open Go Go.RowKit Go.Shelf Go.Sort
namespace Mf
/-- A line, as a text. -/
def LN (a b : ByteArray) : ByteArray := tx (lineB (bl a) (bl b))
theorem LN_bl (a b : ByteArray) : bl (LN a b) = lineB (bl a) (bl b) := tx_list _
theorem LN_size (a b : ByteArray) : (LN a b).size = a.size + b.size + 2 := by
  unfold LN; rw [tx_size]; unfold lineB; simp; have := ln a; have := ln b; simp at *; omega
theorem line_all (a b : ByteArray) (w : World) (ha : a.size ≤ 16777215) (hb : b.size ≤ 16777215) :
    Calls Tryz.prog 68 #[.string a, .string b] w fun e w' => e = .returned (.string (LN a b)) ∧ w' = w := line_any a b w ha hb
def encS (m : Mn) : ByteArray := if may m = true then tx (encB m) else ⟨#[]⟩
def encE (m : Mn) : Int := if may m = true then 0 else 110
theorem join_flat : ∀ (L : List Bs), Lib.join L [] = L.flatten
  | [] => rfl
  | x :: L => by
    have ih := join_flat L
    unfold Lib.join at ih ⊢
    cases L with
    | nil => simp [List.intercalate]
    | cons y L =>
      simp only [List.intercalate, List.intersperse_cons_cons, List.flatten_cons, List.nil_append] at ih ⊢
      rw [ih]
def headT (nx sq : Int) (l : ByteArray) : List ByteArray := [LN ⟨#[108, 111, 100, 101, 115, 116, 97, 114]⟩ ⟨#[49]⟩, LN ⟨#[110, 101, 120, 116]⟩ (tx (Lib.itoa nx)), LN ⟨#[115, 101, 113]⟩ (tx (Lib.itoa sq)), LN ⟨#[108, 111, 103]⟩ l]
def segT (A : List ByteArray) : List ByteArray := A.map fun s => LN ⟨#[115, 101, 103, 109, 101, 110, 116]⟩ s
theorem body_text (m : Mn) : ((headT m.next m.seq m.log ++ segT m.segs).map (·.data.toList)).flatten = bodyB m := by
  rw [body_eq]
  unfold headT segT
  rw [List.map_append, List.flatten_append, List.map_map]
  have e : (m.segs.map ((fun s : ByteArray => s.data.toList) ∘ fun s => LN ⟨#[115, 101, 103, 109, 101, 110, 116]⟩ s)).flatten = m.segs.flatMap fun s => lineB wSeg (bl s) := by
    rw [← List.flatMap_def]
    rfl
  rw [e]
  simp only [List.map_cons, List.map_nil, List.flatten_cons, List.flatten_nil, List.append_nil, List.append_assoc]
  rfl
theorem flat_size : ∀ (L : List ByteArray) (q : Nat), (∀ s ∈ L, s.size ≤ q) → ((L.map (·.data.toList)).flatten).length ≤ L.length * q
  | [], q, _ => by simp
  | s :: L, q, h => by
    have ih := flat_size L q (fun y hy => h y (by simp [hy]))
    have h1 := h s (by simp)
    have h2 := ln s
    simp only [List.map_cons, List.flatten_cons, List.length_append, List.length_cons]
    rw [Nat.add_mul]
    omega
theorem itoa_size (n : Int) (h0 : -9223372036854775808 ≤ n) (h1 : n ≤ 9223372036854775807) : (tx (Lib.itoa n)).size ≤ 20 := by
  rw [tx_size]
  unfold Lib.itoa
  split
  · have := dec_len 18 n.natAbs (by omega)
    simp; omega
  · have := dec_len 18 n.toNat (by omega)
    omega
theorem sx_drew {w0 x : World} {K : Nat} {a b c d : Value} (h : x.cell? ⟨K, 0, none⟩ = some a ∧ x.cell? ⟨K, 1, none⟩ = some b ∧ x.cell? ⟨K, 2, none⟩ = some c ∧ x.cell? ⟨K, 3, none⟩ = some d ∧ Gh x ∧ Below w0.heap.size w0 x) :
    x.drew.cell? ⟨K, 0, none⟩ = some a ∧ x.drew.cell? ⟨K, 1, none⟩ = some b ∧ x.drew.cell? ⟨K, 2, none⟩ = some c ∧ x.drew.cell? ⟨K, 3, none⟩ = some d ∧ Gh x.drew ∧ Below w0.heap.size w0 x.drew :=
  ⟨h.1, h.2.1, h.2.2.1, h.2.2.2.1, h.2.2.2.2.1.drewN 1, below_then h.2.2.2.2.2 (below_drewN _ 1)⟩
theorem sx_then {w0 x y : World} {K : Nat} {a b c d : Value} (h : x.cell? ⟨K, 0, none⟩ = some a ∧ x.cell? ⟨K, 1, none⟩ = some b ∧ x.cell? ⟨K, 2, none⟩ = some c ∧ x.cell? ⟨K, 3, none⟩ = some d ∧ Gh x ∧ Below w0.heap.size w0 x) (g : Below x.heap.size x y) :
    y.cell? ⟨K, 0, none⟩ = some a ∧ y.cell? ⟨K, 1, none⟩ = some b ∧ y.cell? ⟨K, 2, none⟩ = some c ∧ y.cell? ⟨K, 3, none⟩ = some d ∧ Gh y ∧ Below w0.heap.size w0 y := by
  obtain ⟨h0, h1, h2, h3, h4, h5⟩ := h
  have hK : K < x.heap.size := Lib.lt_of_cell h0
  exact ⟨(g.cell hK).trans h0, (g.cell hK).trans h1, (g.cell hK).trans h2, (g.cell hK).trans h3, h4.below g, below_then h5 g⟩
theorem sx_gh {w0 x : World} {K : Nat} {a b c d : Value} (h : x.cell? ⟨K, 0, none⟩ = some a ∧ x.cell? ⟨K, 1, none⟩ = some b ∧ x.cell? ⟨K, 2, none⟩ = some c ∧ x.cell? ⟨K, 3, none⟩ = some d ∧ Gh x ∧ Below w0.heap.size w0 x) : Gh x := h.2.2.2.2.1
set_option maxHeartbeats 4000000 in
set_option maxRecDepth 100000 in
theorem encode_any (m : Mn) (v : Value) (w : World) (hv : MnAt w v m) (hm : Small m) (G : Gh w) :
    Calls Tryz.prog 33 #[v] w fun e w' => e = .returned (.tuple #[.string (encS m), .int .i64 (encE m)]) ∧ Below w.heap.size w w' := by
  have hMB := fun W (hW : Below w.heap.size w W) => mayBe_any m v W (hv.below hW) hm (G.below hW)
  obtain ⟨p, c, rfl, ht⟩ := hv
  obtain ⟨A, l, nx, sq⟩ := m
  obtain ⟨m1, m2, m3, m4, m5, m6, m7⟩ := hm
  dsimp only at *
  have HMB := Lib.hid hMB
  have HT := Lib.hid ht
  have HG := Lib.hid G
  have hb0 := below_new w (.cells #[.slice p A.length c, .string l, .int .i64 nx, .int .i64 sq] 61)
  obtain ⟨d0, d1, d2, d3⟩ := cells4 w (.slice p A.length c) (.string l) (.int .i64 nx) (.int .i64 sq) 61
  have hS := Lib.hid (show _ ∧ _ ∧ _ ∧ _ ∧ Gh (w.alloc (.cells #[.slice p A.length c, .string l, .int .i64 nx, .int .i64 sq] 61)) ∧ Below w.heap.size w (w.alloc (.cells #[.slice p A.length c, .string l, .int .i64 nx, .int .i64 sq] 61)) from ⟨d0, d1, d2, d3, G.below hb0, hb0⟩)
  have HC := HMB.out _ hb0
  have HL0 : Hid (Tryz.prog.underlying 61 = Tryz.prog.underlying 61) := Lib.hid rfl
  cases hmay : may ⟨A, l, nx, sq⟩ with
  | false =>
    have HV : Hid (encS ⟨A, l, nx, sq⟩ = ⟨#[]⟩ ∧ encE ⟨A, l, nx, sq⟩ = 110) := Lib.hid (by unfold encS encE; rw [hmay]; exact ⟨rfl, rfl⟩)
    rw [hmay] at HC
    have HC := Lib.hid HC
    clear HMB hMB ht G hb0 hmay m3 m1 m2
    go_enter Tryz.func33, Tryz.ntmps33
    generalize A.length = n at *
    go_wp2_with fail
    refine HC.out.mono ?_
    rintro e w1 ⟨rfl, h1⟩
    have HB := Lib.hid (below_then hS.out.2.2.2.2.2 h1)
    clear h1
    go_wp2_with fail
    go_ret2
    rw [HV.out.1, HV.out.2]
    exact ⟨rfl, HB.out⟩
  | true =>
    have hlen : A.length ≤ 1024 := ((may_iff _).1 hmay).2.2.2.2.1
    have HV : Hid (encS ⟨A, l, nx, sq⟩ = tx (encB ⟨A, l, nx, sq⟩) ∧ encE ⟨A, l, nx, sq⟩ = 0) := Lib.hid (by unfold encS encE; rw [hmay]; exact ⟨rfl, rfl⟩)
    rw [hmay] at HC
    have HC := Lib.hid HC
    have HE3 := Lib.hid m3
    have HI := Lib.hid (fun n h0 h1 W (G : Gh W) => itoa_any n h0 h1 W G)
    have HLN := Lib.hid (fun a b W ha hb => line_all a b W ha hb)
    have hdn : (tx (Lib.itoa nx)).size ≤ 16777215 := Nat.le_trans (itoa_size nx m4 m5) (by omega)
    have hds : (tx (Lib.itoa sq)).size ≤ 16777215 := Nat.le_trans (itoa_size sq m6 m7) (by omega)
    have HHT : Hid (headT nx sq l = [LN ⟨#[108, 111, 100, 101, 115, 116, 97, 114]⟩ ⟨#[49]⟩, LN ⟨#[110, 101, 120, 116]⟩ (tx (Lib.itoa nx)), LN ⟨#[115, 101, 113]⟩ (tx (Lib.itoa sq)), LN ⟨#[108, 111, 103]⟩ l]) := Lib.hid rfl
    have HLS : Hid (l.size ≤ 16777215 ∧ (tx (Lib.itoa nx)).size ≤ 16777215 ∧ (tx (Lib.itoa sq)).size ≤ 16777215) := Lib.hid ⟨m2, hdn, hds⟩
    have c1 : (⟨#[108, 111, 100, 101, 115, 116, 97, 114]⟩ : ByteArray).size ≤ 16777215 := by decide
    have c2 : (⟨#[49]⟩ : ByteArray).size ≤ 16777215 := by decide
    have c3 : (⟨#[110, 101, 120, 116]⟩ : ByteArray).size ≤ 16777215 := by decide
    have c4 : (⟨#[115, 101, 113]⟩ : ByteArray).size ≤ 16777215 := by decide
    have c5 : (⟨#[108, 111, 103]⟩ : ByteArray).size ≤ 16777215 := by decide
    clear HMB hMB ht G hb0 hmay m3 m1
    go_enter Tryz.func33, Tryz.ntmps33
    generalize hn : A.length = n at *
    have HN := Lib.hid hn
    clear hn
    go_wp2_with fail
    refine HC.out.mono ?_
    clear HC
    rintro e w1 ⟨rfl, h1⟩
    have hs1 := sx_drew (sx_then hS.out h1)
    have HLE := Lib.hid hlen
    clear h1 hS d0 d1 d2 d3 hlen
    go_wp2_with fail
    go_region_held3 (fun x => x.cell? ⟨w.heap.size, 0, none⟩ = some (.slice p n c) ∧ x.cell? ⟨w.heap.size, 1, none⟩ = some (.string l) ∧ x.cell? ⟨w.heap.size, 2, none⟩ = some (.int .i64 nx) ∧ x.cell? ⟨w.heap.size, 3, none⟩ = some (.int .i64 sq) ∧ Gh x ∧ Below w.heap.size w x)
      (first | assumption | exact sx_drew (by assumption) | exact sx_then (by assumption) (below_new _ _) | go_keep)
      (first
        | (go_at_call 69; refine (HI.out _ (by assumption) (by assumption) _ (sx_gh (by assumption))).mono ?_; rintro e y1 ⟨rfl, hy⟩; have hs2 := sx_then (by assumption) hy; clear hy)
        | (go_at_call 68; refine (HLN.out _ _ _ (by assumption) (by assumption)).mono ?_; rintro e y1 ⟨rfl, rfl⟩))
    rename_i hz
    have hlen : n ≤ 1024 := HLE.out
    have ho : OwnT (y1.alloc (.cells #[.string (LN ⟨#[108, 111, 100, 101, 115, 116, 97, 114]⟩ ⟨#[49]⟩), .string (LN ⟨#[110, 101, 120, 116]⟩ (tx (Lib.itoa nx))), .string (LN ⟨#[115, 101, 113]⟩ (tx (Lib.itoa sq))), .string (LN ⟨#[108, 111, 103]⟩ l)] 9)) y1.heap.size (.slice (some ⟨y1.heap.size, 0, none⟩) 4 4) (headT nx sq l) :=
      World.ownsRow_lit y1 _ 4 (Nat.le_refl _) (by unfold maxLen; omega) rfl
    have HO := Lib.hid ho
    have HZ := Lib.hid hz
    have HBY : Hid (y1.heap.size ≤ (y1.alloc (.cells #[.string (LN ⟨#[108, 111, 100, 101, 115, 116, 97, 114]⟩ ⟨#[49]⟩), .string (LN ⟨#[110, 101, 120, 116]⟩ (tx (Lib.itoa nx))), .string (LN ⟨#[115, 101, 113]⟩ (tx (Lib.itoa sq))), .string (LN ⟨#[108, 111, 103]⟩ l)] 9)).heap.size) := Lib.hid (by simp)
    have HBB : Hid (w.heap.size ≤ y1.heap.size) := Lib.hid (by
      have h := hz.1
      have h2 := Lib.lt_of_cell h
      have h3 := hz.2.2.2.2.2.size
      simp at h2
      have : w.heap.size ≠ y1.heap.size + 1 := by omega
      omega)
    clear ho hs1 HI HHT
    have hzc := hz.1
    clear hz
    generalize y1.alloc (.cells #[.string (LN ⟨#[108, 111, 100, 101, 115, 116, 97, 114]⟩ ⟨#[49]⟩), .string (LN ⟨#[110, 101, 120, 116]⟩ (tx (Lib.itoa nx))), .string (LN ⟨#[115, 101, 113]⟩ (tx (Lib.itoa sq))), .string (LN ⟨#[108, 111, 103]⟩ l)] 9) = Y at *
    generalize y1.heap.size = B at *
    go_wp2_with fail
    go_loopw [4, 27] (fun v i wr => ∃ k : Nat, k ≤ n ∧ i = .int .i64 k ∧ OwnT wr B v (headT nx sq l ++ segT (A.take k)) ∧ Below B Y wr) (fun _ i _ => n - (intOf i).toNat)
    case atStart => exact ⟨0, Nat.zero_le _, rfl, by simpa [segT] using HO.out, Below.refl _ _⟩
    case round =>
      obtain ⟨k, hk, rfl, ho2, hb2⟩ := hrel
      have HB2 := Lib.hid hb2
      have HO2 := Lib.hid ho2
      clear ho2 hb2
      obtain ⟨wo, rfl⟩ : ∃ wo : World, wo = wr := ⟨_, rfl⟩
      have hBw : Below w.heap.size w wo := HZ.out.2.2.2.2.2.trans (HB2.out.mono HBB.out)
      have hBo : B ≤ wo.heap.size := Nat.le_trans HBY.out HB2.out.size
      by_cases hlt : k < n
      · have hlt' : k < A.length := by rw [HN.out]; exact hlt
        have hx : A[k]? = some A[k] := List.getElem?_eq_getElem hlt'
        have hxs := HE3.out A[k] (List.getElem_mem hlt')
        obtain ⟨g, off, rfl, hc⟩ := txs_cell HT.out hlt'
        have hcell := hc wo hBw
        generalize A[k] = x at hcell hx hxs
        have hsg : (⟨#[115, 101, 103, 109, 101, 110, 116]⟩ : ByteArray).size ≤ 16777215 := by decide
        have HL := Lib.hid (fun W => HLN.out ⟨#[115, 101, 103, 109, 101, 110, 116]⟩ x W hsg hxs)
        have hsn : segT (A.take (k + 1)) = segT (A.take k) ++ [LN ⟨#[115, 101, 103, 109, 101, 110, 116]⟩ x] := by
          rw [List.take_add_one, hx]; simp [segT]
        obtain ⟨v3, w3, hr3, ho3, hb3, _⟩ := append_text (LN ⟨#[115, 101, 103, 109, 101, 110, 116]⟩ x) HO2.out (by simp [headT, segT, List.length_take]; omega) hBo
        rw [List.append_assoc, ← hsn] at ho3
        have HO3 := Lib.hid ho3
        have HB3 := Lib.hid (HB2.out.trans hb3)
        clear ho3 hb3 hsn hx hxs hc hsg hBw
        go_wp2_with (first
          | (go_at_call 68; refine (HL.out _).mono ?_; rintro e w4 ⟨rfl, rfl⟩)
          | (at_builtin; refine wpList_append_run rfl _ _ _ _ rfl _ _ _ _ rfl rfl hr3 ?_))
        go_roundw
        case rel => exact ⟨k + 1, by omega, congrArg _ (show (k : Int) + 1 = ((k + 1 : Nat) : Int) by omega), HO3.out, HB3.out⟩
        case measure =>
          simp only [intOf]; omega
      · obtain rfl : k = n := by omega
        have ho4 := HO2.out
        rw [← HN.out, List.take_length] at ho4
        have HBF := Lib.hid hBw
        have hat := ho4.at
        have hl4 : (headT nx sq l ++ segT A).length = k + 4 := by rw [← HN.out]; simp [headT, segT]
        have hbt := body_text ⟨A, l, nx, sq⟩
        dsimp only at hbt
        have hfs := flat_size (headT nx sq l ++ segT A) 16777300 (fun s hs => by
          have h20a := itoa_size nx m4 m5
          have h20b := itoa_size sq m6 m7
          rcases List.mem_append.1 hs with h | h
          · simp only [headT, List.mem_cons, List.not_mem_nil, or_false] at h
            rcases h with rfl | rfl | rfl | rfl <;> rw [LN_size]
            · decide
            · have : (⟨#[110, 101, 120, 116]⟩ : ByteArray).size = 4 := rfl
              omega
            · have : (⟨#[115, 101, 113]⟩ : ByteArray).size = 3 := rfl
              omega
            · have : (⟨#[108, 111, 103]⟩ : ByteArray).size = 3 := rfl
              omega
          · simp only [segT, List.mem_map] at h
            obtain ⟨y, hy, rfl⟩ := h
            rw [LN_size]
            have := HE3.out y hy
            have : (⟨#[115, 101, 103, 109, 101, 110, 116]⟩ : ByteArray).size = 7 := rfl
            omega)
        rw [hl4] at hfs
        have hji : Lib.join ((headT nx sq l ++ segT A).map (·.data.toList)) (⟨#[]⟩ : ByteArray).data.toList = bodyB ⟨A, l, nx, sq⟩ := by
          rw [show (⟨#[]⟩ : ByteArray).data.toList = [] from rfl, join_flat]; exact hbt
        rw [hbt] at hfs
        rcases hat with ⟨h0, _⟩ | ⟨g, off, c4, hv4, hg4, hle4, hc4⟩
        · rw [h0] at hl4; simp at hl4
        · have HJ := Tryz.strings_Join g off c4 (headT nx sq l ++ segT A) ⟨#[]⟩ wo (fun j x hj => by
            have hj' : j < (headT nx sq l ++ segT A).length := (List.getElem?_eq_some_iff.1 hj).1
            rw [hc4 wo rfl j hj']
            rw [List.getElem?_eq_getElem hj'] at hj
            injection hj with hj
            rw [hj]) hg4 (by rw [hl4]; omega) hle4 (by rw [hji]; omega)
          rw [hji] at HJ
          replace HJ := Lib.hid HJ
          have HCR : Hid (encB ⟨A, l, nx, sq⟩ = bodyB ⟨A, l, nx, sq⟩ ++ lineB wSum (Lib.decDigits (crcN (tx (bodyB ⟨A, l, nx, sq⟩))))) := Lib.hid rfl
          have hbs : (tx (bodyB ⟨A, l, nx, sq⟩)).size ≤ 17247064400 := by rw [tx_size]; omega
          have hcl := crcN_lt (tx (bodyB ⟨A, l, nx, sq⟩))
          rw [show (⟨(bodyB ⟨A, l, nx, sq⟩).toArray⟩ : ByteArray) = tx (bodyB ⟨A, l, nx, sq⟩) from rfl] at HJ
          have HBB2 : Hid (bl (tx (bodyB ⟨A, l, nx, sq⟩)) = bodyB ⟨A, l, nx, sq⟩) := Lib.hid (tx_list _)
          subst hv4
          have HG2 := Lib.hid (HG.out.below hBw)
          clear hl4 hji hfs hbt hc4 hle4 hg4 ho4 HO HO2 HLN HE3 HT hzc hBw hBo
          generalize bodyB ⟨A, l, nx, sq⟩ = bb at *
          generalize (headT nx sq l ++ segT A).length = len4 at *
          have HSU := Lib.hid (fun W => sum_any (tx bb) W (by unfold maxLen; omega))
          have hd10 : (tx (Lib.decDigits (crcN (tx bb)))).size ≤ 16777215 := by
            rw [tx_size]
            have := dec_len 9 (crcN (tx bb)) (by omega)
            omega
          have hsu : (⟨#[115, 117, 109]⟩ : ByteArray).size ≤ 16777215 := by decide
          have HFU := Lib.hid (fun W (G : Gh W) => fmt_any (crcN (tx bb)) (by omega) W G)
          have HLL := Lib.hid (fun W => line_all ⟨#[115, 117, 109]⟩ (tx (Lib.decDigits (crcN (tx bb)))) W hsu hd10)
          have hls := LN_size ⟨#[115, 117, 109]⟩ (tx (Lib.decDigits (crcN (tx bb))))
          have hls2 : (LN ⟨#[115, 117, 109]⟩ (tx (Lib.decDigits (crcN (tx bb))))).size ≤ 33554440 := by omega
          have HLL2 : Hid (bl (LN ⟨#[115, 117, 109]⟩ (tx (Lib.decDigits (crcN (tx bb))))) = lineB wSum (Lib.decDigits (crcN (tx bb)))) := Lib.hid (by rw [LN_bl, show bl (tx (Lib.decDigits (crcN (tx bb)))) = Lib.decDigits (crcN (tx bb)) from tx_list _]; rfl)
          generalize LN ⟨#[115, 117, 109]⟩ (tx (Lib.decDigits (crcN (tx bb)))) = ls at *
          have hcw : IntKind.u64.wrap (crcN (tx bb) : Int) = (crcN (tx bb) : Int) := by rw [IntKind.wrap_u64]; omega
          have hadd : (tx bb).size + ls.size ≤ 9223372036854775807 := by omega
          have HCW := Lib.hid hcw
          clear hls hls2 hd10 hsu hcl hbs
          generalize hq : crcN (tx bb) = q at *
          clear hq
          go_wp2_with fail
          refine HJ.out.mono ?_
          clear HJ
          rintro e w5 ⟨rfl, hb5⟩
          have HB5 := Lib.hid hb5
          have HG5 := Lib.hid (HG2.out.below hb5)
          clear hb5
          go_wp2_with fail
          refine (HSU.out _).mono ?_
          rintro e w6 ⟨rfl, hb6⟩
          have HB6 := Lib.hid (below_then HB5.out hb6)
          have HG6 := Lib.hid (HG5.out.below hb6)
          clear hb6 HSU
          go_wp2_with fail
          refine (HFU.out _ HG6.out).mono ?_
          rintro e w7 ⟨rfl, hb7⟩
          have HB7 := Lib.hid (below_then HB6.out hb7)
          clear hb7 HFU
          go_wp2_with fail
          refine (HLL.out _).mono ?_
          rintro e w8 ⟨rfl, rfl⟩
          clear HLL
          have HRES : Hid (tx bb ++ ls = tx (encB ⟨A, l, nx, sq⟩)) := Lib.hid (by
            apply by_ext
            rw [app_list, tx_list, HCR.out, show ls.data.toList = bl ls from rfl, HLL2.out, tx_list])
          have HFB : Hid (Below w.heap.size w w8) := Lib.hid (HBF.out.trans (HB7.out.mono HBF.out.size))
          go_wp2_with fail
          go_ret2
          rw [HV.out.1, HV.out.2, ← HRES.out]
          exact ⟨rfl, HFB.out⟩
end Mf
end Go.Proofs.YtkbdokakoapooaaGreatDoor
