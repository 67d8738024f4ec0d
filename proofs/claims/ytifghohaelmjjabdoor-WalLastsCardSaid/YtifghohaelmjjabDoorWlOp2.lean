/- Open on a disk without faults. Conditions: those that each theorem names. -/
import Derived.Test.YtifghohaelmjjabDoorWlOpen
namespace Go.Proofs.YtifghohaelmjjabDoor
set_option linter.unusedVariables false
open Go Go.RowKit Dk Wl
def logO (A : Nat) (sz last : Int) (br : Bool) : Obj := .cells #[.pointer (some ⟨A, 0, none⟩), .string nL, .int .i64 sz, .int .i64 last, .bool br] 59 (0, 0)
theorem RcsAt.stay {w w' : World} {v : Value} {L : List Rc} (h : RcsAt w v L) (hs : w.heap.size ≤ w'.heap.size) (hb : ∀ b, v.ownBlock = some b → w'.heap[b]? = w.heap[b]?) : RcsAt w' v L := by
  rcases h with h | ⟨g, off, c, rfl, hg, hc⟩
  · exact .inl h
  · exact .inr ⟨g, off, c, rfl, Nat.lt_of_lt_of_le hg hs, fun W hW => hc W (hW.trans (hb g (by simp [Value.ownBlock])))⟩
def OpenP (w0 : World) (A : Nat) (X : Nat → Prop) (w : World) (l : List UInt8) (recs : List Rc) (k : Int) (e : Ending) (w' : World) : Prop :=
  ∃ (B : Nat) (v : Value) (k' : Int), e = .returned (.tuple #[.pointer (some ⟨B, 0, none⟩), v, .int .i64 0]) ∧ w'.heap[B]? = some (logO A (l.length : Int) (lastP recs : Int) false) ∧ RcsAt w' v recs ∧
    AtB w0 A (st l l.length k') (fun b => X b ∨ b = B ∨ v.ownBlock = some b) w' ∧ Stay X w w' ∧ w0.heap.size ≤ B ∧ k ≤ k' ∧ k' ≤ k + 2
set_option maxHeartbeats 4000000 in
set_option maxRecDepth 100000 in
theorem open_gen {w0 w : World} {A : Nat} {X : Nat → Prop} {D : DSt} {l : List UInt8} {s : Nat} {k : Int} (h : AtB w0 A D X w)
    (hread : ∀ (Y : Nat → Prop) (W : World), AtB w0 A D Y W → Calls Tryd.prog 14 #[fV A] W fun e w' => e = .returned (.tuple #[.string (tx l), .nilIface]) ∧ AtB w0 A (st l s k) Y w' ∧ Stay Y W w')
    (hk : 0 ≤ k ∧ k ≤ 4611686018427387900) (hl : l.length ≤ 140737488351232) (recs : List Rc) (sz er : Nat) (hR : scan 0 l = ⟨recs, sz, er⟩) (hcase : (er = 0 ∧ sz = l.length) ∨ (er = 91 ∧ sz ≤ l.length)) :
    Calls Tryd.prog 6 #[.pointer (some ⟨A, 0, none⟩), .string nL] w (OpenP w0 A X w (l.take sz) recs k) := by
  obtain ⟨c0, c1⟩ := fO_cells w A
  have hb : Below w.heap.size w (w.alloc (fO A)) := below_new w (fO A)
  have hw0 : w0.heap.size ≤ w.heap.size := h.below.size
  have HW0 := Lib.hid hw0
  have HA := Lib.hid (h.add hb (Y := fun b => X b ∨ b = w.heap.size) (fun b hb => hb.imp id (fun e => by subst e; exact ⟨Nat.le_refl _, by simp⟩)))
  have HS := Lib.hid (stay_below h hb)
  have C := Lib.hid (hread _ _ HA.out)
  have HF : Hid (fV A = .agg #[.pointer (some ⟨A, 0, none⟩), .string nL]) := Lib.hid rfl
  rw [HF.out] at C
  have CS := Lib.hid (fun W => scan_any (tx l) W (by rw [tx_size]; exact hl))
  have HTL := Lib.hid (tx_list l)
  have HLL := Lib.hid hl
  have HR := Lib.hid hR
  have HK := Lib.hid hk
  have HC := Lib.hid hcase
  have hne := nL_full
  clear h hb hread hk hl hR hcase hw0
  go_enter Tryd.func6, Tryd.ntmps6
  go_wp2_with fail
  refine C.out.mono ?_
  rintro e w1 ⟨rfl, h1, h2⟩
  have d0 := (World.cell?_of_block (a := ⟨w.heap.size, 0, none⟩) (h2.2 w.heap.size (.inr rfl))).trans c0
  have d1 := (World.cell?_of_block (a := ⟨w.heap.size, 1, none⟩) (h2.2 w.heap.size (.inr rfl))).trans c1
  have H1 := Lib.hid h1
  have H2 : Hid (Stay X w w1) := Lib.hid (HS.out.trans ⟨h2.1, fun b hb => h2.2 b (.inl hb)⟩)
  have HFB : Hid (w.heap.size < w1.heap.size) := Lib.hid (h1.lt (.inr rfl))
  clear h1 h2 c0 c1 C
  go_wp2_with fail
  refine (CS.out _).mono ?_
  rintro e w2 ⟨v, rfl, ho2, hb2⟩
  rw [HTL.out, HR.out] at ho2 ⊢
  have HO2 := Lib.hid ho2
  have e0 := (World.cell?_of_block (a := ⟨w.heap.size, 0, none⟩) (hb2.block w.heap.size HFB.out)).trans d0
  have e1 := (World.cell?_of_block (a := ⟨w.heap.size, 1, none⟩) (hb2.block w.heap.size HFB.out)).trans d1
  have H3 : Hid (AtB w0 A (st l s k) (fun b => X b ∨ b = w.heap.size ∨ v.ownBlock = some b) w2) := Lib.hid (H1.out.add hb2 (fun b hb => by
    rcases hb with k | k | k
    · exact .inl (.inl k)
    · exact .inl (.inr k)
    · exact .inr (ho2.lt b k)))
  have H4 : Hid (Stay X w w2) := Lib.hid (H2.out.trans ⟨hb2.size, fun b hb => hb2.block b (H1.out.lt (.inl hb))⟩)
  clear hb2 d0 d1 CS
  rcases HC.out with ⟨rfl, hsz⟩ | ⟨rfl, hsz⟩
  · have C2 := Lib.hid (fsettle_whole (n := (sz : Int)) H3.out (by have := HK.out; omega))
    rw [HF.out] at C2
    have HST : Hid (st l l.length (k + 1) = st (l.take sz) (l.take sz).length (k + 1)) := Lib.hid (by rw [hsz, List.take_length])
    have HLEN : Hid ((l.take sz).length = sz) := Lib.hid (by rw [hsz, List.take_length])
    clear hsz
    rcases own_form2 HO2.out with ⟨hrecs, p, c, hv⟩ | ⟨g, m, cap, hv, hm, hg1, hg2⟩
    · subst hv
      have hrecs' : recs = [] := hrecs
      subst hrecs'
      go_wp2_with fail
      refine C2.out.mono ?_
      rintro e w3 ⟨rfl, h5, h6⟩
      rw [HST.out] at h5
      have f0 := (World.cell?_of_block (a := ⟨w.heap.size, 0, none⟩) (h6.2 w.heap.size (.inr (.inl rfl)))).trans e0
      have f1 := (World.cell?_of_block (a := ⟨w.heap.size, 1, none⟩) (h6.2 w.heap.size (.inr (.inl rfl)))).trans e1
      have HL : Hid (((l.take sz).length : Int) = (sz : Int)) := Lib.hid (by rw [HLEN.out])
      have HP : Hid (OpenP w0 A X w (l.take sz) [] k (.returned (.tuple #[.pointer (some ⟨w3.heap.size, 0, none⟩), .slice p 0 c, .int .i64 0])) (w3.alloc (.cells #[.pointer (some ⟨A, 0, none⟩), .string nL, .int .i64 (sz : Int), .int .i64 0, .bool false] 59 (0, 0)))) := Lib.hid
        ⟨w3.heap.size, .slice p 0 c, k + 1, rfl, by rw [HL.out]; exact heap_alloc_new w3 _, .inl ⟨rfl, p, c, rfl⟩,
          h5.add (below_new w3 _) (fun b hb => by
            rcases hb with k | k | k
            · exact .inl (.inl k)
            · exact .inr ⟨Nat.le_of_eq k.symm, by rw [k]; simp⟩
            · exact .inl (.inr (.inr k))),
          (H4.out.trans ⟨h6.1, fun b hb => h6.2 b (.inl hb)⟩).trans ⟨by simp, fun b hb => heap_alloc_old w3 _ (h5.lt (.inl hb))⟩,
          h5.below.size, by omega, by omega⟩
      clear h5 h6 e0 e1 C2
      go_wp2_with fail
      go_ret3
      exact HP.out
    · subst hv
      have HLAST := Lib.hid (fun W hW => own_last HO2.out hm W hW)
      have q1 : ((recs.length : Int) - 1) = (m : Int) ∧ -9223372036854775808 ≤ (m : Int) ∧ (m : Int) ≤ 9223372036854775807 := by
        have h9 := scan_size l.length 0 l (Nat.le_refl _)
        rw [HR.out] at h9
        have h10 := h9.2
        have h11 := h9.1
        simp only at h10 h11
        have := HLL.out
        have hm' : recs.length = m + 1 := hm
        clear h9
        omega
      have wm := wrI q1.1 q1.2
      have hm1 : (m : Int) < (recs.length : Int) := by have hm' : recs.length = m + 1 := hm; clear wm; omega
      have hm2 : (0 : Int) ≤ (m : Int) := by clear wm; omega
      have hm3 : (0 : Int) < (recs.length : Int) := by have hm' : recs.length = m + 1 := hm; clear wm; omega
      have hm4 : decide (0 < recs.length) = true := decide_eq_true (by have hm' : recs.length = m + 1 := hm; clear wm; omega)
      have HM := Lib.hid hm
      clear q1 hm
      go_wp2_with fail
      refine C2.out.mono ?_
      rintro e w3 ⟨rfl, h5, h6⟩
      rw [HST.out] at h5
      have f0 := (World.cell?_of_block (a := ⟨w.heap.size, 0, none⟩) (h6.2 w.heap.size (.inr (.inl rfl)))).trans e0
      have f1 := (World.cell?_of_block (a := ⟨w.heap.size, 1, none⟩) (h6.2 w.heap.size (.inr (.inl rfl)))).trans e1
      have hgY : (Value.slice (some ⟨g, 0, none⟩) recs.length cap).ownBlock = some g := by simp [Value.ownBlock]
      have hg3 : g < w3.heap.size := h5.lt (.inr (.inr hgY))
      have f2 : ∀ o, (w3.alloc o).cell? ⟨g, m * 2, none⟩ = some (.int .i64 (lastP recs : Int)) := fun o => HLAST.out _ ((heap_alloc_old w3 o hg3).trans (h6.2 g (.inr (.inr hgY))))
      have HL : Hid (((l.take sz).length : Int) = (sz : Int)) := Lib.hid (by rw [HLEN.out])
      have HP : Hid (OpenP w0 A X w (l.take sz) recs k (.returned (.tuple #[.pointer (some ⟨w3.heap.size, 0, none⟩), .slice (some ⟨g, 0, none⟩) recs.length cap, .int .i64 0])) (w3.alloc (.cells #[.pointer (some ⟨A, 0, none⟩), .string nL, .int .i64 (sz : Int), .int .i64 (lastP recs : Int), .bool false] 59 (0, 0)))) := Lib.hid
        ⟨w3.heap.size, .slice (some ⟨g, 0, none⟩) recs.length cap, k + 1, rfl, by rw [HL.out]; exact heap_alloc_new w3 _,
          ((own_rcs HO2.out).stay h6.1 (fun b hb => h6.2 b (.inr (.inr hb)))).below (below_new w3 _),
          h5.add (below_new w3 _) (fun b hb => by
            rcases hb with k | k | k
            · exact .inl (.inl k)
            · exact .inr ⟨Nat.le_of_eq k.symm, by rw [k]; simp⟩
            · exact .inl (.inr (.inr k))),
          (H4.out.trans ⟨h6.1, fun b hb => h6.2 b (.inl hb)⟩).trans ⟨by simp, fun b hb => heap_alloc_old w3 _ (h5.lt (.inl hb))⟩,
          h5.below.size, by clear wm; omega, by clear wm; omega⟩
      clear h5 h6 e0 e1 C2 hgY HLAST
      go_wp2_with fail
      go_ret3
      exact HP.out
  · have HLEN : Hid ((l.take sz).length = sz) := Lib.hid (by rw [List.length_take]; omega)
    have C2 := Lib.hid (fsettle_torn H3.out (by have := HK.out; omega) hsz)
    rw [HF.out] at C2
    have HST : Hid (st (l.take sz) sz (k + 2) = st (l.take sz) (l.take sz).length (k + 2)) := Lib.hid (by rw [HLEN.out])
    clear hsz
    rcases own_form2 HO2.out with ⟨hrecs, p, c, hv⟩ | ⟨g, m, cap, hv, hm, hg1, hg2⟩
    · subst hv
      have hrecs' : recs = [] := hrecs
      subst hrecs'
      go_wp2_with fail
      refine C2.out.mono ?_
      rintro e w3 ⟨rfl, h5, h6⟩
      rw [HST.out] at h5
      have f0 := (World.cell?_of_block (a := ⟨w.heap.size, 0, none⟩) (h6.2 w.heap.size (.inr (.inl rfl)))).trans e0
      have f1 := (World.cell?_of_block (a := ⟨w.heap.size, 1, none⟩) (h6.2 w.heap.size (.inr (.inl rfl)))).trans e1
      have HL : Hid (((l.take sz).length : Int) = (sz : Int)) := Lib.hid (by rw [HLEN.out])
      have HP : Hid (OpenP w0 A X w (l.take sz) [] k (.returned (.tuple #[.pointer (some ⟨w3.heap.size, 0, none⟩), .slice p 0 c, .int .i64 0])) (w3.alloc (.cells #[.pointer (some ⟨A, 0, none⟩), .string nL, .int .i64 (sz : Int), .int .i64 0, .bool false] 59 (0, 0)))) := Lib.hid
        ⟨w3.heap.size, .slice p 0 c, k + 2, rfl, by rw [HL.out]; exact heap_alloc_new w3 _, .inl ⟨rfl, p, c, rfl⟩,
          h5.add (below_new w3 _) (fun b hb => by
            rcases hb with k | k | k
            · exact .inl (.inl k)
            · exact .inr ⟨Nat.le_of_eq k.symm, by rw [k]; simp⟩
            · exact .inl (.inr (.inr k))),
          (H4.out.trans ⟨h6.1, fun b hb => h6.2 b (.inl hb)⟩).trans ⟨by simp, fun b hb => heap_alloc_old w3 _ (h5.lt (.inl hb))⟩,
          h5.below.size, by omega, by omega⟩
      clear h5 h6 e0 e1 C2
      go_wp2_with fail
      go_ret3
      exact HP.out
    · subst hv
      have HLAST := Lib.hid (fun W hW => own_last HO2.out hm W hW)
      have q1 : ((recs.length : Int) - 1) = (m : Int) ∧ -9223372036854775808 ≤ (m : Int) ∧ (m : Int) ≤ 9223372036854775807 := by
        have h9 := scan_size l.length 0 l (Nat.le_refl _)
        rw [HR.out] at h9
        have h10 := h9.2
        have h11 := h9.1
        simp only at h10 h11
        have := HLL.out
        have hm' : recs.length = m + 1 := hm
        clear h9
        omega
      have wm := wrI q1.1 q1.2
      have hm1 : (m : Int) < (recs.length : Int) := by have hm' : recs.length = m + 1 := hm; clear wm; omega
      have hm2 : (0 : Int) ≤ (m : Int) := by clear wm; omega
      have hm3 : (0 : Int) < (recs.length : Int) := by have hm' : recs.length = m + 1 := hm; clear wm; omega
      have hm4 : decide (0 < recs.length) = true := decide_eq_true (by have hm' : recs.length = m + 1 := hm; clear wm; omega)
      have HM := Lib.hid hm
      clear q1 hm
      go_wp2_with fail
      refine C2.out.mono ?_
      rintro e w3 ⟨rfl, h5, h6⟩
      rw [HST.out] at h5
      have f0 := (World.cell?_of_block (a := ⟨w.heap.size, 0, none⟩) (h6.2 w.heap.size (.inr (.inl rfl)))).trans e0
      have f1 := (World.cell?_of_block (a := ⟨w.heap.size, 1, none⟩) (h6.2 w.heap.size (.inr (.inl rfl)))).trans e1
      have hgY : (Value.slice (some ⟨g, 0, none⟩) recs.length cap).ownBlock = some g := by simp [Value.ownBlock]
      have hg3 : g < w3.heap.size := h5.lt (.inr (.inr hgY))
      have f2 : ∀ o, (w3.alloc o).cell? ⟨g, m * 2, none⟩ = some (.int .i64 (lastP recs : Int)) := fun o => HLAST.out _ ((heap_alloc_old w3 o hg3).trans (h6.2 g (.inr (.inr hgY))))
      have HL : Hid (((l.take sz).length : Int) = (sz : Int)) := Lib.hid (by rw [HLEN.out])
      have HP : Hid (OpenP w0 A X w (l.take sz) recs k (.returned (.tuple #[.pointer (some ⟨w3.heap.size, 0, none⟩), .slice (some ⟨g, 0, none⟩) recs.length cap, .int .i64 0])) (w3.alloc (.cells #[.pointer (some ⟨A, 0, none⟩), .string nL, .int .i64 (sz : Int), .int .i64 (lastP recs : Int), .bool false] 59 (0, 0)))) := Lib.hid
        ⟨w3.heap.size, .slice (some ⟨g, 0, none⟩) recs.length cap, k + 2, rfl, by rw [HL.out]; exact heap_alloc_new w3 _,
          ((own_rcs HO2.out).stay h6.1 (fun b hb => h6.2 b (.inr (.inr hb)))).below (below_new w3 _),
          h5.add (below_new w3 _) (fun b hb => by
            rcases hb with k | k | k
            · exact .inl (.inl k)
            · exact .inr ⟨Nat.le_of_eq k.symm, by rw [k]; simp⟩
            · exact .inl (.inr (.inr k))),
          (H4.out.trans ⟨h6.1, fun b hb => h6.2 b (.inl hb)⟩).trans ⟨by simp, fun b hb => heap_alloc_old w3 _ (h5.lt (.inl hb))⟩,
          h5.below.size, by clear wm; omega, by clear wm; omega⟩
      clear h5 h6 e0 e1 C2 hgY HLAST
      go_wp2_with fail
      go_ret3
      exact HP.out
theorem open_old {w0 w : World} {A : Nat} {X : Nat → Prop} {l : List UInt8} {s : Nat} {k : Int} (h : AtB w0 A (st l s k) X w) (hk : 0 ≤ k ∧ k ≤ 4611686018427387900) (hl : l.length ≤ 140737488351232) (recs : List Rc) (sz er : Nat) (hR : scan 0 l = ⟨recs, sz, er⟩) (hcase : (er = 0 ∧ sz = l.length) ∨ (er = 91 ∧ sz ≤ l.length)) :
    Calls Tryd.prog 6 #[.pointer (some ⟨A, 0, none⟩), .string nL] w (OpenP w0 A X w (l.take sz) recs k) :=
  open_gen h (fun Y W hW => fread_old hW) hk hl recs sz er hR hcase
theorem open_new {w0 w : World} {A : Nat} {X : Nat → Prop} (h : AtB w0 A Dk.new X w) :
    Calls Tryd.prog 6 #[.pointer (some ⟨A, 0, none⟩), .string nL] w (OpenP w0 A X w [] [] 2) :=
  open_gen (l := []) (s := 0) (k := 2) h (fun Y W hW => fread_new hW) (by omega) (by simp) [] 0 0 (scan_nil 0) (.inl ⟨rfl, rfl⟩)
end Go.Proofs.YtifghohaelmjjabDoor
