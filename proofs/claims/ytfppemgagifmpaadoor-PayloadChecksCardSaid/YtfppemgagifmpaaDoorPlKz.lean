/- payload's schemas: rows of specs in memory, outlined and all over them, CheckSchema. payload's specs: which may be; CheckSchema. Which points may be in a schema, plain: the program's way and the document's. payload's vecFits and fieldFits. payload's vecFits and fieldFits, whole. payload's all over vectors and fields by a function with a captured block; Check. payload's Check. The document's CheckSchema: it tells the program's own. The document's Spec, Kind, Zero. The document's Check: it tells the program's own. Conditions: those that each theorem names. -/
import Derived.Test.YtfppemgagifmpaaDoorPlM
import Derived.Test.YtfppemgagifmpaaDoorPlNm
import Derived.Test.YtfppemgagifmpaaDoorPlIn
import Derived.Test.YtfppemgagifmpaaDoorPlGe
import Derived.Test.YtfppemgagifmpaaDoorPlPi
import Derived.Test.YtfppemgagifmpaaDoorPlMe
import Derived.Deep.RegionWith
namespace Go.Proofs.YtfppemgagifmpaaDoor
set_option linter.unusedVariables false
open Go Go.RowKit Go.Shelf Pl
namespace Pl
structure VSp where
  name : Nm
  dim : Int
  metric : Int
structure FSp where
  name : Nm
  kind : Int
end Pl
def VSpAt (w : World) (v : Value) (L : List VSp) : Prop :=
  (L = [] ∧ ∃ p c, v = .slice p 0 c) ∨ ∃ g off c, v = .slice (some ⟨g, off, none⟩) L.length c ∧ g < w.heap.size ∧
    ∀ W : World, W.heap[g]? = w.heap[g]? → ∀ j (h : j < L.length), W.cell? ⟨g, off + j * 3, none⟩ = some (.string (L[j]).name) ∧ W.cell? ⟨g, off + j * 3 + 1, none⟩ = some (.int .i64 (L[j]).dim) ∧
      W.cell? ⟨g, off + j * 3 + 2, none⟩ = some (.int .i64 (L[j]).metric)
def FSpAt (w : World) (v : Value) (L : List FSp) : Prop :=
  (L = [] ∧ ∃ p c, v = .slice p 0 c) ∨ ∃ g off c, v = .slice (some ⟨g, off, none⟩) L.length c ∧ g < w.heap.size ∧
    ∀ W : World, W.heap[g]? = w.heap[g]? → ∀ j (h : j < L.length), W.cell? ⟨g, off + j * 2, none⟩ = some (.string (L[j]).name) ∧ W.cell? ⟨g, off + j * 2 + 1, none⟩ = some (.int .i64 (L[j]).kind)
theorem VSpAt.below {w w' : World} {v : Value} {L : List VSp} (h : VSpAt w v L) (g : Below w.heap.size w w') : VSpAt w' v L := by
  rcases h with h | ⟨b, off, c, rfl, hb, hc⟩
  · exact .inl h
  · exact .inr ⟨b, off, c, rfl, Nat.lt_of_lt_of_le hb g.size, fun W hW => hc W (hW.trans (g.block b hb))⟩
theorem FSpAt.below {w w' : World} {v : Value} {L : List FSp} (h : FSpAt w v L) (g : Below w.heap.size w w') : FSpAt w' v L := by
  rcases h with h | ⟨b, off, c, rfl, hb, hc⟩
  · exact .inl h
  · exact .inr ⟨b, off, c, rfl, Nat.lt_of_lt_of_le hb g.size, fun W hW => hc W (hW.trans (g.block b hb))⟩
theorem VSpAt.form {w : World} {v : Value} {L : List VSp} (h : VSpAt w v L) : ∃ p c, v = .slice p L.length c := by
  rcases h with ⟨rfl, p, c, rfl⟩ | ⟨g, off, c, rfl, hg, _⟩
  · exact ⟨p, c, rfl⟩
  · exact ⟨_, c, rfl⟩
theorem FSpAt.form {w : World} {v : Value} {L : List FSp} (h : FSpAt w v L) : ∃ p c, v = .slice p L.length c := by
  rcases h with ⟨rfl, p, c, rfl⟩ | ⟨g, off, c, rfl, hg, _⟩
  · exact ⟨p, c, rfl⟩
  · exact ⟨_, c, rfl⟩
def VSpOk (L : List VSp) : Prop := L.length ≤ Room ∧ ∀ x ∈ L, x.name.size ≤ Room
def FSpOk (L : List FSp) : Prop := L.length ≤ Room ∧ ∀ x ∈ L, x.name.size ≤ Room
theorem cellsTwo {w : World} {g : Nat} {a b : Value} {T : TypeId} {m : Nat × Nat} (h : w.heap[g]? = some (.cells #[a, b] T m)) : w.cell? ⟨g, 0, none⟩ = some a ∧ w.cell? ⟨g, 1, none⟩ = some b := by
  refine ⟨?_, ?_⟩ <;> (rw [Lib.cell_of_heap h]; rfl)
theorem vsname_any (nm : ByteArray) (dm mt : Int) (w : World) :
    Calls Tryd.prog 14 #[.agg #[.string nm, .int .i64 dm, .int .i64 mt]] w fun e w' => e = .returned (.string nm) ∧ Below w.heap.size w w' := by
  obtain ⟨d0, d1, d2⟩ := cells3_of (heap_last w (.cells #[.string nm, .int .i64 dm, .int .i64 mt] 50))
  go_enter Tryd.func14, Tryd.ntmps14
  go_wp2_with fail
  go_ret
  exact ⟨rfl, Below.alloc (Below.refl _ w) (Nat.le_refl _) _⟩
theorem fsname_any (nm : ByteArray) (kd : Int) (w : World) :
    Calls Tryd.prog 16 #[.agg #[.string nm, .int .i64 kd]] w fun e w' => e = .returned (.string nm) ∧ Below w.heap.size w w' := by
  obtain ⟨d0, d1⟩ := cellsTwo (heap_last w (.cells #[.string nm, .int .i64 kd] 54))
  go_enter Tryd.func16, Tryd.ntmps16
  go_wp2_with fail
  go_ret
  exact ⟨rfl, Below.alloc (Below.refl _ w) (Nat.le_refl _) _⟩
theorem vsname_enters : ∀ args w, (callFunc 14 args).run Tryd.prog w = .ok (.enter 14 args) w := enters_of Tryd.func14 (by kernel_rfl) rfl
theorem fsname_enters : ∀ args w, (callFunc 16 args).run Tryd.prog w = .ok (.enter 16 args) w := enters_of Tryd.func16 (by kernel_rfl) rfl
set_option maxHeartbeats 1000000 in
set_option maxRecDepth 100000 in
theorem outlVSp_any (L : List VSp) (v : Value) (least most : Nat) (w : World) (h : VSpAt w v L) (hl : VSpOk L) :
    Calls Tryd.prog 13 #[v, .func (.func 14) #[] #[], .int .i64 least, .int .i64 most] w fun e w' => e = .returned (.bool (outl (L.map fun x => x.name) least most)) ∧ Below w.heap.size w w' := by
  have hg := vsname_enters
  have HS := Lib.hid (room_len hl.1)
  have HL := Lib.hid hl
  clear hl
  obtain ⟨r, hr⟩ : ∃ r, r = outl (L.map fun x => x.name) least most := ⟨_, rfl⟩
  rw [← hr]
  unfold outl at hr
  rw [List.length_map] at hr
  have HR := Lib.hid hr
  clear hr
  by_cases h1 : (least : Int) ≤ (L.length : Int)
  · by_cases h2 : (L.length : Int) ≤ most
    · have HR2 : Hid (r = rises ⟨#[]⟩ (L.map fun x => x.name)) := Lib.hid (by rw [HR.out]; simp [h1, h2])
      clear HR
      rcases h with ⟨rfl, q, c, rfl⟩ | ⟨b, off, c, rfl, hb, hc⟩
      · have HE : Hid (r = true) := Lib.hid (by rw [HR2.out]; rfl)
        obtain rfl : least = 0 := by simpa using h1
        have h4 : (0 : Int) ≤ most := by omega
        clear h1 h2
        go_enter Tryd.func13, Tryd.ntmps13
        go_wp2_with fail
        go_loop [25] (fun i => i = .int .i64 0) (fun _ => 0)
        case atStart => rfl
        case round =>
          subst hrel
          go_wp2
          go_ret
          rw [HE.out]
          exact ⟨rfl, Below.refl _ _⟩
      · have HC := Lib.hid hc
        have HB := Lib.hid hb
        clear hc hb
        have h5 : ¬ L.length < least := by omega
        have h6 : ¬ most < L.length := by omega
        go_enter Tryd.func13, Tryd.ntmps13
        go_wp2_with fail
        go_loopw [9, 25] (fun la i wr => ∃ (k : Nat) (x : Nm), k ≤ L.length ∧ i = .int .i64 k ∧ la = .string x ∧ Below w.heap.size w wr ∧ Hid (r = rises x ((L.map fun x => x.name).drop k))) (fun _ i _ => L.length - (intOf i).toNat)
        case atStart => exact ⟨0, _, Nat.zero_le _, rfl, rfl, Below.refl _ _, HR2⟩
        case round =>
          obtain ⟨k, la, hk, rfl, rfl, hbw, HA⟩ := hrel
          have HBW := Lib.hid hbw
          clear hbw
          by_cases hlt : k < L.length
          · obtain ⟨c0, c1, c2⟩ := HC.out wr (HBW.out.block b HB.out) k hlt
            have hx : L[k]? = some L[k] := List.getElem?_eq_getElem hlt
            have hsz := HL.out.2 _ (List.getElem_mem hlt)
            generalize hcc : L[k] = x at hx c0 c1 c2 hsz
            obtain ⟨nm, dm, mt⟩ := x
            simp only at c0 c1 c2 hsz
            have hN : (L.map fun x => x.name)[k]? = some nm := by rw [List.getElem?_map, hx]; rfl
            have HA2 := Lib.hid (HA.out.trans (rises_at (la := la) hN))
            have HX := Lib.hid (fun W => vsname_any nm dm mt W)
            have HY := Lib.hid (fun W => name_any nm hsz W)
            have z := heap_last wr (.cells #[.string nm, .int .i64 dm, .int .i64 mt] 50)
            obtain ⟨d0, d1, d2⟩ := cells3_of z
            clear hx hN HA hcc z hsz
            go_wp2_with fail
            refine (HX.out _).mono ?_
            rintro e w2 ⟨rfl, b2⟩
            have HB2 := Lib.hid (HBW.out.trans ((Below.alloc (Below.refl _ wr) (Nat.le_refl _) _).mono HBW.out.size |>.trans (b2.mono (by simp; exact Nat.le_succ_of_le HBW.out.size))))
            clear b2 d0 d1 d2 c0 c1 c2
            go_wp2_with fail
            refine (HY.out w2).mono ?_
            rintro e w3 ⟨rfl, b3⟩
            have HB3 := Lib.hid (HB2.out.trans (b3.mono HB2.out.size))
            clear b3
            cases ha : isName nm with
            | true =>
              cases hbl : Op.bytesLess nm.toList la.toList with
              | true =>
                have HN := Lib.hid (HA2.out.trans (by rw [ha, hbl]; rfl : _ = false))
                go_wp2_with fail
                go_ret
                rw [HN.out]
                exact ⟨rfl, HB3.out⟩
              | false =>
                cases hbe : nm.toList == la.toList with
                | true =>
                  have HN := Lib.hid (HA2.out.trans (by rw [ha, hbl, hbe]; rfl : _ = false))
                  go_wp2_with fail
                  go_ret
                  rw [HN.out]
                  exact ⟨rfl, HB3.out⟩
                | false =>
                  have HN := Lib.hid (HA2.out.trans (by rw [ha, hbl, hbe]; rfl : _ = rises nm ((L.map fun x => x.name).drop (k + 1))))
                  go_wp2_with fail
                  go_roundw
                  case rel =>
                    exact ⟨k + 1, nm, by omega, congrArg _ (wrap_s HS.out hlt), rfl, HB3.out, HN⟩
                  case measure =>
                    rw [wrap_s HS.out hlt]
                    exact int_less hlt
            | false =>
              go_wp2_with fail
              go_ret
              rw [HA2.out, ha]
              exact ⟨rfl, HB3.out⟩
          · obtain rfl : k = L.length := by omega
            have HE : Hid (r = true) := Lib.hid (by rw [HA.out, List.drop_of_length_le (by simp)]; rfl)
            go_wp2_with fail
            go_ret
            rw [HE.out]
            exact ⟨rfl, HBW.out⟩
    · have HN : Hid (r = false) := Lib.hid (by rw [HR.out]; simp [h2])
      obtain ⟨p, c, rfl⟩ := h.form
      clear h
      have h3 : (most : Int) < L.length := by omega
      go_enter Tryd.func13, Tryd.ntmps13
      go_wp2_with fail
      go_ret
      rw [HN.out]
      exact ⟨rfl, Below.refl _ _⟩
  · have HN : Hid (r = false) := Lib.hid (by rw [HR.out]; simp [h1])
    obtain ⟨p, c, rfl⟩ := h.form
    clear h
    have h3 : (L.length : Int) < least := by omega
    go_enter Tryd.func13, Tryd.ntmps13
    go_wp2_with fail
    go_ret
    rw [HN.out]
    exact ⟨rfl, Below.refl _ _⟩
set_option maxHeartbeats 1000000 in
set_option maxRecDepth 100000 in
theorem outlFSp_any (L : List FSp) (v : Value) (least most : Nat) (w : World) (h : FSpAt w v L) (hl : FSpOk L) :
    Calls Tryd.prog 15 #[v, .func (.func 16) #[] #[], .int .i64 least, .int .i64 most] w fun e w' => e = .returned (.bool (outl (L.map fun x => x.name) least most)) ∧ Below w.heap.size w w' := by
  have hg := fsname_enters
  have HS := Lib.hid (room_len hl.1)
  have HL := Lib.hid hl
  clear hl
  obtain ⟨r, hr⟩ : ∃ r, r = outl (L.map fun x => x.name) least most := ⟨_, rfl⟩
  rw [← hr]
  unfold outl at hr
  rw [List.length_map] at hr
  have HR := Lib.hid hr
  clear hr
  by_cases h1 : (least : Int) ≤ (L.length : Int)
  · by_cases h2 : (L.length : Int) ≤ most
    · have HR2 : Hid (r = rises ⟨#[]⟩ (L.map fun x => x.name)) := Lib.hid (by rw [HR.out]; simp [h1, h2])
      clear HR
      rcases h with ⟨rfl, q, c, rfl⟩ | ⟨b, off, c, rfl, hb, hc⟩
      · have HE : Hid (r = true) := Lib.hid (by rw [HR2.out]; rfl)
        obtain rfl : least = 0 := by simpa using h1
        have h4 : (0 : Int) ≤ most := by omega
        clear h1 h2
        go_enter Tryd.func15, Tryd.ntmps15
        go_wp2_with fail
        go_loop [25] (fun i => i = .int .i64 0) (fun _ => 0)
        case atStart => rfl
        case round =>
          subst hrel
          go_wp2
          go_ret
          rw [HE.out]
          exact ⟨rfl, Below.refl _ _⟩
      · have HC := Lib.hid hc
        have HB := Lib.hid hb
        clear hc hb
        have h5 : ¬ L.length < least := by omega
        have h6 : ¬ most < L.length := by omega
        go_enter Tryd.func15, Tryd.ntmps15
        go_wp2_with fail
        go_loopw [9, 25] (fun la i wr => ∃ (k : Nat) (x : Nm), k ≤ L.length ∧ i = .int .i64 k ∧ la = .string x ∧ Below w.heap.size w wr ∧ Hid (r = rises x ((L.map fun x => x.name).drop k))) (fun _ i _ => L.length - (intOf i).toNat)
        case atStart => exact ⟨0, _, Nat.zero_le _, rfl, rfl, Below.refl _ _, HR2⟩
        case round =>
          obtain ⟨k, la, hk, rfl, rfl, hbw, HA⟩ := hrel
          have HBW := Lib.hid hbw
          clear hbw
          by_cases hlt : k < L.length
          · obtain ⟨c0, c1⟩ := HC.out wr (HBW.out.block b HB.out) k hlt
            have hx : L[k]? = some L[k] := List.getElem?_eq_getElem hlt
            have hsz := HL.out.2 _ (List.getElem_mem hlt)
            generalize hcc : L[k] = x at hx c0 c1 hsz
            obtain ⟨nm, kd⟩ := x
            simp only at c0 c1 hsz
            have hN : (L.map fun x => x.name)[k]? = some nm := by rw [List.getElem?_map, hx]; rfl
            have HA2 := Lib.hid (HA.out.trans (rises_at (la := la) hN))
            have HX := Lib.hid (fun W => fsname_any nm kd W)
            have HY := Lib.hid (fun W => name_any nm hsz W)
            have z := heap_last wr (.cells #[.string nm, .int .i64 kd] 54)
            obtain ⟨d0, d1⟩ := cellsTwo z
            clear hx hN HA hcc z hsz
            go_wp2_with fail
            refine (HX.out _).mono ?_
            rintro e w2 ⟨rfl, b2⟩
            have HB2 := Lib.hid (HBW.out.trans ((Below.alloc (Below.refl _ wr) (Nat.le_refl _) _).mono HBW.out.size |>.trans (b2.mono (by simp; exact Nat.le_succ_of_le HBW.out.size))))
            clear b2 d0 d1 c0 c1
            go_wp2_with fail
            refine (HY.out w2).mono ?_
            rintro e w3 ⟨rfl, b3⟩
            have HB3 := Lib.hid (HB2.out.trans (b3.mono HB2.out.size))
            clear b3
            cases ha : isName nm with
            | true =>
              cases hbl : Op.bytesLess nm.toList la.toList with
              | true =>
                have HN := Lib.hid (HA2.out.trans (by rw [ha, hbl]; rfl : _ = false))
                go_wp2_with fail
                go_ret
                rw [HN.out]
                exact ⟨rfl, HB3.out⟩
              | false =>
                cases hbe : nm.toList == la.toList with
                | true =>
                  have HN := Lib.hid (HA2.out.trans (by rw [ha, hbl, hbe]; rfl : _ = false))
                  go_wp2_with fail
                  go_ret
                  rw [HN.out]
                  exact ⟨rfl, HB3.out⟩
                | false =>
                  have HN := Lib.hid (HA2.out.trans (by rw [ha, hbl, hbe]; rfl : _ = rises nm ((L.map fun x => x.name).drop (k + 1))))
                  go_wp2_with fail
                  go_roundw
                  case rel =>
                    exact ⟨k + 1, nm, by omega, congrArg _ (wrap_s HS.out hlt), rfl, HB3.out, HN⟩
                  case measure =>
                    rw [wrap_s HS.out hlt]
                    exact int_less hlt
            | false =>
              go_wp2_with fail
              go_ret
              rw [HA2.out, ha]
              exact ⟨rfl, HB3.out⟩
          · obtain rfl : k = L.length := by omega
            have HE : Hid (r = true) := Lib.hid (by rw [HA.out, List.drop_of_length_le (by simp)]; rfl)
            go_wp2_with fail
            go_ret
            rw [HE.out]
            exact ⟨rfl, HBW.out⟩
    · have HN : Hid (r = false) := Lib.hid (by rw [HR.out]; simp [h2])
      obtain ⟨p, c, rfl⟩ := h.form
      clear h
      have h3 : (most : Int) < L.length := by omega
      go_enter Tryd.func15, Tryd.ntmps15
      go_wp2_with fail
      go_ret
      rw [HN.out]
      exact ⟨rfl, Below.refl _ _⟩
  · have HN : Hid (r = false) := Lib.hid (by rw [HR.out]; simp [h1])
    obtain ⟨p, c, rfl⟩ := h.form
    clear h
    have h3 : (L.length : Int) < least := by omega
    go_enter Tryd.func15, Tryd.ntmps15
    go_wp2_with fail
    go_ret
    rw [HN.out]
    exact ⟨rfl, Below.refl _ _⟩
end Go.Proofs.YtfppemgagifmpaaDoor
namespace Go.Proofs.YtfppemgagifmpaaDoor
set_option linter.unusedVariables false
open Go Go.RowKit Go.Shelf Pl
def vspB (x : VSp) : Bool := decide (1 ≤ x.dim) && (decide (x.dim ≤ 64) && metricB x.metric)
def fspB (x : FSp) : Bool := decide (1 ≤ x.kind) && decide (x.kind < 4)
theorem metric_any (n : Int) (w : World) :
    Calls Tryd.prog 41 #[.int .i64 n] w fun e w' => e = .returned (.bool (metricB n)) ∧ w' = w := by
  unfold metricB
  by_cases h1 : n = 1
  · subst h1
    go_enter Tryd.func41, Tryd.ntmps41
    go_wp2_with fail
    go_ret
    exact ⟨rfl, rfl⟩
  · have h1' : (n == 1) = false := by simpa using h1
    by_cases h2 : n = 2
    · subst h2
      go_enter Tryd.func41, Tryd.ntmps41
      go_wp2_with fail
      go_ret
      exact ⟨rfl, rfl⟩
    · have h2' : (n == 2) = false := by simpa using h2
      go_enter Tryd.func41, Tryd.ntmps41
      go_wp2_with fail
      go_ret
      exact ⟨by by_cases h3 : n = 3 <;> simp [h1, h2, h3], rfl⟩
theorem vspMay_any (nm : ByteArray) (dm mt : Int) (w : World) :
    Calls Tryd.prog 18 #[.agg #[.string nm, .int .i64 dm, .int .i64 mt]] w fun e w' => e = .returned (.bool (vspB ⟨nm, dm, mt⟩)) ∧ Below w.heap.size w w' := by
  obtain ⟨r, hr⟩ : ∃ r, r = vspB ⟨nm, dm, mt⟩ := ⟨_, rfl⟩
  rw [← hr]
  unfold vspB at hr
  simp only at hr
  have HM := Lib.hid (metric_any mt)
  have HR := Lib.hid hr
  generalize metricB mt = m at *
  clear hr
  obtain ⟨d0, d1, d2⟩ := cells3_of (heap_last w (.cells #[.string nm, .int .i64 dm, .int .i64 mt] 50))
  have HB := Lib.hid (fresh_alloc w (.cells #[.string nm, .int .i64 dm, .int .i64 mt] 50))
  go_enter Tryd.func18, Tryd.ntmps18
  by_cases h1 : (1 : Int) ≤ dm
  · by_cases h2 : dm ≤ 64
    · go_wp2_with fail
      refine (HM.out _).mono ?_
      rintro e w2 ⟨rfl, rfl⟩
      go_wp2_with fail
      go_ret
      exact ⟨by rw [HR.out]; simp [h1, h2], HB.out⟩
    · go_wp2_with fail
      go_ret
      exact ⟨by rw [HR.out]; simp [h1]; intros; omega, HB.out⟩
  · go_wp2_with fail
    go_ret
    exact ⟨by rw [HR.out]; simp; intros; omega, HB.out⟩
set_option maxHeartbeats 1000000 in
theorem fspMay_any (nm : ByteArray) (k : Int) (w : World) (G : Gp w) :
    Calls Tryd.prog 20 #[.agg #[.string nm, .int .i64 k]] w fun e w' => e = .returned (.bool (fspB ⟨nm, k⟩)) ∧ Below w.heap.size w w' := by
  obtain ⟨d0, d1⟩ := cellsTwo (heap_last w (.cells #[.string nm, .int .i64 k] 54))
  have HB := Lib.hid (fresh_alloc w (.cells #[.string nm, .int .i64 k] 54))
  have HG := Lib.hid G
  by_cases hk : 1 ≤ k ∧ k < 4
  · have HR : Hid (fspB ⟨nm, k⟩ = true) := Lib.hid (by unfold fspB; simp only; rw [decide_eq_true hk.1, decide_eq_true hk.2]; rfl)
    rw [HR.out]
    clear HR
    obtain ⟨q, rfl⟩ : ∃ q : Nat, k = q := ⟨k.toNat, by omega⟩
    have HZ := Lib.hid (fun W (G : Gp W) => size_kind q (by omega) (by omega) W G)
    generalize szT q = z at *
    obtain ⟨a, lo, hi, tx⟩ := z
    clear hk G
    go_enter Tryd.func20, Tryd.ntmps20
    go_wp2_with fail
    refine (HZ.out _ (HG.out.alloc _)).mono ?_
    rintro e w3 ⟨rfl, b3⟩
    have HB3 := Lib.hid (HB.out.trans (b3.mono HB.out.size))
    clear b3 d0 d1
    go_wp2_with fail
    go_ret
    exact ⟨rfl, HB3.out.alloc HB3.out.size _⟩
  · have hk' : k < 1 ∨ 4 ≤ k := by omega
    have HR : Hid (fspB ⟨nm, k⟩ = false) := Lib.hid (by
      unfold fspB; simp only
      rcases hk' with h | h
      · rw [decide_eq_false (show ¬ 1 ≤ k by omega)]; rfl
      · rw [decide_eq_false (show ¬ k < 4 by omega)]; simp)
    rw [HR.out]
    have HZ := Lib.hid (fun W => size_none k hk' W)
    clear HR hk hk' G
    go_enter Tryd.func20, Tryd.ntmps20
    go_wp2_with fail
    refine (HZ.out _).mono ?_
    rintro e w3 ⟨rfl, b3⟩
    have HB3 := Lib.hid (HB.out.trans (b3.mono HB.out.size))
    clear b3 d0 d1
    go_wp2_with fail
    go_ret
    exact ⟨rfl, HB3.out.alloc HB3.out.size _⟩
theorem vsp_enters : ∀ args w, (callFunc 18 args).run Tryd.prog w = .ok (.enter 18 args) w := enters_of Tryd.func18 (by kernel_rfl) rfl
theorem fsp_enters : ∀ args w, (callFunc 20 args).run Tryd.prog w = .ok (.enter 20 args) w := enters_of Tryd.func20 (by kernel_rfl) rfl
set_option maxHeartbeats 1000000 in
set_option maxRecDepth 100000 in
theorem allVSp_any (L : List VSp) (v : Value) (w : World) (h : VSpAt w v L) (hl : VSpOk L) :
    Calls Tryd.prog 17 #[v, .func (.func 18) #[] #[]] w fun e w' => e = .returned (.bool (L.all fun x => vspB x)) ∧ Below w.heap.size w w' := by
  have hg := vsp_enters
  have HS := Lib.hid (room_len hl.1)
  have HL := Lib.hid hl
  clear hl
  rcases h with ⟨rfl, q, c, rfl⟩ | ⟨b, off, c, rfl, hb, hc⟩
  · go_enter Tryd.func17, Tryd.ntmps17
    go_wp2
    go_loop [9] (fun i => i = .int .i64 0) (fun _ => 0)
    case atStart => rfl
    case round =>
      subst hrel
      go_wp2
      go_ret
      exact ⟨rfl, Below.refl _ _⟩
  · go_enter Tryd.func17, Tryd.ntmps17
    have HC := Lib.hid hc
    have HB := Lib.hid hb
    clear hc hb
    go_wp2
    go_loopw [9] (fun i wr => ∃ k : Nat, k ≤ L.length ∧ i = .int .i64 k ∧ Below w.heap.size w wr ∧ Hid ((L.take k).all (fun x => vspB x) = true)) (fun i _ => L.length - (intOf i).toNat)
    case atStart => exact ⟨0, Nat.zero_le _, rfl, Below.refl _ _, Lib.hid (by simp)⟩
    case round =>
      obtain ⟨k, hk, rfl, hbw, HA⟩ := hrel
      have HBW := Lib.hid hbw
      clear hbw
      by_cases hlt : k < L.length
      · obtain ⟨c0, c1, c2⟩ := HC.out wr (HBW.out.block b HB.out) k hlt
        have hx : L[k]? = some L[k] := List.getElem?_eq_getElem hlt
        have hsz := HL.out.2 _ (List.getElem_mem hlt)
        generalize hcc : L[k] = x at hx c0 c1 c2 hsz
        obtain ⟨nm, dm, mt⟩ := x
        simp only at c0 c1 c2 hsz
        have HX := Lib.hid (fun W => vspMay_any nm dm mt W)
        obtain ⟨r, hr⟩ : ∃ r, r = vspB ⟨nm, dm, mt⟩ := ⟨_, rfl⟩
        rw [← hr] at HX
        have z := heap_last wr (.cells #[.string nm, .int .i64 dm, .int .i64 mt] 50)
        obtain ⟨d0, d1, d2⟩ := cells3_of z
        cases r with
        | true =>
          have HN := Lib.hid (all_next' (p := fun x => vspB x) hx HA.out hr.symm)
          clear hx HA hr hcc z hsz
          go_wp2_with fail
          refine (HX.out _).mono ?_
          rintro e w2 ⟨rfl, b2⟩
          have HB2 := Lib.hid (HBW.out.trans ((Below.alloc (Below.refl _ wr) (Nat.le_refl _) _).mono HBW.out.size |>.trans (b2.mono (by simp; exact Nat.le_succ_of_le HBW.out.size))))
          clear b2 d0 d1 d2 c0 c1 c2
          go_wp2_with fail
          go_roundw
          case rel => exact ⟨k + 1, by omega, congrArg _ (wrap_s HS.out hlt), HB2.out, HN⟩
          case measure =>
            rw [wrap_s HS.out hlt]
            exact int_less hlt
        | false =>
          have HN : Hid (L.all (fun x => vspB x) = false) := Lib.hid (all_no' hx hr.symm)
          clear hx HA hr hcc z hsz
          go_wp2_with fail
          refine (HX.out _).mono ?_
          rintro e w2 ⟨rfl, b2⟩
          have HB2 := Lib.hid (HBW.out.trans ((Below.alloc (Below.refl _ wr) (Nat.le_refl _) _).mono HBW.out.size |>.trans (b2.mono (by simp; exact Nat.le_succ_of_le HBW.out.size))))
          clear b2 d0 d1 d2 c0 c1 c2
          go_wp2_with fail
          go_ret
          rw [HN.out]
          exact ⟨rfl, HB2.out⟩
      · obtain rfl : k = L.length := by omega
        have hx : L.all (fun x => vspB x) = true := by have := HA.out; rwa [List.take_length] at this
        have HE := Lib.hid hx
        clear hx
        go_wp2_with fail
        go_ret
        rw [HE.out]
        exact ⟨rfl, HBW.out⟩
set_option maxHeartbeats 1000000 in
set_option maxRecDepth 100000 in
theorem allFSp_any (L : List FSp) (v : Value) (w : World) (G : Gp w) (h : FSpAt w v L) (hl : FSpOk L) :
    Calls Tryd.prog 19 #[v, .func (.func 20) #[] #[]] w fun e w' => e = .returned (.bool (L.all fun x => fspB x)) ∧ Below w.heap.size w w' := by
  have hg := fsp_enters
  have HS := Lib.hid (room_len hl.1)
  have HL := Lib.hid hl
  have HG := Lib.hid G
  clear hl G
  rcases h with ⟨rfl, q, c, rfl⟩ | ⟨b, off, c, rfl, hb, hc⟩
  · go_enter Tryd.func19, Tryd.ntmps19
    go_wp2
    go_loop [9] (fun i => i = .int .i64 0) (fun _ => 0)
    case atStart => rfl
    case round =>
      subst hrel
      go_wp2
      go_ret
      exact ⟨rfl, Below.refl _ _⟩
  · go_enter Tryd.func19, Tryd.ntmps19
    have HC := Lib.hid hc
    have HB := Lib.hid hb
    clear hc hb
    go_wp2
    go_loopw [9] (fun i wr => ∃ k : Nat, k ≤ L.length ∧ i = .int .i64 k ∧ Below w.heap.size w wr ∧ Hid ((L.take k).all (fun x => fspB x) = true)) (fun i _ => L.length - (intOf i).toNat)
    case atStart => exact ⟨0, Nat.zero_le _, rfl, Below.refl _ _, Lib.hid (by simp)⟩
    case round =>
      obtain ⟨k, hk, rfl, hbw, HA⟩ := hrel
      have HBW := Lib.hid hbw
      clear hbw
      by_cases hlt : k < L.length
      · obtain ⟨c0, c1⟩ := HC.out wr (HBW.out.block b HB.out) k hlt
        have hx : L[k]? = some L[k] := List.getElem?_eq_getElem hlt
        have hsz := HL.out.2 _ (List.getElem_mem hlt)
        generalize hcc : L[k] = x at hx c0 c1 hsz
        obtain ⟨nm, kd⟩ := x
        simp only at c0 c1 hsz
        have HX := Lib.hid (fun W (G : Gp W) => fspMay_any nm kd W G)
        obtain ⟨r, hr⟩ : ∃ r, r = fspB ⟨nm, kd⟩ := ⟨_, rfl⟩
        rw [← hr] at HX
        have z := heap_last wr (.cells #[.string nm, .int .i64 kd] 54)
        obtain ⟨d0, d1⟩ := cellsTwo z
        have GW := Lib.hid (HG.out.fresh HBW.out)
        cases r with
        | true =>
          have HN := Lib.hid (all_next' (p := fun x => fspB x) hx HA.out hr.symm)
          clear hx HA hr hcc z hsz
          go_wp2_with fail
          refine (HX.out _ (GW.out.alloc _)).mono ?_
          rintro e w2 ⟨rfl, b2⟩
          have HB2 := Lib.hid (HBW.out.trans ((Below.alloc (Below.refl _ wr) (Nat.le_refl _) _).mono HBW.out.size |>.trans (b2.mono (by simp; exact Nat.le_succ_of_le HBW.out.size))))
          clear b2 d0 d1 c0 c1
          go_wp2_with fail
          go_roundw
          case rel => exact ⟨k + 1, by omega, congrArg _ (wrap_s HS.out hlt), HB2.out, HN⟩
          case measure =>
            rw [wrap_s HS.out hlt]
            exact int_less hlt
        | false =>
          have HN : Hid (L.all (fun x => fspB x) = false) := Lib.hid (all_no' hx hr.symm)
          clear hx HA hr hcc z hsz
          go_wp2_with fail
          refine (HX.out _ (GW.out.alloc _)).mono ?_
          rintro e w2 ⟨rfl, b2⟩
          have HB2 := Lib.hid (HBW.out.trans ((Below.alloc (Below.refl _ wr) (Nat.le_refl _) _).mono HBW.out.size |>.trans (b2.mono (by simp; exact Nat.le_succ_of_le HBW.out.size))))
          clear b2 d0 d1 c0 c1
          go_wp2_with fail
          go_ret
          rw [HN.out]
          exact ⟨rfl, HB2.out⟩
      · obtain rfl : k = L.length := by omega
        have hx : L.all (fun x => fspB x) = true := by have := HA.out; rwa [List.take_length] at this
        have HE := Lib.hid hx
        clear hx
        go_wp2_with fail
        go_ret
        rw [HE.out]
        exact ⟨rfl, HBW.out⟩
/-- Which schemas may be. -/
def schB (V : List VSp) (F : List FSp) : Bool := outl (V.map fun x => x.name) 1 4 && (outl (F.map fun x => x.name) 0 16 && ((V.all fun x => vspB x) && F.all fun x => fspB x))
set_option maxHeartbeats 1000000 in
set_option maxRecDepth 100000 in
theorem schema_any (vv fv : Value) (V : List VSp) (F : List FSp) (w : World) (G : Gp w) (hv : VSpAt w vv V) (hf : FSpAt w fv F) (kv : VSpOk V) (kf : FSpOk F) :
    Calls Tryd.prog 6 #[.agg #[vv, fv]] w fun e w' => e = .returned (.int .i64 (if schB V F then 0 else 50)) ∧ Below w.heap.size w w' := by
  have H1 := Lib.hid (fun W (g : Below w.heap.size w W) => outlVSp_any V vv 1 4 W (hv.below g) kv)
  have H2 := Lib.hid (fun W (g : Below w.heap.size w W) => outlFSp_any F fv 0 16 W (hf.below g) kf)
  have H3 := Lib.hid (fun W (g : Below w.heap.size w W) => allVSp_any V vv W (hv.below g) kv)
  have H4 := Lib.hid (fun W (g : Below w.heap.size w W) => allFSp_any F fv W (G.fresh g) (hf.below g) kf)
  obtain ⟨pv, cv, rfl⟩ := hv.form
  obtain ⟨pf, cf, rfl⟩ := hf.form
  clear hv hf kv kf
  obtain ⟨r, hr⟩ : ∃ r, r = schB V F := ⟨_, rfl⟩
  rw [← hr]
  unfold schB at hr
  have HR0 := Lib.hid hr
  obtain ⟨x, hx⟩ : ∃ x : Int, x = if r then 0 else 50 := ⟨_, rfl⟩
  rw [← hx]
  have HR := Lib.hid (hx.trans (by rw [HR0.out]))
  clear hr hx HR0
  generalize outl (V.map fun x => x.name) 1 4 = a at *
  generalize outl (F.map fun x => x.name) 0 16 = b at *
  generalize (V.all fun x => vspB x) = c at *
  generalize (F.all fun x => fspB x) = d at *
  generalize V.length = nv at *
  generalize F.length = nf at *
  have hlt : w.heap.size < (w.alloc (.cells #[.slice pv nv cv, .slice pf nf cf] 25)).heap.size := by simp
  have HC := Lib.hid (fun W (g : Below (w.alloc (.cells #[.slice pv nv cv, .slice pf nf cf] 25)).heap.size (w.alloc (.cells #[.slice pv nv cv, .slice pf nf cf] 25)) W) => cellsTwo ((g.block w.heap.size hlt).trans (heap_last w (.cells #[.slice pv nv cv, .slice pf nf cf] 25))))
  clear hlt
  obtain ⟨d0, d1⟩ := cellsTwo (heap_last w (.cells #[.slice pv nv cv, .slice pf nf cf] 25))
  have HB := Lib.hid (fresh_alloc w (.cells #[.slice pv nv cv, .slice pf nf cf] 25))
  go_enter Tryd.func6, Tryd.ntmps6
  go_wp2_with fail
  refine (H1.out _ HB.out).mono ?_
  rintro e w1 ⟨rfl, b1⟩
  have HQ1 := Lib.hid b1
  have HB1 := Lib.hid (HB.out.trans (b1.mono HB.out.size))
  obtain ⟨e10, e11⟩ := HC.out w1 HQ1.out
  clear b1 d0 d1
  cases a with
  | false =>
    go_wp2_with fail
    go_ret
    exact ⟨by rw [HR.out]; simp, HB1.out⟩
  | true =>
    go_wp2_with fail
    refine (H2.out _ HB1.out).mono ?_
    rintro e w2 ⟨rfl, b2⟩
    have HQ2 := Lib.hid (HQ1.out.trans (b2.mono HQ1.out.size))
    have HB2 := Lib.hid (HB1.out.trans (b2.mono HB1.out.size))
    obtain ⟨e20, e21⟩ := HC.out w2 HQ2.out
    clear b2 e10 e11
    cases b with
    | false =>
      go_wp2_with fail
      go_ret
      exact ⟨by rw [HR.out]; simp, HB2.out⟩
    | true =>
      go_wp2_with fail
      refine (H3.out _ HB2.out).mono ?_
      rintro e w3 ⟨rfl, b3⟩
      have HQ3 := Lib.hid (HQ2.out.trans (b3.mono HQ2.out.size))
      have HB3 := Lib.hid (HB2.out.trans (b3.mono HB2.out.size))
      obtain ⟨e30, e31⟩ := HC.out w3 HQ3.out
      clear b3 e20 e21
      cases c with
      | false =>
        go_wp2_with fail
        go_ret
        exact ⟨by rw [HR.out]; simp, HB3.out⟩
      | true =>
        go_wp2_with fail
        refine (H4.out _ HB3.out).mono ?_
        rintro e w4 ⟨rfl, b4⟩
        have HQ4 := Lib.hid (HQ3.out.trans (b4.mono HQ3.out.size))
        have HB4 := Lib.hid (HB3.out.trans (b4.mono HB3.out.size))
        obtain ⟨e40, e41⟩ := HC.out w4 HQ4.out
        clear b4 e30 e31
        cases d with
        | false =>
          go_wp2_with fail
          go_ret
          exact ⟨by rw [HR.out]; simp, HB4.out⟩
        | true =>
          go_wp2_with fail
          go_ret
          exact ⟨by rw [HR.out]; simp, HB4.out⟩
end Go.Proofs.YtfppemgagifmpaaDoor
namespace Go.Proofs.YtfppemgagifmpaaDoor
set_option linter.unusedVariables false
open Go Go.RowKit Go.Shelf Pl
theorem bless_eq : ∀ (x y : List UInt8), Op.bytesLess x y = decide (x < y)
  | [], [] => by simp [Op.bytesLess]
  | _ :: _, [] => by simp [Op.bytesLess]
  | [], _ :: _ => by simp [Op.bytesLess]
  | a :: x, b :: y => by
    rw [Op.bytesLess, bless_eq x y]
    simp only [List.cons_lt_cons_iff]
    by_cases h1 : a < b <;> by_cases h2 : a = b <;> by_cases h3 : x < y <;> simp [h1, h2, h3]
/-- Names that rise: each is greater than the one ahead of all, and no two are the same. -/
theorem rises_pair : ∀ (la : Nm) (ns : List Nm), rises la ns = true → (∀ x ∈ ns, la.toList < x.toList) ∧ ns.Pairwise fun a b => a.toList < b.toList
  | _, [], _ => ⟨fun x hx => (by cases hx), List.Pairwise.nil⟩
  | la, x :: r, h => by
    have h' : (isName x && (!(Op.bytesLess x.toList la.toList || x.toList == la.toList) && rises x r)) = true := h
    rw [Bool.and_eq_true, Bool.and_eq_true] at h'
    obtain ⟨_, h1, h2⟩ := h'
    rw [← less_turned, bless_eq, decide_eq_true_eq] at h1
    obtain ⟨h3, h4⟩ := rises_pair x r h2
    refine ⟨fun y hy => ?_, List.Pairwise.cons h3 h4⟩
    rcases List.mem_cons.1 hy with rfl | hy
    · exact h1
    · exact List.lt_trans h1 (h3 y hy)
theorem nm_ne {a b : Nm} (h : a.toList < b.toList) : (a.toList == b.toList) = false := by
  rw [beq_eq_false_iff_ne]
  intro e
  rw [e] at h
  exact List.lt_irrefl _ h
/-- The spec of a name. -/
def specL (V : List VSp) (s : Nm) : Option VSp := V.find? fun x => x.name.toList == s.toList
def vecFit (V : List VSp) (x : Vec) : Bool :=
  match specL V x.name with
  | none => false
  | some y => decide ((x.v.length : Int) = y.dim) && (x.v.all partB && (!(decide (y.metric = 3)) || !(x.v.all zeroB)))
def hasF (F : List FSp) (s : Nm) (k : Int) : Bool := F.any fun y => y.name.toList == s.toList && decide (y.kind = k)
def fldFit (F : List FSp) (f : Fld) : Bool := hasF F f.name f.val.kind && valB f.val
def kindL (F : List FSp) (s : Nm) : Int :=
  match F.find? fun y => y.name.toList == s.toList with
  | none => 0
  | some y => y.kind
def fldFitD (F : List FSp) (f : Fld) : Bool := !(decide (kindL F f.name = 0)) && (decide (f.val.kind = kindL F f.name) && valB f.val)
theorem not_any {F : List FSp} {s : Nm} {k : Int} (h : ∀ y ∈ F, (y.name.toList == s.toList) = false) : hasF F s k = false := by
  unfold hasF
  rw [List.any_eq_false]
  intro y hy
  rw [h y hy]; simp
theorem has_kind : ∀ (F : List FSp) (s : Nm) (k : Int), (∀ y ∈ F, fspB y = true) → (F.Pairwise fun a b => a.name.toList < b.name.toList) → hasF F s k = (!(decide (kindL F s = 0)) && decide (k = kindL F s))
  | [], s, k, _, _ => rfl
  | y :: r, s, k, h1, h2 => by
    obtain ⟨h3, h4⟩ := List.pairwise_cons.1 h2
    have ih := has_kind r s k (fun z hz => h1 z (List.mem_cons_of_mem _ hz)) h4
    cases e : y.name.toList == s.toList with
    | true =>
      have e1 : kindL (y :: r) s = y.kind := by unfold kindL; rw [List.find?_cons, e]
      have hk : y.kind ≠ 0 := by
        have := h1 y (List.mem_cons_self ..)
        unfold fspB at this
        rw [Bool.and_eq_true, decide_eq_true_eq, decide_eq_true_eq] at this
        omega
      have e2 : hasF r s k = false := not_any fun z hz => by
        have h5 := h3 z hz
        rw [eq_of_beq e] at h5
        rw [beq_eq_false_iff_ne]
        intro c
        rw [c] at h5
        exact List.lt_irrefl _ h5
      show ((y.name.toList == s.toList && decide (y.kind = k)) || hasF r s k) = _
      rw [e1, e, e2, decide_eq_false hk]
      by_cases c : k = y.kind
      · subst c; simp
      · have c2 : ¬ y.kind = k := fun x => c x.symm
        simp [c, c2]
    | false =>
      have e1 : kindL (y :: r) s = kindL r s := by unfold kindL; rw [List.find?_cons, e]
      show ((y.name.toList == s.toList && decide (y.kind = k)) || hasF r s k) = _
      rw [e1, e, ih]; rfl
theorem fit_same {V : List VSp} {F : List FSp} (h : schB V F = true) (f : Fld) : fldFit F f = fldFitD F f := by
  unfold schB outl at h
  simp only [Bool.and_eq_true, List.all_eq_true] at h
  obtain ⟨-, ⟨-, -, h1⟩, -, h2⟩ := h
  obtain ⟨-, h3⟩ := rises_pair _ _ h1
  have h4 : F.Pairwise fun a b => a.name.toList < b.name.toList := (List.pairwise_map (f := fun x : FSp => x.name) (R := fun a b : Nm => a.toList < b.toList)).1 h3
  unfold fldFit fldFitD
  rw [has_kind F _ _ h2 h4, Bool.and_assoc]
/-- What a point has against a schema. -/
def ckN (V : List VSp) (F : List FSp) (p : Pt) : Int :=
  if schB V F then if ptOutl p then if p.vecs.all (vecFit V) then if p.flds.all (fldFit F) then 0 else 51 else 60 else 120 else 50
theorem ck_ok {V : List VSp} {F : List FSp} {p : Pt} (h : ckN V F p = 0) : schB V F = true ∧ ptOutl p = true ∧ p.vecs.all (vecFit V) = true ∧ p.flds.all (fldFit F) = true := by
  unfold ckN at h
  cases h1 : schB V F
  · rw [h1] at h; cases h
  cases h2 : ptOutl p
  · rw [h1, h2] at h; cases h
  cases h3 : p.vecs.all (vecFit V)
  · rw [h1, h2, h3] at h; cases h
  cases h4 : p.flds.all (fldFit F)
  · rw [h1, h2, h3, h4] at h; cases h
  exact ⟨rfl, rfl, rfl, rfl⟩
theorem spec_in {V : List VSp} {s : Nm} {y : VSp} (h : specL V s = some y) : y ∈ V := List.mem_of_find?_eq_some h
/-- What a schema takes may be. -/
theorem ck_may {V : List VSp} {F : List FSp} {p : Pt} (h : ckN V F p = 0) : ptMay p = true := by
  obtain ⟨h1, h2, h3, h4⟩ := ck_ok h
  unfold ptMay
  rw [h2, Bool.true_and, Bool.and_eq_true, List.all_eq_true, List.all_eq_true]
  rw [List.all_eq_true] at h3 h4
  unfold schB at h1
  simp only [Bool.and_eq_true, List.all_eq_true] at h1
  obtain ⟨-, -, h5, -⟩ := h1
  refine ⟨fun x hx => ?_, fun x hx => ?_⟩
  · have := h3 x hx
    unfold vecFit at this
    cases hs : specL V x.name with
    | none => rw [hs] at this; cases this
    | some y =>
      rw [hs] at this
      simp only [Bool.and_eq_true, decide_eq_true_eq] at this
      obtain ⟨e1, e2, -⟩ := this
      have h6 := h5 y (spec_in hs)
      unfold vspB at h6
      simp only [Bool.and_eq_true, decide_eq_true_eq] at h6
      unfold vecB
      rw [e2, e1, decide_eq_true h6.1, decide_eq_true h6.2.1]; rfl
  · have := h4 x hx
    unfold fldFit at this
    rw [Bool.and_eq_true] at this
    exact this.2
theorem ck_some {V : List VSp} {F : List FSp} {p : Pt} (h : ckN V F p = 0) : ∃ x r, p.vecs = x :: r ∧ 1 ≤ x.v.length := by
  obtain ⟨h1, h2, h3, h4⟩ := ck_ok h
  have hm := ck_may h
  unfold ptOutl outl vNames at h2
  simp only [Bool.and_eq_true, decide_eq_true_eq, List.length_map] at h2
  obtain ⟨-, ⟨h5, -⟩, -⟩ := h2
  cases e : p.vecs with
  | nil => rw [e] at h5; simp at h5
  | cons x r =>
    refine ⟨x, r, rfl, ?_⟩
    unfold ptMay at hm
    rw [Bool.and_eq_true, Bool.and_eq_true, List.all_eq_true] at hm
    have := hm.2.1 x (by rw [e]; exact List.mem_cons_self ..)
    unfold vecB at this
    simp only [Bool.and_eq_true, decide_eq_true_eq] at this
    omega
/-- One component less: no vector of the schema's. -/
theorem ck_less {V : List VSp} {F : List FSp} {i : Int} {x : Vec} {r : List Vec} {L : List Fld} (h : ckN V F ⟨i, x :: r, L⟩ = 0) (u : List Int) (hu : u.length < x.v.length) : ckN V F ⟨i, ⟨x.name, u⟩ :: r, L⟩ = 60 := by
  obtain ⟨h1, h2, h3, h4⟩ := ck_ok h
  have e2 : ptOutl ⟨i, ⟨x.name, u⟩ :: r, L⟩ = true := h2
  have e3 : (⟨x.name, u⟩ :: r : List Vec).all (vecFit V) = false := by
    rw [List.all_cons]
    have h5 : vecFit V x = true := by rw [List.all_cons, Bool.and_eq_true] at h3; exact h3.1
    have : vecFit V ⟨x.name, u⟩ = false := by
      unfold vecFit at *
      cases hs : specL V x.name with
      | none => rfl
      | some y =>
        rw [hs] at h5
        simp only [Bool.and_eq_true, decide_eq_true_eq] at h5
        simp only
        rw [decide_eq_false (by omega)]; rfl
    rw [this]; rfl
  unfold ckN
  simp only
  rw [h1, e2, e3]; rfl
/-- Another kind: no field of the schema's. -/
theorem ck_other {V : List VSp} {F : List FSp} {i : Int} {x : Fld} {r : List Fld} {L : List Vec} (h : ckN V F ⟨i, L, x :: r⟩ = 0) (v : Val) (hv : v.kind ≠ x.val.kind) : ckN V F ⟨i, L, ⟨x.name, v⟩ :: r⟩ = 51 := by
  obtain ⟨h1, h2, h3, h4⟩ := ck_ok h
  have e2 : ptOutl ⟨i, L, ⟨x.name, v⟩ :: r⟩ = true := h2
  have h5 : fldFit F x = true := by rw [List.all_cons, Bool.and_eq_true] at h4; exact h4.1
  have e4 : (⟨x.name, v⟩ :: r : List Fld).all (fldFit F) = false := by
    rw [List.all_cons]
    have : fldFit F ⟨x.name, v⟩ = false := by
      rw [fit_same h1] at h5 ⊢
      unfold fldFitD at *
      simp only [Bool.and_eq_true, decide_eq_true_eq] at h5
      simp only
      rw [decide_eq_false (show ¬ v.kind = kindL F x.name from fun c => hv (c.trans h5.2.1.symm))]; simp
    rw [this]; rfl
  unfold ckN
  simp only
  rw [h1, e2, h3, e4]; rfl
end Go.Proofs.YtfppemgagifmpaaDoor
namespace Go.Proofs.YtfppemgagifmpaaDoor
set_option linter.unusedVariables false
open Go Go.RowKit Go.Shelf Pl
set_option maxHeartbeats 1000000 in
set_option maxRecDepth 100000 in
theorem vsnamed_any (nm s : ByteArray) (dm mt : Int) (y : Value) (g : Nat) (w : World) (h : w.heap[g]? = some (.cells #[.string s, y] 43 (0, 0))) :
    Calls Tryd.prog 49 #[.agg #[.string nm, .int .i64 dm, .int .i64 mt], .pointer (some ⟨g, 0, none⟩)] w fun e w' => e = .returned (.bool (nm.toList == s.toList)) ∧ Below w.heap.size w w' := by
  have hg : g < w.heap.size := (Array.getElem?_eq_some_iff.1 h).1
  have c0 : (w.alloc (.cells #[.string nm, .int .i64 dm, .int .i64 mt] 50)).cell? ⟨g, 0, none⟩ = some (.string s) := by
    rw [← heap_old w (.cells #[.string nm, .int .i64 dm, .int .i64 mt] 50) hg] at h
    rw [Lib.cell_of_heap h]; rfl
  obtain ⟨d0, d1, d2⟩ := cells3_of (heap_last w (.cells #[.string nm, .int .i64 dm, .int .i64 mt] 50))
  go_enter Tryd.func49, Tryd.ntmps49
  go_wp2_with fail
  go_ret
  exact ⟨rfl, fresh_alloc _ _⟩
theorem vsnamed_enters : ∀ args w, (callFunc 49 args).run Tryd.prog w = .ok (.enter 49 args) w := enters_of Tryd.func49 (by kernel_rfl) rfl
/-- The place of the first field of a name, behind k; -1: there is none. -/
def idxV (L : List VSp) (s : Nm) (k : Nat) : Int :=
  match (L.drop k).findIdx? (fun x => x.name.toList == s.toList) with
    | some i => ((k + i : Nat) : Int)
    | none => -1
theorem idxv_hit {L : List VSp} {k : Nat} {x : VSp} {s : Nm} (hx : L[k]? = some x) (e : (x.name.toList == s.toList) = true) : idxV L s k = k := by
  have hk : k < L.length := (List.getElem?_eq_some_iff.1 hx).1
  have e2 := (List.getElem?_eq_some_iff.1 hx).2
  unfold idxV
  rw [List.drop_eq_getElem_cons hk, e2, List.findIdx?_cons, e]
  rfl
theorem idxv_miss {L : List VSp} {k : Nat} {x : VSp} {s : Nm} (hx : L[k]? = some x) (e : (x.name.toList == s.toList) = false) : idxV L s k = idxV L s (k + 1) := by
  have hk : k < L.length := (List.getElem?_eq_some_iff.1 hx).1
  have e2 := (List.getElem?_eq_some_iff.1 hx).2
  unfold idxV
  rw [List.drop_eq_getElem_cons hk, e2, List.findIdx?_cons, e]
  cases (L.drop (k + 1)).findIdx? (fun x => x.name.toList == s.toList) with
  | none => rfl
  | some i =>
    show ((k + (i + 1) : Nat) : Int) = ((k + 1 + i : Nat) : Int)
    omega
set_option maxHeartbeats 1000000 in
set_option maxRecDepth 100000 in
theorem vsindex_any (L : List VSp) (v : Value) (s : Nm) (y : Value) (g : Nat) (w : World) (h : VSpAt w v L) (hl : VSpOk L) (hs : w.heap[g]? = some (.cells #[.string s, y] 43 (0, 0))) :
    Calls Tryd.prog 48 #[v, .func (.func 49) #[] #[.pointer (some ⟨g, 0, none⟩)]] w fun e w' => e = .returned (.int .i64 (idxV L s 0)) ∧ Below w.heap.size w w' := by
  have hg := vsnamed_enters
  have hgl : g < w.heap.size := (Array.getElem?_eq_some_iff.1 hs).1
  have HX := Lib.hid (fun nm dm mt W (b : Below w.heap.size w W) => vsnamed_any nm s dm mt y g W ((b.block g hgl).trans hs))
  obtain ⟨r, hr⟩ : ∃ r, r = idxV L s 0 := ⟨_, rfl⟩
  rw [← hr]
  have HR := Lib.hid hr
  have HS := Lib.hid (room_len hl.1)
  clear hr hl hs
  rcases h with ⟨rfl, q, c, rfl⟩ | ⟨b, off, c, rfl, hb, hc⟩
  · go_enter Tryd.func48, Tryd.ntmps48
    go_wp2
    go_loop [8] (fun i => i = .int .i64 0) (fun _ => 0)
    case atStart => rfl
    case round =>
      subst hrel
      go_wp2
      go_ret
      rw [HR.out]
      exact ⟨rfl, Below.refl _ _⟩
  · have HC := Lib.hid hc
    have HB := Lib.hid hb
    clear hc hb
    go_enter Tryd.func48, Tryd.ntmps48
    go_wp2
    go_loopw [8] (fun i wr => ∃ k : Nat, k ≤ L.length ∧ i = .int .i64 k ∧ Below w.heap.size w wr ∧ Hid (r = idxV L s k)) (fun i _ => L.length - (intOf i).toNat)
    case atStart => exact ⟨0, Nat.zero_le _, rfl, Below.refl _ _, HR⟩
    case round =>
      obtain ⟨k, hk, rfl, hbw, HA⟩ := hrel
      have HBW := Lib.hid hbw
      clear hbw
      by_cases hlt : k < L.length
      · obtain ⟨c0, c1, c2⟩ := HC.out wr (HBW.out.block b HB.out) k hlt
        have hx : L[k]? = some L[k] := List.getElem?_eq_getElem hlt
        generalize hcc : L[k] = x at hx c0 c1 c2
        obtain ⟨nm, dm, mt⟩ := x
        simp only at c0 c1 c2
        have HY := Lib.hid (HX.out nm dm mt wr HBW.out)
        cases hbe : nm.toList == s.toList with
        | true =>
          have HN := Lib.hid (HA.out.trans (idxv_hit (s := s) hx hbe))
          rw [hbe] at HY
          clear hx HA hcc hbe
          go_wp2_with fail
          refine HY.out.mono ?_
          rintro e w2 ⟨rfl, b2⟩
          have HB2 := Lib.hid (HBW.out.trans (b2.mono HBW.out.size))
          clear b2 c0 c1 c2
          go_wp2_with fail
          go_ret
          rw [HN.out]
          exact ⟨rfl, HB2.out⟩
        | false =>
          have HN := Lib.hid (HA.out.trans (idxv_miss (s := s) hx hbe))
          rw [hbe] at HY
          clear hx HA hcc hbe
          go_wp2_with fail
          refine HY.out.mono ?_
          rintro e w2 ⟨rfl, b2⟩
          have HB2 := Lib.hid (HBW.out.trans (b2.mono HBW.out.size))
          clear b2 c0 c1 c2
          go_wp2_with fail
          go_roundw
          case rel => exact ⟨k + 1, by omega, congrArg _ (wrap_s HS.out hlt), HB2.out, HN⟩
          case measure =>
            rw [wrap_s HS.out hlt]
            exact int_less hlt
      · obtain rfl : k = L.length := by omega
        have HE : Hid (r = -1) := Lib.hid (by rw [HA.out]; unfold idxV; rw [List.drop_length]; rfl)
        go_wp2_with fail
        go_ret
        rw [HE.out]
        exact ⟨rfl, HBW.out⟩
theorem idxv_get (L : List VSp) (s : Nm) : ∀ d k, k + d = L.length → (idxV L s k = -1 ∧ specL (L.drop k) s = none) ∨ ∃ (j : Nat) (h : j < L.length), idxV L s k = j ∧ specL (L.drop k) s = some L[j]
  | 0, k, h => .inl ⟨by unfold idxV; rw [List.drop_of_length_le (by omega)]; rfl, by rw [List.drop_of_length_le (by omega)]; rfl⟩
  | d + 1, k, h => by
    have hk : k < L.length := by omega
    have hx : L[k]? = some L[k] := List.getElem?_eq_getElem hk
    have hd := List.drop_eq_getElem_cons hk
    cases hb : (L[k]).name.toList == s.toList with
    | true => exact .inr ⟨k, hk, idxv_hit hx hb, by rw [hd]; unfold specL; rw [List.find?_cons, hb]⟩
    | false =>
      rw [idxv_miss hx hb]
      have e : specL (L.drop k) s = specL (L.drop (k + 1)) s := by rw [hd]; unfold specL; rw [List.find?_cons, hb]
      rw [e]
      exact idxv_get L s d (k + 1) (by omega)
theorem fit_none {V : List VSp} {x : Vec} (h : specL V x.name = none) : vecFit V x = false := by unfold vecFit; rw [h]
theorem fit_some {V : List VSp} {x : Vec} {y : VSp} (h : specL V x.name = some y) : vecFit V x = (decide ((x.v.length : Int) = y.dim) && (x.v.all partB && (!(decide (y.metric = 3)) || !(x.v.all zeroB)))) := by unfold vecFit; rw [h]
set_option maxHeartbeats 1000000 in
theorem eqlS_run (a b : Nm) (k k' : Int) (w : World) : (binOp .eql 54 (.agg #[.string a, .int .i64 k]) (.agg #[.string b, .int .i64 k'])).run Tryd.prog w = .ok (.bool (a.toList == b.toList && decide (k = k'))) w := by
  rw [run_eql_struct, run_equalIn_agg _ _ _ _ _ (by kernel_rfl) (by kernel_rfl)]
  simp only [Program.fieldsOf, Tryd.underlying54]
  have q1 := fun (a b : Int) (w : World) => run_equalIn_int (P := Tryd.prog) w 9998 3 .i64 .i64 a b Tryd.underlying3
  have q2 := fun (a b : Nm) (w : World) => run_equalIn_string (P := Tryd.prog) w 9998 9 a b Tryd.underlying9
  cases h0 : a.toList == b.toList
  · simp [Op.eqFields, go_sem, q1, q2, h0]
  · by_cases h1 : k = k'
    · subst h1; simp [Op.eqFields, go_sem, q1, q2, h0]
    · simp [Op.eqFields, go_sem, q1, q2, h0, h1]
theorem has_hit {F : List FSp} {s : Nm} {k : Int} {j : Nat} {y : FSp} (hx : F[j]? = some y) (e : (s.toList == y.name.toList && decide (k = y.kind)) = true) : hasF F s k = true := by
  unfold hasF
  rw [List.any_eq_true]
  rw [Bool.and_eq_true, decide_eq_true_eq] at e
  refine ⟨y, List.mem_of_getElem? hx, ?_⟩
  rw [Bool.and_eq_true, decide_eq_true_eq]
  exact ⟨by rw [eq_of_beq e.1]; exact beq_self_eq_true _, e.2.symm⟩
theorem has_step {F : List FSp} {s : Nm} {k : Int} {j : Nat} {y : FSp} (hx : F[j]? = some y) (ha : hasF (F.take j) s k = false) (e : (s.toList == y.name.toList && decide (k = y.kind)) = false) : hasF (F.take (j + 1)) s k = false := by
  unfold hasF at *
  rw [List.take_add_one, hx, List.any_append, ha]
  have e2 : (y.name.toList == s.toList && decide (y.kind = k)) = false := by
    rw [← e, Bool.beq_comm, decide_eq_decide.2 (eq_comm (a := y.kind) (b := k))]
  simp [e2]
end Go.Proofs.YtfppemgagifmpaaDoor
namespace Go.Proofs.YtfppemgagifmpaaDoor
set_option linter.unusedVariables false
open Go Go.RowKit Go.Shelf Pl
set_option maxHeartbeats 2000000 in
set_option maxRecDepth 100000 in
theorem vecFits_any (V : List VSp) (vv : Value) (nm : Nm) (xv : Value) (L : List Int) (w : World) (h : VSpAt w vv V) (kV : VSpOk V) (hi : IntsAt w xv L) (hl : L.length ≤ Room) :
    Calls Tryd.prog 25 #[vv, .agg #[.string nm, xv]] w fun e w' => e = .returned (.bool (vecFit V ⟨nm, L⟩)) ∧ Below w.heap.size w w' := by
  have hmf : ∀ (fn : Fn) (first cap : Array Value) (w : World), (Instr.makeFunc fn first cap).run Tryd.prog w = .ok (.func fn first cap) w := fun _ _ _ _ => rfl
  have HI1 := Lib.hid (fun W (g : Below w.heap.size w W) n => allInts_any _ _ tells_part L xv (W.drewN n) (hi.below (below_nq g n)) (room_len hl))
  have HI2 := Lib.hid (fun W (g : Below w.heap.size w W) n => allInts_any _ _ tells_zero L xv (W.drewN n) (hi.below (below_nq g n)) (room_len hl))
  have HIX := Lib.hid (fun W (b : Below w.heap.size w W) (x : W.heap[w.heap.size]? = some (.cells #[.string nm, xv] 43 (0, 0))) => vsindex_any V vv nm xv w.heap.size W (h.below b) kV x)
  have HG := Lib.hid (idxv_get V nm V.length 0 (by omega))
  rw [List.drop_zero] at HG
  have HV := Lib.hid h
  have HF0 : Hid (specL V nm = none → vecFit V ⟨nm, L⟩ = false) := Lib.hid fun e => fit_none (x := ⟨nm, L⟩) e
  have HF1 : Hid (∀ y, specL V nm = some y → vecFit V ⟨nm, L⟩ = (decide ((L.length : Int) = y.dim) && (L.all partB && (!(decide (y.metric = 3)) || !(L.all zeroB))))) := Lib.hid fun y e => fit_some (x := ⟨nm, L⟩) e
  obtain ⟨r, hr⟩ : ∃ r, r = vecFit V ⟨nm, L⟩ := ⟨_, rfl⟩
  rw [← hr] at HF0 HF1 ⊢
  obtain ⟨p, c, rfl, -⟩ := hi.form
  obtain ⟨pv, cv, rfl⟩ := h.form
  clear hr h hi hl kV
  generalize idxV V nm 0 = ix at *
  generalize L.all partB = a at *
  generalize L.all zeroB = z at *
  generalize L.length = n at *
  have HB := Lib.hid (fresh_alloc w (.cells #[.string nm, .slice p n c] 43))
  have HX := Lib.hid (heap_last w (.cells #[.string nm, .slice p n c] 43))
  have HS : Hid (w.heap.size < (w.alloc (.cells #[.string nm, .slice p n c] 43)).heap.size) := Lib.hid (by simp)
  go_enter Tryd.func25, Tryd.ntmps25
  go_wp2_with fail
  generalize w.alloc (.cells #[.string nm, .slice p n c] 43) = W0 at *
  refine (HIX.out _ HB.out HX.out).mono ?_
  rintro e w2 ⟨rfl, b2⟩
  have HB2 := Lib.hid (HB.out.trans (b2.mono HB.out.size))
  have HX2 := Lib.hid ((b2.block _ HS.out).trans HX.out)
  obtain ⟨c0, c1⟩ := cellsTwo HX2.out
  have HJ1 := Lib.hid (HI1.out w2 HB2.out)
  have HJ2 := Lib.hid (HI2.out w2 HB2.out)
  clear b2 HI1 HI2 HIX
  rcases HG.out with ⟨rfl, hn⟩ | ⟨j, hj, rfl, hs⟩
  · have HR := Lib.hid (HF0.out hn)
    clear hn HF0 HF1 HG
    go_wp2_with fail
    go_quiet (fail)
    go_wp2_with fail
    go_ret
    rw [HR.out]
    exact ⟨rfl, below_nq HB2.out _⟩
  · have HR := Lib.hid (HF1.out _ hs)
    rcases HV.out with ⟨rfl, _⟩ | ⟨b, off, c', hsl, hb, hc⟩
    · exact absurd hj (by simp)
    injection hsl with e1 e2 e3
    subst e1 e3
    obtain ⟨e0, e1, e2⟩ := hc w2 (HB2.out.block b hb) j hj
    have hjn : (j : Int) < (V.length : Int) := by omega
    generalize V[j] = y at *
    obtain ⟨yn, yd, ym⟩ := y
    simp only at e0 e1 e2 HR
    clear hc hb hs HF0 HF1 HG HV
    by_cases hd : (n : Int) = yd
    · have HR2 : Hid (r = (a && (!(decide (ym = 3)) || !z))) := Lib.hid (by rw [HR.out, decide_eq_true hd]; rfl)
      have hne : ((n : Int) != yd) = false := by simp [hd]
      clear HR hd
      cases a with
      | false =>
        have HR3 : Hid (r = false) := Lib.hid HR2.out
        go_wp2_with fail
        go_quiet (first | (go_at_call 50; refine Calls.quiet_of_same (HJ1.out _)))
        go_wp2_with fail
        go_ret
        rw [HR3.out]
        exact ⟨rfl, below_nq HB2.out _⟩
      | true =>
        have HR3 : Hid (r = (!(decide (ym = 3)) || !z)) := Lib.hid HR2.out
        go_wp2_with fail
        go_quiet (first | (go_at_call 50; refine Calls.quiet_of_same (HJ1.out _)))
        by_cases hm : ym = 3
        · have HR4 : Hid (r = !z) := Lib.hid (by rw [HR3.out, decide_eq_true hm]; rfl)
          have hm2 : (ym != 3) = false := by simp [hm]
          clear hm HR2 HR3
          go_wp2_with fail
          refine (HJ2.out _).mono ?_
          rintro e w3 ⟨rfl, rfl⟩
          go_wp2_with fail
          go_ret
          rw [HR4.out]
          exact ⟨rfl, below_nq HB2.out _⟩
        · have HR4 : Hid (r = true) := Lib.hid (by rw [HR3.out, decide_eq_false hm]; rfl)
          have hm2 : (ym != 3) = true := by simp [hm]
          clear hm HR2 HR3
          go_wp2_with fail
          go_ret
          rw [HR4.out]
          exact ⟨rfl, below_nq HB2.out _⟩
    · have HR2 : Hid (r = false) := Lib.hid (by rw [HR.out, decide_eq_false hd]; rfl)
      have hne : ((n : Int) != yd) = true := by simp [hd]
      clear HR hd
      go_wp2_with fail
      go_quiet (fail)
      go_wp2_with fail
      go_ret
      rw [HR2.out]
      exact ⟨rfl, below_nq HB2.out _⟩
set_option maxHeartbeats 1000000 in
set_option maxRecDepth 100000 in
theorem indexS_any (F : List FSp) (fv : Value) (s : Nm) (k : Int) (w : World) (h : FSpAt w fv F) (kF : FSpOk F) :
    Calls Tryd.prog 62 #[fv, .agg #[.string s, .int .i64 k]] w fun e w' => (∃ i : Int, e = .returned (.int .i64 i) ∧ decide (0 ≤ i) = hasF F s k) ∧ Below w.heap.size w w' := by
  obtain ⟨r, hr⟩ : ∃ r, r = hasF F s k := ⟨_, rfl⟩
  rw [← hr]
  have HR := Lib.hid hr
  have HS := Lib.hid (room_len kF.1)
  have HB := Lib.hid (fresh_alloc w (.cells #[.string s, .int .i64 k] 54))
  have HX := Lib.hid (heap_last w (.cells #[.string s, .int .i64 k] 54))
  clear hr kF
  rcases h with ⟨rfl, q, c, rfl⟩ | ⟨b, off, c, rfl, hb, hc⟩
  · go_enter Tryd.func62, Tryd.ntmps62
    go_wp2
    go_loop [8] (fun i => i = .int .i64 0) (fun _ => 0)
    case atStart => rfl
    case round =>
      subst hrel
      go_wp2
      go_ret
      rw [HR.out]
      exact ⟨⟨_, rfl, rfl⟩, HB.out⟩
  · have hbs := hc
    have HC := Lib.hid (fun W (g : Below w.heap.size w W) => hc W (g.block b hb))
    clear hc hbs
    go_enter Tryd.func62, Tryd.ntmps62
    go_wp2
    generalize w.alloc (.cells #[.string s, .int .i64 k] 54) = W0 at *
    go_loopw [8] (fun i wr => ∃ j : Nat, j ≤ F.length ∧ i = .int .i64 j ∧ (Below w.heap.size w wr ∧ wr.heap[w.heap.size]? = some (.cells #[.string s, .int .i64 k] 54 (0, 0))) ∧ Hid (hasF (F.take j) s k = false)) (fun i _ => F.length - (intOf i).toNat)
    case atStart => exact ⟨0, Nat.zero_le _, rfl, ⟨HB.out, HX.out⟩, Lib.hid rfl⟩
    case round =>
      obtain ⟨j, hj, rfl, ⟨hm, hxw⟩, HA⟩ := hrel
      have HM := Lib.hid hm
      have HXW := Lib.hid hxw
      obtain ⟨d0, d1⟩ := cellsTwo hxw
      clear hxw
      by_cases hlt : j < F.length
      · obtain ⟨c0, c1⟩ := HC.out wr HM.out j hlt
        have hx : F[j]? = some F[j] := List.getElem?_eq_getElem hlt
        generalize F[j] = y at *
        obtain ⟨yn, yk⟩ := y
        simp only at c0 c1
        have HE := fun W => eqlS_run s yn k yk W
        have hlt2 : (j : Int) < (F.length : Int) := by omega
        cases he : (s.toList == yn.toList && decide (k = yk)) with
        | true =>
          have HN := Lib.hid (HR.out.trans (has_hit (s := s) (k := k) hx he))
          rw [he] at HE
          clear hx he HA hm
          go_wp2
          go_quiet (fail)
          go_wp2
          go_ret
          rw [HN.out]
          exact ⟨⟨_, rfl, by simp⟩, below_nq HM.out _⟩
        | false =>
          have HN := Lib.hid (has_step hx HA.out he)
          rw [he] at HE
          clear hx he HA hm
          go_wp2
          go_quiet (fail)
          go_wp2
          go_roundw
          case rel => exact ⟨j + 1, by omega, congrArg _ (wrap_s HS.out hlt), ⟨below_nq HM.out _, HXW.out⟩, HN⟩
          case measure =>
            rw [wrap_s HS.out hlt]
            exact int_less hlt
      · obtain rfl : j = F.length := by omega
        have HN : Hid (r = false) := Lib.hid (by rw [HR.out]; have := HA.out; rwa [List.take_length] at this)
        clear hm
        go_wp2
        go_ret
        rw [HN.out]
        exact ⟨⟨_, rfl, rfl⟩, HM.out⟩
set_option maxHeartbeats 1000000 in
theorem containsS_any (F : List FSp) (fv : Value) (s : Nm) (k : Int) (w : World) (h : FSpAt w fv F) (kF : FSpOk F) :
    Calls Tryd.prog 53 #[fv, .agg #[.string s, .int .i64 k]] w fun e w' => e = .returned (.bool (hasF F s k)) ∧ Below w.heap.size w w' := by
  obtain ⟨d0, d1⟩ := cellsTwo (heap_last w (.cells #[.string s, .int .i64 k] 54))
  have HB := Lib.hid (fresh_alloc w (.cells #[.string s, .int .i64 k] 54))
  have HI := Lib.hid (indexS_any F fv s k _ (h.below HB.out) kF)
  obtain ⟨pf, cf, rfl⟩ := h.form
  generalize hasF F s k = r at *
  clear h kF
  go_enter Tryd.func53, Tryd.ntmps53
  go_wp2_with fail
  refine HI.out.mono ?_
  rintro e w2 ⟨⟨i, rfl, hi⟩, b2⟩
  have HB2 := Lib.hid (HB.out.trans (b2.mono HB.out.size))
  have HH := Lib.hid hi
  clear b2 hi
  go_wp2_with fail
  go_ret
  exact ⟨by rw [← HH.out]; rfl, HB2.out⟩
set_option maxHeartbeats 1000000 in
set_option maxRecDepth 100000 in
theorem fldFits_any (F : List FSp) (fv : Value) (nm : Nm) (k n : Int) (t : Nm) (w : World) (G : Gp w) (h : FSpAt w fv F) (kF : FSpOk F) (ht : t.size ≤ Room) :
    Calls Tryd.prog 28 #[fv, .agg #[.string nm, .int .i64 k, .int .i64 n, .string t]] w fun e w' => e = .returned (.bool (fldFit F ⟨nm, ⟨k, n, t⟩⟩)) ∧ Below w.heap.size w w' := by
  have z := heap_last w (.cells #[.string nm, .int .i64 k, .int .i64 n, .string t] 47)
  have HZ := Lib.hid z
  obtain ⟨d0, d1, d2, d3⟩ := cells4_of z
  have HB := Lib.hid (fresh_alloc w (.cells #[.string nm, .int .i64 k, .int .i64 n, .string t] 47))
  have HI := Lib.hid (containsS_any F fv nm k _ (h.below HB.out) kF)
  have HF := Lib.hid (fun W (g : Below w.heap.size w W) => fieldMay_any nm k n t ht W (G.fresh g))
  have HS : Hid (w.heap.size < (w.alloc (.cells #[.string nm, .int .i64 k, .int .i64 n, .string t] 47)).heap.size) := Lib.hid (by simp)
  obtain ⟨pf, cf, rfl⟩ := h.form
  obtain ⟨r, hr⟩ : ∃ r, r = fldFit F ⟨nm, ⟨k, n, t⟩⟩ := ⟨_, rfl⟩
  rw [← hr]
  unfold fldFit at hr
  simp only at hr
  have HR := Lib.hid hr
  generalize hasF F nm k = a at *
  generalize valB ⟨k, n, t⟩ = b at *
  clear z h kF hr G
  go_enter Tryd.func28, Tryd.ntmps28
  go_wp2_with fail
  refine HI.out.mono ?_
  rintro e w2 ⟨rfl, b2⟩
  have HB2 := Lib.hid (HB.out.trans (b2.mono HB.out.size))
  obtain ⟨e0, e1, e2, e3⟩ := cells4_of ((b2.block _ HS.out).trans HZ.out)
  clear b2 d0 d1 d2 d3
  cases a with
  | true =>
    go_wp2_with fail
    refine (HF.out _ HB2.out).mono ?_
    rintro e w3 ⟨rfl, b3⟩
    have HB3 := Lib.hid (HB2.out.trans (b3.mono HB2.out.size))
    clear b3
    go_wp2_with fail
    go_ret
    exact ⟨by rw [HR.out]; rfl, HB3.out⟩
  | false =>
    go_wp2_with fail
    go_ret
    exact ⟨by rw [HR.out]; rfl, HB2.out⟩
end Go.Proofs.YtfppemgagifmpaaDoor
namespace Go.Proofs.YtfppemgagifmpaaDoor
set_option linter.unusedVariables false
open Go Go.RowKit Go.Shelf Pl
set_option maxHeartbeats 1000000 in
set_option maxRecDepth 100000 in
theorem allVecs_g (f B : Nat) (q : Vec → Bool) (hg : ∀ args w, (callFunc f args).run Tryd.prog w = .ok (.enter f args) w) (L : List Vec) (v : Value) (w : World) (h : VecsAt w v L) (hl : VecsOk L)
    (hq : ∀ nm ns sv W, Below w.heap.size w W → IntsAt W sv ns → ns.length ≤ Room → nm.size ≤ Room → Calls Tryd.prog f #[.agg #[.string nm, sv], .pointer (some ⟨B, 0, none⟩)] W fun e w' => e = .returned (.bool (q ⟨nm, ns⟩)) ∧ Below W.heap.size W w') :
    Calls Tryd.prog 23 #[v, .func (.func f) #[] #[.pointer (some ⟨B, 0, none⟩)]] w fun e w' => e = .returned (.bool (L.all q)) ∧ Below w.heap.size w w' := by
  have HQ := Lib.hid hq
  clear hq
  have HS := Lib.hid (room_len hl.1)
  have HL := Lib.hid hl
  clear hl
  rcases h with ⟨rfl, q, c, rfl⟩ | ⟨b, off, c, S, rfl, hb, hc, hi⟩
  · go_enter Tryd.func23, Tryd.ntmps23
    go_wp2
    go_loop [9] (fun i => i = .int .i64 0) (fun _ => 0)
    case atStart => rfl
    case round =>
      subst hrel
      go_wp2
      go_ret
      exact ⟨rfl, Below.refl _ _⟩
  · go_enter Tryd.func23, Tryd.ntmps23
    have HC := Lib.hid hc
    have HB := Lib.hid hb
    have HI := Lib.hid hi
    clear hc hb hi
    go_wp2
    go_loopw [9] (fun i wr => ∃ k : Nat, k ≤ L.length ∧ i = .int .i64 k ∧ Below w.heap.size w wr ∧ Hid ((L.take k).all q = true)) (fun i _ => L.length - (intOf i).toNat)
    case atStart => exact ⟨0, Nat.zero_le _, rfl, Below.refl _ _, Lib.hid (by simp)⟩
    case round =>
      obtain ⟨k, hk, rfl, hbw, HA⟩ := hrel
      have HBW := Lib.hid hbw
      clear hbw
      by_cases hlt : k < L.length
      · obtain ⟨c0, c1⟩ := HC.out wr (HBW.out.block b HB.out) k hlt
        have hx : L[k]? = some L[k] := List.getElem?_eq_getElem hlt
        have hsz := HL.out.2 _ (List.getElem_mem hlt)
        have hin := ((HI.out k hlt).below HBW.out)
        generalize hcc : L[k] = x at hx c0 c1 hsz hin
        obtain ⟨nm, ns⟩ := x
        simp only at c0 c1 hsz hin
        generalize S k = sv at *
        obtain ⟨p, cp, rfl, -⟩ := hin.form
        have z := heap_last wr (.cells #[.string nm, .slice p ns.length cp] 43)
        have ba : Below wr.heap.size wr (wr.alloc (.cells #[.string nm, .slice p ns.length cp] 43)) := Below.alloc (Below.refl _ wr) (Nat.le_refl _) _
        have HX := Lib.hid (HQ.out nm ns _ _ (HBW.out.trans (ba.mono HBW.out.size)) (hin.below ba) hsz.2 hsz.1)
        obtain ⟨r, hr⟩ : ∃ r, r = q ⟨nm, ns⟩ := ⟨_, rfl⟩
        rw [← hr] at HX
        have d0 : (wr.alloc (.cells #[.string nm, .slice p ns.length cp] 43)).cell? ⟨wr.heap.size, 0, none⟩ = some (.string nm) := by rw [Lib.cell_of_heap z]; rfl
        have d1 : (wr.alloc (.cells #[.string nm, .slice p ns.length cp] 43)).cell? ⟨wr.heap.size, 1, none⟩ = some (.slice p ns.length cp) := by rw [Lib.cell_of_heap z]; rfl
        cases r with
        | true =>
          have HN := Lib.hid (all_next' (p := q) hx HA.out hr.symm)
          clear hx HA hr hcc z hsz hin ba
          go_wp2_with fail
          refine HX.out.mono ?_
          rintro e w2 ⟨rfl, b2⟩
          have HB2 := Lib.hid (HBW.out.trans ((Below.alloc (Below.refl _ wr) (Nat.le_refl _) _).mono HBW.out.size |>.trans (b2.mono (by simp; exact Nat.le_succ_of_le HBW.out.size))))
          clear b2 d0 d1 c0 c1
          go_wp2_with fail
          go_roundw
          case rel => exact ⟨k + 1, by omega, congrArg _ (wrap_s HS.out hlt), HB2.out, HN⟩
          case measure =>
            rw [wrap_s HS.out hlt]
            exact int_less hlt
        | false =>
          have HN : Hid (L.all q = false) := Lib.hid (all_no' hx hr.symm)
          clear hx HA hr hcc z hsz hin ba
          go_wp2_with fail
          refine HX.out.mono ?_
          rintro e w2 ⟨rfl, b2⟩
          have HB2 := Lib.hid (HBW.out.trans ((Below.alloc (Below.refl _ wr) (Nat.le_refl _) _).mono HBW.out.size |>.trans (b2.mono (by simp; exact Nat.le_succ_of_le HBW.out.size))))
          clear b2 d0 d1 c0 c1
          go_wp2_with fail
          go_ret
          rw [HN.out]
          exact ⟨rfl, HB2.out⟩
      · obtain rfl : k = L.length := by omega
        have hx : L.all q = true := by have := HA.out; rwa [List.take_length] at this
        have HE := Lib.hid hx
        clear hx
        go_wp2_with fail
        go_ret
        rw [HE.out]
        exact ⟨rfl, HBW.out⟩
set_option maxHeartbeats 1000000 in
set_option maxRecDepth 100000 in
theorem allFlds_g (f B : Nat) (q : Fld → Bool) (hg : ∀ args w, (callFunc f args).run Tryd.prog w = .ok (.enter f args) w) (L : List Fld) (v : Value) (w : World) (h : FldsAt w v L) (hl : FldsOk L)
    (hq : ∀ nm k n t W, Below w.heap.size w W → nm.size ≤ Room → t.size ≤ Room → Calls Tryd.prog f #[.agg #[.string nm, .int .i64 k, .int .i64 n, .string t], .pointer (some ⟨B, 0, none⟩)] W fun e w' => e = .returned (.bool (q ⟨nm, ⟨k, n, t⟩⟩)) ∧ Below W.heap.size W w') :
    Calls Tryd.prog 26 #[v, .func (.func f) #[] #[.pointer (some ⟨B, 0, none⟩)]] w fun e w' => e = .returned (.bool (L.all q)) ∧ Below w.heap.size w w' := by
  have HQ := Lib.hid hq
  clear hq
  have HS := Lib.hid (room_len hl.1)
  have HL := Lib.hid hl
  clear hl
  rcases h with ⟨rfl, q, c, rfl⟩ | ⟨b, off, c, rfl, hb, hc⟩
  · go_enter Tryd.func26, Tryd.ntmps26
    go_wp2
    go_loop [9] (fun i => i = .int .i64 0) (fun _ => 0)
    case atStart => rfl
    case round =>
      subst hrel
      go_wp2
      go_ret
      exact ⟨rfl, Below.refl _ _⟩
  · go_enter Tryd.func26, Tryd.ntmps26
    have HC := Lib.hid hc
    have HB := Lib.hid hb
    clear hc hb
    go_wp2
    go_loopw [9] (fun i wr => ∃ k : Nat, k ≤ L.length ∧ i = .int .i64 k ∧ Below w.heap.size w wr ∧ Hid ((L.take k).all q = true)) (fun i _ => L.length - (intOf i).toNat)
    case atStart => exact ⟨0, Nat.zero_le _, rfl, Below.refl _ _, Lib.hid (by simp)⟩
    case round =>
      obtain ⟨k, hk, rfl, hbw, HA⟩ := hrel
      have HBW := Lib.hid hbw
      clear hbw
      by_cases hlt : k < L.length
      · obtain ⟨c0, c1, c2, c3⟩ := HC.out wr (HBW.out.block b HB.out) k hlt
        have hx : L[k]? = some L[k] := List.getElem?_eq_getElem hlt
        have hsz := HL.out.2 _ (List.getElem_mem hlt)
        generalize hcc : L[k] = x at hx c0 c1 c2 c3 hsz
        obtain ⟨nm, ⟨kd, n, t⟩⟩ := x
        simp only at c0 c1 c2 c3 hsz
        have HX := Lib.hid (HQ.out nm kd n t _ (HBW.out.trans ((fresh_alloc wr (.cells #[.string nm, .int .i64 kd, .int .i64 n, .string t] 47)).mono HBW.out.size)) hsz.1 hsz.2)
        obtain ⟨r, hr⟩ : ∃ r, r = q ⟨nm, ⟨kd, n, t⟩⟩ := ⟨_, rfl⟩
        rw [← hr] at HX
        have z := heap_last wr (.cells #[.string nm, .int .i64 kd, .int .i64 n, .string t] 47)
        obtain ⟨d0, d1, d2, d3⟩ := cells4_of z
        cases r with
        | true =>
          have HN := Lib.hid (all_next' (p := q) hx HA.out hr.symm)
          clear hx HA hr hcc z hsz
          go_wp2_with fail
          refine HX.out.mono ?_
          rintro e w2 ⟨rfl, b2⟩
          have HB2 := Lib.hid (HBW.out.trans ((Below.alloc (Below.refl _ wr) (Nat.le_refl _) _).mono HBW.out.size |>.trans (b2.mono (by simp; exact Nat.le_succ_of_le HBW.out.size))))
          clear b2 d0 d1 d2 d3 c0 c1 c2 c3
          go_wp2_with fail
          go_roundw
          case rel => exact ⟨k + 1, by omega, congrArg _ (wrap_s HS.out hlt), HB2.out, HN⟩
          case measure =>
            rw [wrap_s HS.out hlt]
            exact int_less hlt
        | false =>
          have HN : Hid (L.all q = false) := Lib.hid (all_no' hx hr.symm)
          clear hx HA hr hcc z hsz
          go_wp2_with fail
          refine HX.out.mono ?_
          rintro e w2 ⟨rfl, b2⟩
          have HB2 := Lib.hid (HBW.out.trans ((Below.alloc (Below.refl _ wr) (Nat.le_refl _) _).mono HBW.out.size |>.trans (b2.mono (by simp; exact Nat.le_succ_of_le HBW.out.size))))
          clear b2 d0 d1 d2 d3 c0 c1 c2 c3
          go_wp2_with fail
          go_ret
          rw [HN.out]
          exact ⟨rfl, HB2.out⟩
      · obtain rfl : k = L.length := by omega
        have hx : L.all q = true := by have := HA.out; rwa [List.take_length] at this
        have HE := Lib.hid hx
        clear hx
        go_wp2_with fail
        go_ret
        rw [HE.out]
        exact ⟨rfl, HBW.out⟩
/-- A schema in its block. -/
def SchIn (w : World) (B : Nat) (vv fv : Value) (V : List VSp) (F : List FSp) : Prop :=
  w.heap[B]? = some (.cells #[vv, fv] 25 (0, 0)) ∧ VSpAt w vv V ∧ FSpAt w fv F
theorem SchIn.below {w w' : World} {B : Nat} {vv fv : Value} {V : List VSp} {F : List FSp} (h : SchIn w B vv fv V F) (g : Below w.heap.size w w') : SchIn w' B vv fv V F :=
  ⟨(g.block B (Array.getElem?_eq_some_iff.1 h.1).1).trans h.1, h.2.1.below g, h.2.2.below g⟩
set_option maxHeartbeats 1000000 in
theorem check1_any (B : Nat) (vv fv : Value) (V : List VSp) (F : List FSp) (nm : Nm) (ns : List Int) (sv : Value) (w : World) (h : SchIn w B vv fv V F) (kV : VSpOk V) (hi : IntsAt w sv ns) (hl : ns.length ≤ Room) :
    Calls Tryd.prog 24 #[.agg #[.string nm, sv], .pointer (some ⟨B, 0, none⟩)] w fun e w' => e = .returned (.bool (vecFit V ⟨nm, ns⟩)) ∧ Below w.heap.size w w' := by
  have hlt : B < w.heap.size := (Array.getElem?_eq_some_iff.1 h.1).1
  have hb := fresh_alloc w (.cells #[.string nm, sv] 43)
  have HB0 := Lib.hid hb
  have HX := Lib.hid (vecFits_any V vv nm sv ns _ (h.2.1.below hb) kV (hi.below hb) hl)
  obtain ⟨c0, c1⟩ := cellsTwo ((hb.block B hlt).trans h.1)
  obtain ⟨d0, d1⟩ := cellsTwo (heap_last w (.cells #[.string nm, sv] 43))
  obtain ⟨p, c, rfl, -⟩ := hi.form
  obtain ⟨pv, cv, rfl⟩ := h.2.1.form
  clear hb hlt
  clear h hi
  go_enter Tryd.func24, Tryd.ntmps24
  go_wp2_with fail
  refine HX.out.mono ?_
  rintro e w2 ⟨rfl, b2⟩
  have HB := Lib.hid (HB0.out.trans (b2.mono HB0.out.size))
  clear b2
  go_wp2_with fail
  go_ret
  exact ⟨rfl, HB.out⟩
set_option maxHeartbeats 1000000 in
theorem check2_any (B : Nat) (vv fv : Value) (V : List VSp) (F : List FSp) (nm : Nm) (k n : Int) (t : Nm) (w : World) (G : Gp w) (h : SchIn w B vv fv V F) (kF : FSpOk F) (ht : t.size ≤ Room) :
    Calls Tryd.prog 27 #[.agg #[.string nm, .int .i64 k, .int .i64 n, .string t], .pointer (some ⟨B, 0, none⟩)] w fun e w' => e = .returned (.bool (fldFit F ⟨nm, ⟨k, n, t⟩⟩)) ∧ Below w.heap.size w w' := by
  have hlt : B < w.heap.size := (Array.getElem?_eq_some_iff.1 h.1).1
  have hb := fresh_alloc w (.cells #[.string nm, .int .i64 k, .int .i64 n, .string t] 47)
  have HB0 := Lib.hid hb
  have HX := Lib.hid (fldFits_any F fv nm k n t _ (G.fresh hb) (h.2.2.below hb) kF ht)
  obtain ⟨c0, c1⟩ := cellsTwo ((hb.block B hlt).trans h.1)
  obtain ⟨d0, d1, d2, d3⟩ := cells4_of (heap_last w (.cells #[.string nm, .int .i64 k, .int .i64 n, .string t] 47))
  obtain ⟨pf, cf, rfl⟩ := h.2.2.form
  clear hb hlt G
  clear h
  go_enter Tryd.func27, Tryd.ntmps27
  go_wp2_with fail
  refine HX.out.mono ?_
  rintro e w2 ⟨rfl, b2⟩
  have HB := Lib.hid (HB0.out.trans (b2.mono HB0.out.size))
  clear b2
  go_wp2_with fail
  go_ret
  exact ⟨rfl, HB.out⟩
theorem check1_enters : ∀ args w, (callFunc 24 args).run Tryd.prog w = .ok (.enter 24 args) w := enters_of Tryd.func24 (by kernel_rfl) rfl
theorem check2_enters : ∀ args w, (callFunc 27 args).run Tryd.prog w = .ok (.enter 27 args) w := enters_of Tryd.func27 (by kernel_rfl) rfl
end Go.Proofs.YtfppemgagifmpaaDoor
namespace Go.Proofs.YtfppemgagifmpaaDoor
set_option linter.unusedVariables false
open Go Go.RowKit Go.Shelf Pl
/-- A schema and a point in their blocks. -/
def CkAt (w W : World) (vv fv uv xv : Value) (V : List VSp) (F : List FSp) (p : Pt) : Prop :=
  SchIn W w.heap.size vv fv V F ∧ W.heap[w.heap.size + 1]? = some (.cells #[.int .i64 p.id, uv, xv] 29 (0, 0)) ∧ VecsAt W uv p.vecs ∧ FldsAt W xv p.flds ∧ Below w.heap.size w W
theorem CkAt.below {w W W' : World} {vv fv uv xv : Value} {V : List VSp} {F : List FSp} {p : Pt} (h : CkAt w W vv fv uv xv V F p) (g : Below W.heap.size W W') : CkAt w W' vv fv uv xv V F p :=
  ⟨h.1.below g, (g.block _ (Array.getElem?_eq_some_iff.1 h.2.1).1).trans h.2.1, h.2.2.1.below g, h.2.2.2.1.below g, h.2.2.2.2.trans (g.mono h.2.2.2.2.size)⟩
theorem ckAt_new {w : World} {vv fv uv xv : Value} {V : List VSp} {F : List FSp} {p : Pt} (hV : VSpAt w vv V) (hF : FSpAt w fv F) (hu : VecsAt w uv p.vecs) (hx : FldsAt w xv p.flds) :
    CkAt w ((w.alloc (.cells #[vv, fv] 25)).alloc (.cells #[.int .i64 p.id, uv, xv] 29)) vv fv uv xv V F p := by
  have b := (fresh_alloc w (.cells #[vv, fv] 25)).alloc (by simp) (.cells #[.int .i64 p.id, uv, xv] 29)
  refine ⟨⟨?_, hV.below b, hF.below b⟩, ?_, hu.below b, hx.below b, b⟩
  · rw [heap_old _ _ (by simp)]; exact heap_last _ _
  · have h := heap_last (w.alloc (.cells #[vv, fv] 25)) (.cells #[.int .i64 p.id, uv, xv] 29)
    rw [show (w.alloc (.cells #[vv, fv] 25)).heap.size = w.heap.size + 1 by simp] at h
    exact h
theorem ck_sch {V : List VSp} {F : List FSp} {p : Pt} (h : schB V F = false) : ckN V F p = 50 := by unfold ckN; rw [h]; rfl
theorem ck_out {V : List VSp} {F : List FSp} {p : Pt} (h : schB V F = true) (h2 : ptOutl p = false) : ckN V F p = 120 := by unfold ckN; rw [h, h2]; rfl
theorem ck_vec {V : List VSp} {F : List FSp} {p : Pt} (h : schB V F = true) (h2 : ptOutl p = true) (h3 : p.vecs.all (vecFit V) = false) : ckN V F p = 60 := by unfold ckN; rw [h, h2, h3]; rfl
theorem ck_fld {V : List VSp} {F : List FSp} {p : Pt} (h : schB V F = true) (h2 : ptOutl p = true) (h3 : p.vecs.all (vecFit V) = true) (h4 : p.flds.all (fldFit F) = false) : ckN V F p = 51 := by unfold ckN; rw [h, h2, h3, h4]; rfl
theorem ck_yes {V : List VSp} {F : List FSp} {p : Pt} (h : schB V F = true) (h2 : ptOutl p = true) (h3 : p.vecs.all (vecFit V) = true) (h4 : p.flds.all (fldFit F) = true) : ckN V F p = 0 := by unfold ckN; rw [h, h2, h3, h4]; rfl
set_option maxHeartbeats 2000000 in
set_option maxRecDepth 100000 in
theorem check_any (vv fv uv xv : Value) (V : List VSp) (F : List FSp) (p : Pt) (w : World) (G : Gp w) (hV : VSpAt w vv V) (hF : FSpAt w fv F) (kV : VSpOk V) (kF : FSpOk F) (hu : VecsAt w uv p.vecs) (hx : FldsAt w xv p.flds) (ku : VecsOk p.vecs) (kx : FldsOk p.flds) :
    Calls Tryd.prog 8 #[.agg #[vv, fv], .agg #[.int .i64 p.id, uv, xv]] w fun e w' => e = .returned (.int .i64 (ckN V F p)) ∧ Below w.heap.size w w' := by
  have hmf : ∀ (fn : Fn) (first cap : Array Value) (w : World), (Instr.makeFunc fn first cap).run Tryd.prog w = .ok (.func fn first cap) w := fun _ _ _ _ => rfl
  have HN := Lib.hid (ckAt_new (w := w) (p := p) hV hF hu hx)
  have H1 := Lib.hid (fun W (h : CkAt w W vv fv uv xv V F p) => schema_any vv fv V F W (G.fresh h.2.2.2.2) h.1.2.1 h.1.2.2 kV kF)
  obtain ⟨x, hx0⟩ : ∃ x : Int, x = if schB V F then 0 else 50 := ⟨_, rfl⟩
  rw [← hx0] at H1
  have X0 : Hid (schB V F = false → x = 50) := Lib.hid fun h => by rw [hx0, h]; rfl
  have X1 : Hid (schB V F = true → x = 0) := Lib.hid fun h => by rw [hx0, h]; rfl
  clear hx0
  have H2 := Lib.hid (fun W (h : CkAt w W vv fv uv xv V F p) => ptOutl_any p.id uv xv p.vecs p.flds W h.2.2.1 h.2.2.2.1 ku kx)
  have H3 := Lib.hid (fun W (h : CkAt w W vv fv uv xv V F p) => allVecs_g 24 w.heap.size (vecFit V) check1_enters p.vecs uv W h.2.2.1 ku
    (fun nm ns sv W' b hi hl _ => check1_any w.heap.size vv fv V F nm ns sv W' (h.1.below b) kV hi hl))
  have H4 := Lib.hid (fun W (h : CkAt w W vv fv uv xv V F p) => allFlds_g 27 w.heap.size (fldFit F) check2_enters p.flds xv W h.2.2.2.1 kx
    (fun nm k n t W' b _ ht => check2_any w.heap.size vv fv V F nm k n t W' ((G.fresh h.2.2.2.2).fresh b) (h.1.below b) kF ht))
  obtain ⟨i, ps, fs⟩ := p
  simp only at *
  obtain ⟨r, hr⟩ : ∃ r, r = ckN V F ⟨i, ps, fs⟩ := ⟨_, rfl⟩
  rw [← hr]
  have R1 : Hid (schB V F = false → r = 50) := Lib.hid fun h => hr.trans (ck_sch h)
  have R2 : Hid (schB V F = true → ptOutl ⟨i, ps, fs⟩ = false → r = 120) := Lib.hid fun h h2 => hr.trans (ck_out h h2)
  have R3 : Hid (schB V F = true → ptOutl ⟨i, ps, fs⟩ = true → ps.all (vecFit V) = false → r = 60) := Lib.hid fun h h2 h3 => hr.trans (ck_vec h h2 h3)
  have R4 : Hid (schB V F = true → ptOutl ⟨i, ps, fs⟩ = true → ps.all (vecFit V) = true → fs.all (fldFit F) = false → r = 51) := Lib.hid fun h h2 h3 h4 => hr.trans (ck_fld h h2 h3 h4)
  have R5 : Hid (schB V F = true → ptOutl ⟨i, ps, fs⟩ = true → ps.all (vecFit V) = true → fs.all (fldFit F) = true → r = 0) := Lib.hid fun h h2 h3 h4 => hr.trans (ck_yes h h2 h3 h4)
  have HE : ∀ W, Hid (CkAt w W vv fv uv xv V F ⟨i, ps, fs⟩ → (W.cell? ⟨w.heap.size, 0, none⟩ = some vv ∧ W.cell? ⟨w.heap.size, 1, none⟩ = some fv) ∧ (W.cell? ⟨w.heap.size + 1, 0, none⟩ = some (.int .i64 i) ∧ W.cell? ⟨w.heap.size + 1, 1, none⟩ = some uv ∧ W.cell? ⟨w.heap.size + 1, 2, none⟩ = some xv)) :=
    fun W => Lib.hid fun h => ⟨cellsTwo h.1.1, cells3_of h.2.1⟩
  obtain ⟨pv, cv, rfl⟩ := hV.form
  obtain ⟨pf, cf, rfl⟩ := hF.form
  obtain ⟨pu, cu, rfl⟩ := hu.form
  obtain ⟨px, cx, rfl⟩ := hx.form
  clear hr hV hF hu hx kV kF ku kx G
  generalize schB V F = a at *
  generalize ptOutl ⟨i, ps, fs⟩ = b at *
  obtain ⟨c, hc⟩ : ∃ c, c = ps.all (vecFit V) := ⟨_, rfl⟩
  obtain ⟨d, hd⟩ : ∃ d, d = fs.all (fldFit F) := ⟨_, rfl⟩
  rw [← hc] at R3 R4 R5 H3
  rw [← hd] at R4 R5 H4
  clear hc hd
  go_enter Tryd.func8, Tryd.ntmps8
  have hn := HN.out
  obtain ⟨⟨d0, d1⟩, d2, d3, d4⟩ := (HE _).out hn
  clear hn
  go_wp2_with fail
  clear d0 d1 d2 d3 d4
  generalize (w.alloc (.cells #[.slice pv V.length cv, .slice pf F.length cf] 25)).alloc (.cells #[.int .i64 i, .slice pu ps.length cu, .slice px fs.length cx] 29) = W0 at *
  refine (H1.out _ HN.out).mono ?_
  rintro e w1 ⟨rfl, b1⟩
  have HN1 := Lib.hid (HN.out.below b1)
  clear b1
  obtain ⟨⟨d0, d1⟩, d2, d3, d4⟩ := (HE _).out HN1.out
  cases a with
  | false =>
    obtain rfl := X0.out rfl
    have HV := Lib.hid (R1.out (by simp))
    go_wp2_with fail
    go_ret
    rw [HV.out]
    exact ⟨rfl, HN1.out.2.2.2.2⟩
  | true =>
    obtain rfl := X1.out rfl
    go_wp2_with fail
    refine (H2.out _ HN1.out).mono ?_
    rintro e w2 ⟨rfl, b2⟩
    have HN2 := Lib.hid (HN1.out.below b2)
    clear b2 d0 d1 d2 d3 d4
    obtain ⟨⟨d0, d1⟩, d2, d3, d4⟩ := (HE _).out HN2.out
    cases b with
    | false =>
      have HV := Lib.hid (R2.out (by simp) (by simp))
      go_wp2_with fail
      go_ret
      rw [HV.out]
      exact ⟨rfl, HN2.out.2.2.2.2⟩
    | true =>
      go_wp2_with fail
      refine (H3.out _ HN2.out).mono ?_
      rintro e w3 ⟨rfl, b3⟩
      have HN3 := Lib.hid (HN2.out.below b3)
      clear b3 d0 d1 d2 d3 d4
      obtain ⟨⟨d0, d1⟩, d2, d3, d4⟩ := (HE _).out HN3.out
      cases c with
      | false =>
        have HV := Lib.hid (R3.out (by simp) (by simp) (by simp))
        go_wp2_with fail
        go_ret
        rw [HV.out]
        exact ⟨rfl, HN3.out.2.2.2.2⟩
      | true =>
        go_wp2_with fail
        refine (H4.out _ HN3.out).mono ?_
        rintro e w4 ⟨rfl, b4⟩
        have HN4 := Lib.hid (HN3.out.below b4)
        clear b4 d0 d1 d2 d3 d4
        obtain ⟨⟨d0, d1⟩, d2, d3, d4⟩ := (HE _).out HN4.out
        cases d with
        | false =>
          have HV := Lib.hid (R4.out (by simp) (by simp) (by simp) (by simp))
          go_wp2_with fail
          go_ret
          rw [HV.out]
          exact ⟨rfl, HN4.out.2.2.2.2⟩
        | true =>
          have HV := Lib.hid (R5.out (by simp) (by simp) (by simp) (by simp))
          go_wp2_with fail
          go_ret
          rw [HV.out]
          exact ⟨rfl, HN4.out.2.2.2.2⟩
end Go.Proofs.YtfppemgagifmpaaDoor
namespace Go.Proofs.YtfppemgagifmpaaDoor
set_option linter.unusedVariables false
open Go Go.RowKit Go.Shelf Pl
theorem vsp_ways (y : VSp) : (vspB y = true ∧ ¬ y.dim < 1 ∧ ¬ 64 < y.dim ∧ ¬ y.metric < 1 ∧ ¬ 3 < y.metric) ∨
    (vspB y = false ∧ (y.dim < 1 ∨ (¬ y.dim < 1 ∧ 64 < y.dim) ∨ (¬ y.dim < 1 ∧ ¬ 64 < y.dim ∧ y.metric < 1) ∨ (¬ y.dim < 1 ∧ ¬ 64 < y.dim ∧ ¬ y.metric < 1 ∧ 3 < y.metric))) := by
  have h : vspB y = true ↔ 1 ≤ y.dim ∧ y.dim ≤ 64 ∧ (y.metric = 1 ∨ y.metric = 2 ∨ y.metric = 3) := by
    unfold vspB metricB
    simp only [Bool.and_eq_true, Bool.or_eq_true, decide_eq_true_eq]
  cases e : vspB y
  · right
    rw [e] at h
    refine ⟨rfl, ?_⟩
    have h2 : ¬ (1 ≤ y.dim ∧ y.dim ≤ 64 ∧ (y.metric = 1 ∨ y.metric = 2 ∨ y.metric = 3)) := fun x => by cases h.2 x
    omega
  · left
    rw [e] at h
    have := h.1 rfl
    exact ⟨rfl, by omega, by omega, by omega, by omega⟩
theorem fsp_ways (y : FSp) : (fspB y = true ∧ ¬ y.kind < 1 ∧ ¬ 3 < y.kind) ∨ (fspB y = false ∧ (y.kind < 1 ∨ (¬ y.kind < 1 ∧ 3 < y.kind))) := by
  have h : fspB y = true ↔ 1 ≤ y.kind ∧ y.kind < 4 := by
    unfold fspB
    simp only [Bool.and_eq_true, decide_eq_true_eq]
  cases e : fspB y
  · right
    rw [e] at h
    refine ⟨rfl, ?_⟩
    have h2 : ¬ (1 ≤ y.kind ∧ y.kind < 4) := fun x => by cases h.2 x
    omega
  · left
    rw [e] at h
    have := h.1 rfl
    exact ⟨rfl, by omega, by omega⟩
theorem vsps_cell {w : World} {p : Option Addr} {n c : Nat} {L : List VSp} (h : VSpAt w (.slice p n c) L) {j : Nat} (hj : j < L.length) :
    ∃ g off, p = some ⟨g, off, none⟩ ∧ ∀ W, Below w.heap.size w W → W.cell? ⟨g, off + j * 3, none⟩ = some (.string (L[j]).name) ∧ W.cell? ⟨g, off + j * 3 + 1, none⟩ = some (.int .i64 (L[j]).dim) ∧ W.cell? ⟨g, off + j * 3 + 2, none⟩ = some (.int .i64 (L[j]).metric) := by
  rcases h with ⟨rfl, _⟩ | ⟨g, off, c2, hs, hg, hc⟩
  · cases hj
  · injection hs with e1 e2 e3
    exact ⟨g, off, e1, fun W hW => hc W (hW.block g hg) j hj⟩
theorem fsps_cell {w : World} {p : Option Addr} {n c : Nat} {L : List FSp} (h : FSpAt w (.slice p n c) L) {j : Nat} (hj : j < L.length) :
    ∃ g off, p = some ⟨g, off, none⟩ ∧ ∀ W, Below w.heap.size w W → W.cell? ⟨g, off + j * 2, none⟩ = some (.string (L[j]).name) ∧ W.cell? ⟨g, off + j * 2 + 1, none⟩ = some (.int .i64 (L[j]).kind) := by
  rcases h with ⟨rfl, _⟩ | ⟨g, off, c2, hs, hg, hc⟩
  · cases hj
  · injection hs with e1 e2 e3
    exact ⟨g, off, e1, fun W hW => hc W (hW.block g hg) j hj⟩
theorem sch_low {V : List VSp} {F : List FSp} (h : (V.length : Int) < 1 ∨ 4 < (V.length : Int) ∨ 16 < (F.length : Int)) : schB V F = false := by
  unfold schB
  rcases h with h | h | h
  · rw [outl_low (L := V.map fun x => x.name) (.inl (by rw [List.length_map]; omega))]; rfl
  · rw [outl_low (L := V.map fun x => x.name) (.inr (by rw [List.length_map]; omega))]; rfl
  · rw [outl_low (L := F.map fun x => x.name) (.inr (by rw [List.length_map]; omega))]; simp
theorem sch_mid {V : List VSp} {F : List FSp} (h1 : ¬ (V.length : Int) < 1) (h2 : ¬ 4 < (V.length : Int)) (h3 : ¬ 16 < (F.length : Int)) :
    schB V F = (rises ⟨#[]⟩ (V.map fun x => x.name) && (rises ⟨#[]⟩ (F.map fun x => x.name) && ((V.all fun x => vspB x) && F.all fun x => fspB x))) := by
  unfold schB outl
  rw [List.length_map, List.length_map, decide_eq_true (show ((1 : Nat) : Int) ≤ (V.length : Int) by omega), decide_eq_true (show (V.length : Int) ≤ ((4 : Nat) : Int) by omega), decide_eq_true (show ((0 : Nat) : Int) ≤ (F.length : Int) by omega), decide_eq_true (show (F.length : Int) ≤ ((16 : Nat) : Int) by omega)]
  rfl
set_option maxHeartbeats 4000000 in
set_option maxRecDepth 100000 in
theorem rsch_any (vv fv : Value) (V : List VSp) (F : List FSp) (w : World) (hv : VSpAt w vv V) (hf : FSpAt w fv F) (kv : VSpOk V) (kf : FSpOk F) :
    Calls Tryd.prog 7 #[.agg #[vv, fv]] w fun e w' => e = .returned (.int .i64 (if schB V F then 0 else 50)) ∧ Below w.heap.size w w' := by
  obtain ⟨R, hR⟩ : ∃ R, R = schB V F := ⟨_, rfl⟩
  rw [← hR]
  obtain ⟨Z, hZ⟩ : ∃ Z : Int, Z = if R then 0 else 50 := ⟨_, rfl⟩
  rw [← hZ]
  have HZ0 : Hid (R = false → Z = 50) := Lib.hid fun h => by rw [hZ, h]; rfl
  have HZ1 : Hid (R = true → Z = 0) := Lib.hid fun h => by rw [hZ, h]; rfl
  clear hZ
  have HV := Lib.hid hv
  have HF := Lib.hid hf
  have KV := Lib.hid kv
  have KF := Lib.hid kf
  obtain ⟨pv, cv, rfl⟩ := hv.form
  obtain ⟨pf, cf, rfl⟩ := hf.form
  have HR := Lib.hid hR
  clear hv hf kv kf hR
  obtain ⟨nv, hnv⟩ : ∃ n, n = V.length := ⟨_, rfl⟩
  obtain ⟨nf, hnf⟩ : ∃ n, n = F.length := ⟨_, rfl⟩
  rw [← hnv] at HV ⊢
  rw [← hnf] at HF ⊢
  have NV := Lib.hid hnv
  have NF := Lib.hid hnf
  clear hnv hnf
  obtain ⟨d0, d1⟩ := cellsTwo (heap_last w (.cells #[.slice pv nv cv, .slice pf nf cf] 25))
  have HB := Lib.hid (fresh_alloc w (.cells #[.slice pv nv cv, .slice pf nf cf] 25))
  have HZ : Hid ((w.alloc (.cells #[.slice pv nv cv, .slice pf nf cf] 25)).heap[w.heap.size]? = some (.cells #[.slice pv nv cv, .slice pf nf cf] 25 (0, 0))) := Lib.hid (heap_last w _)
  have HS : Hid (w.heap.size < (w.alloc (.cells #[.slice pv nv cv, .slice pf nf cf] 25)).heap.size) := Lib.hid (by simp)
  go_enter Tryd.func7, Tryd.ntmps7
  by_cases h1 : (nv : Int) < 1
  · have HX : Hid (R = false) := Lib.hid (by rw [HR.out]; exact sch_low (.inl (by rw [← NV.out]; exact h1)))
    go_wp2_with fail
    go_ret
    rw [HZ0.out HX.out]; exact ⟨rfl, HB.out⟩
  by_cases h2 : (4 : Int) < (nv : Int)
  · have HX : Hid (R = false) := Lib.hid (by rw [HR.out]; exact sch_low (.inr (.inl (by rw [← NV.out]; exact h2))))
    go_wp2_with fail
    go_ret
    rw [HZ0.out HX.out]; exact ⟨rfl, HB.out⟩
  by_cases h3 : (16 : Int) < (nf : Int)
  · have HX : Hid (R = false) := Lib.hid (by rw [HR.out]; exact sch_low (.inr (.inr (by rw [← NF.out]; exact h3))))
    go_wp2_with fail
    go_ret
    rw [HZ0.out HX.out]; exact ⟨rfl, HB.out⟩
  have HR3 : Hid (R = (rises ⟨#[]⟩ (V.map fun x => x.name) && (rises ⟨#[]⟩ (F.map fun x => x.name) && ((V.all fun x => vspB x) && F.all fun x => fspB x)))) := Lib.hid (by
    rw [HR.out]; exact sch_mid (by rw [← NV.out]; exact h1) (by rw [← NV.out]; exact h2) (by rw [← NF.out]; exact h3))
  have hnv4 : nv ≤ 4 := by omega
  have hnf16 : nf ≤ 16 := by omega
  have VNL : Hid (nv ≤ maxLen) := Lib.hid (by unfold maxLen; omega)
  have FNL : Hid (nf ≤ maxLen) := Lib.hid (by unfold maxLen; omega)
  clear HR
  go_wp2_with fail
  clear d0 d1 h1 h2 h3
  generalize w.alloc (.cells #[.slice pv nv cv, .slice pf nf cf] 25) = W0 at *
  go_loopw [3, 5] (fun s i wr => ∃ k : Nat, k ≤ nv ∧ i = .int .i64 k ∧ OwnT wr W0.heap.size s ((V.take k).map fun x => x.name) ∧ Below W0.heap.size W0 wr ∧ Hid ((V.take k).all (fun x => vspB x) = true)) (fun _ i _ => nv - (intOf i).toNat)
  case atStart => exact ⟨0, Nat.zero_le _, rfl, ownT_nil _ _, Below.refl _ _, Lib.hid rfl⟩
  case round =>
    obtain ⟨k, hk, rfl, ho, hb, HA⟩ := hrel
    obtain ⟨wz, rfl⟩ : ∃ wz : World, wz = wr := ⟨_, rfl⟩
    have HQ := Lib.hid hb
    have HW := Lib.hid (HB.out.trans (hb.mono HB.out.size))
    have HO := Lib.hid ho
    have hbox := (hb.block _ HS.out).trans HZ.out
    obtain ⟨d0, d1⟩ := cellsTwo hbox
    clear hb ho
    by_cases hlt : k < nv
    · have hlk : k < V.length := by rw [← NV.out]; exact hlt
      obtain ⟨g, off, rfl, hc⟩ := vsps_cell HV.out hlk
      obtain ⟨c0, c1, c2⟩ := hc wz HW.out
      have VX := Lib.hid (List.getElem?_eq_getElem hlk)
      generalize V[k] = y at c0 c1 c2 VX
      obtain ⟨yn, yd, ym⟩ := y
      simp only at c0 c1 c2
      have hwy := vsp_ways ⟨yn, yd, ym⟩
      simp only at hwy
      have hza := heap_last wz (.cells #[.string yn, .int .i64 yd, .int .i64 ym] 50)
      obtain ⟨e0, e1, e2⟩ := cells3_of hza
      have HAL := Lib.hid (fresh_alloc wz (.cells #[.string yn, .int .i64 yd, .int .i64 ym] 50))
      have HWA := Lib.hid (HW.out.trans (HAL.out.mono HW.out.size))
      obtain ⟨v', w', hr, ho', hb'⟩ := append_text yn (ownT_kept HO.out HAL.out) (by rw [List.length_map, List.length_take]; omega) (Nat.le_trans HQ.out.size HAL.out.size)
      rw [show (wz.alloc (.cells #[.string yn, .int .i64 yd, .int .i64 ym] 50)).heap.size = wz.heap.size + 1 by simp] at hr
      have HO2 := Lib.hid ho'
      have HB2 := Lib.hid ((HQ.out.trans (HAL.out.mono HQ.out.size)).trans hb')
      have HWY := Lib.hid hwy
      clear hwy hc ho' hb' hlk hza hbox
      rcases HWY.out with ⟨hp, h1, h2, h3, h4⟩ | ⟨hp, h⟩
      · have HX := Lib.hid (all_next' (p := fun x => vspB x) VX.out HA.out hp)
        clear hp HWY
        go_wp2_with (at_builtin; refine wpList_append_run rfl _ _ _ _ rfl _ _ _ _ rfl rfl hr ?_)
        go_roundw
        case rel => exact ⟨k + 1, by omega, by first | rfl | go_num, by rw [take_map_snoc VX.out]; exact HO2.out, HB2.out, HX⟩
        case measure => simp [intOf]; omega
      · have HX : Hid (R = false) := Lib.hid (by rw [HR3.out, all_no' (p := fun x => vspB x) VX.out hp]; simp)
        clear hp HWY
        rcases h with h1 | ⟨h1, h2⟩ | ⟨h1, h2, h3⟩ | ⟨h1, h2, h3, h4⟩
        all_goals
          go_wp2_with fail
          go_ret
          rw [HZ0.out HX.out]; exact ⟨rfl, HWA.out⟩
    · obtain rfl : k = nv := by omega
      have HN1 := HO.out
      have e1 : (V.take k).map (fun x => x.name) = V.map (fun x => x.name) := by rw [NV.out, List.take_length]
      rw [e1] at HN1
      have HVA : Hid ((V.all fun x => vspB x) = true) := Lib.hid (by have := HA.out; rwa [NV.out, List.take_length] at this)
      have LV : Hid ((V.map fun x => x.name).length = k) := Lib.hid (by rw [List.length_map]; exact NV.out.symm)
      have LF : Hid ((F.map fun x => x.name).length = nf) := Lib.hid (by rw [List.length_map]; exact NF.out.symm)
      obtain ⟨p3, c3, rfl⟩ := HN1.at.form
      have HA1 := Lib.hid HN1.at
      rw [LV.out] at HA1 ⊢
      clear HO e1 HN1 HA hbox
      go_wp2_with fail
      clear d0 d1
      go_loopw [4, 7] (fun s i wr => ∃ j : Nat, j ≤ nf ∧ i = .int .i64 j ∧ OwnT wr wz.heap.size s ((F.take j).map fun x => x.name) ∧ Below wz.heap.size wz wr ∧ Hid ((F.take j).all (fun x => fspB x) = true)) (fun _ i _ => nf - (intOf i).toNat)
      case atStart => exact ⟨0, Nat.zero_le _, rfl, ownT_nil _ _, Below.refl _ _, Lib.hid rfl⟩
      case round =>
        obtain ⟨j, hj, rfl, ho, hb, HA⟩ := hrel
        obtain ⟨wy, rfl⟩ : ∃ wy : World, wy = wr := ⟨_, rfl⟩
        have HO := Lib.hid ho
        have HQ2 := Lib.hid hb
        have HW2 := Lib.hid (HW.out.trans (hb.mono HW.out.size))
        obtain ⟨d0, d1⟩ := cellsTwo (((HQ.out.trans (hb.mono HQ.out.size)).block _ HS.out).trans HZ.out)
        clear ho hb
        by_cases hlt2 : j < nf
        · have hlk : j < F.length := by rw [← NF.out]; exact hlt2
          obtain ⟨g, off, rfl, hc⟩ := fsps_cell HF.out hlk
          obtain ⟨c0, c1⟩ := hc wy HW2.out
          have VX := Lib.hid (List.getElem?_eq_getElem hlk)
          generalize F[j] = y at c0 c1 VX
          obtain ⟨yn, yk⟩ := y
          simp only at c0 c1
          have hwy := fsp_ways ⟨yn, yk⟩
          simp only at hwy
          obtain ⟨v', w', hr, ho', hb'⟩ := append_text yn HO.out (by rw [List.length_map, List.length_take]; omega) HQ2.out.size
          have HO2 := Lib.hid ho'
          have HB2 := Lib.hid (HQ2.out.trans hb')
          have HWY := Lib.hid hwy
          clear hwy hc ho' hb' hlk
          rcases HWY.out with ⟨hp, h1, h2⟩ | ⟨hp, h⟩
          · have HX := Lib.hid (all_next' (p := fun x => fspB x) VX.out HA.out hp)
            clear hp HWY
            go_wp2_with (at_builtin; refine wpList_append_run rfl _ _ _ _ rfl _ _ _ _ rfl rfl hr ?_)
            go_roundw
            case rel => exact ⟨j + 1, by omega, by first | rfl | go_num, by rw [take_map_snoc VX.out]; exact HO2.out, HB2.out, HX⟩
            case measure => simp [intOf]; omega
          · have HX : Hid (R = false) := Lib.hid (by rw [HR3.out, all_no' (p := fun x => fspB x) VX.out hp]; simp)
            clear hp HWY
            rcases h with h1 | ⟨h1, h2⟩
            all_goals
              go_wp2_with fail
              go_ret
              rw [HZ0.out HX.out]; exact ⟨rfl, HW2.out⟩
        · obtain rfl : j = nf := by omega
          have HN2 := HO.out
          have e1 : (F.take j).map (fun x => x.name) = F.map (fun x => x.name) := by rw [NF.out, List.take_length]
          rw [e1] at HN2
          have HFA : Hid ((F.all fun x => fspB x) = true) := Lib.hid (by have := HA.out; rwa [NF.out, List.take_length] at this)
          obtain ⟨p4, c4, rfl⟩ := HN2.at.form
          have HA2 := Lib.hid HN2.at
          rw [LF.out] at HA2 ⊢
          have HC1 := Lib.hid (rnames_any (V.map fun x => x.name) _ wy (HA1.out.below HQ2.out) (by rw [LV.out]; exact VNL.out) (fun x hx => by
            obtain ⟨y, hy, rfl⟩ := List.mem_map.1 hx
            exact room_len (KV.out.2 y hy)))
          have HC2 := Lib.hid (fun W (hb : Below wy.heap.size wy W) => rnames_any (F.map fun x => x.name) _ W (HA2.out.below hb) (by rw [LF.out]; exact FNL.out) (fun x hx => by
            obtain ⟨y, hy, rfl⟩ := List.mem_map.1 hx
            exact room_len (KF.out.2 y hy)))
          have HR4 : Hid (R = (rises ⟨#[]⟩ (V.map fun x => x.name) && rises ⟨#[]⟩ (F.map fun x => x.name))) := Lib.hid (by rw [HR3.out, HVA.out, HFA.out]; simp)
          clear HO e1 HN2 HA
          generalize rises ⟨#[]⟩ (V.map fun x => x.name) = ra at HR4 HC1
          generalize rises ⟨#[]⟩ (F.map fun x => x.name) = rb at HR4 HC2
          cases ra with
          | true =>
            go_wp2_with fail
            refine HC1.out.mono ?_
            rintro e w3 ⟨rfl, hb3⟩
            have HB3 := Lib.hid hb3
            clear hb3
            go_wp2_with fail
            refine (HC2.out _ HB3.out).mono ?_
            rintro e w4 ⟨rfl, hb4⟩
            have HB4 := Lib.hid (HW2.out.trans ((HB3.out.trans (hb4.mono HB3.out.size)).mono HW2.out.size))
            clear hb4
            cases rb with
            | true =>
              go_wp2_with fail
              go_ret
              rw [HZ1.out HR4.out]; exact ⟨rfl, HB4.out⟩
            | false =>
              go_wp2_with fail
              go_ret
              rw [HZ0.out HR4.out]; exact ⟨rfl, HB4.out⟩
          | false =>
            go_wp2_with fail
            refine HC1.out.mono ?_
            rintro e w3 ⟨rfl, hb3⟩
            have HB3 := Lib.hid (HW2.out.trans (hb3.mono HW2.out.size))
            clear hb3
            go_wp2_with fail
            go_ret
            rw [HZ0.out HR4.out]; exact ⟨rfl, HB3.out⟩
end Go.Proofs.YtfppemgagifmpaaDoor
namespace Go.Proofs.YtfppemgagifmpaaDoor
set_option linter.unusedVariables false
open Go Go.RowKit Go.Shelf Pl
theorem zero_ways (n : Int) : (zeroB n = true ∧ (n != 0) = false) ∨ (zeroB n = false ∧ (n != 0) = true) := by
  unfold zeroB
  by_cases h : n = 0
  · left; simp [h]
  · right; simp [h]
set_option maxHeartbeats 1000000 in
set_option maxRecDepth 100000 in
theorem rzero_any (L : List Int) (v : Value) (w : World) (h : IntsAt w v L) (hl : L.length ≤ maxLen) :
    Calls Tryd.prog 32 #[v] w fun e w' => e = .returned (.bool (L.all zeroB)) ∧ w' = w := by
  obtain ⟨R, hR⟩ : ∃ R, R = L.all zeroB := ⟨_, rfl⟩
  rw [← hR]
  have HR := Lib.hid hR
  have HH := Lib.hid h
  obtain ⟨p, c, rfl, _⟩ := h.form
  obtain ⟨n, hn⟩ : ∃ n, n = L.length := ⟨_, rfl⟩
  rw [← hn] at HH hl ⊢
  have HL := Lib.hid hl
  have HN := Lib.hid hn
  clear h hR hl hn
  go_enter Tryd.func32, Tryd.ntmps32
  go_wp2_with fail
  go_loop [3] (fun i => ∃ k : Nat, k ≤ n ∧ i = .int .i64 k ∧ Hid ((L.take k).all zeroB = true)) (fun i => n - (intOf i).toNat)
  case atStart => exact ⟨0, Nat.zero_le _, rfl, Lib.hid (by simp)⟩
  case round =>
    obtain ⟨k, hk, rfl, HA⟩ := hrel
    by_cases hlt : k < n
    · have hlk : k < L.length := by rw [← HN.out]; exact hlt
      obtain ⟨g, off, rfl, hc⟩ := ints_cell HH.out hlk
      have ca := hc w (Below.refl _ _)
      have VX := Lib.hid (List.getElem?_eq_getElem hlk)
      generalize L[k] = x at ca VX
      clear hc hlk
      rcases zero_ways x with ⟨hp, h1⟩ | ⟨hp, h1⟩
      · have HX := Lib.hid (all_next' VX.out HA.out hp)
        clear hp HA VX
        go_wp2_with fail
        go_round
        case rel => exact ⟨k + 1, by omega, congrArg _ (wrap_s HL.out hlt), HX⟩
        case measure => rw [wrap_s HL.out hlt]; exact int_less hlt
      · have HX : Hid (R = false) := Lib.hid (by rw [HR.out]; exact all_no' VX.out hp)
        clear hp HA VX
        go_wp2_with fail
        go_ret
        rw [HX.out]
        exact ⟨rfl, rfl⟩
    · obtain rfl : k = n := by omega
      have HX : Hid (R = true) := Lib.hid (by rw [HR.out]; have := HA.out; rwa [HN.out, List.take_length] at this)
      go_wp2_with fail
      go_ret
      rw [HX.out]
      exact ⟨rfl, rfl⟩
def gotS : Option VSp → Value
  | none => .tuple #[.agg #[.string ⟨#[]⟩, .int .i64 0, .int .i64 0], .bool false]
  | some y => .tuple #[.agg #[.string y.name, .int .i64 y.dim, .int .i64 y.metric], .bool true]
theorem spec_hit {L : List VSp} {k : Nat} {y : VSp} {s : Nm} (hx : L[k]? = some y) (e : (y.name.toList == s.toList) = true) : specL (L.drop k) s = some y := by
  have hk : k < L.length := (List.getElem?_eq_some_iff.1 hx).1
  have e2 := (List.getElem?_eq_some_iff.1 hx).2
  unfold specL
  rw [List.drop_eq_getElem_cons hk, e2, List.find?_cons, e]
theorem spec_miss {L : List VSp} {k : Nat} {y : VSp} {s : Nm} (hx : L[k]? = some y) (e : (y.name.toList == s.toList) = false) : specL (L.drop k) s = specL (L.drop (k + 1)) s := by
  have hk : k < L.length := (List.getElem?_eq_some_iff.1 hx).1
  have e2 := (List.getElem?_eq_some_iff.1 hx).2
  unfold specL
  rw [List.drop_eq_getElem_cons hk, e2, List.find?_cons, e]
theorem kind_hit {L : List FSp} {k : Nat} {y : FSp} {s : Nm} (hx : L[k]? = some y) (e : (y.name.toList == s.toList) = true) : kindL (L.drop k) s = y.kind := by
  have hk : k < L.length := (List.getElem?_eq_some_iff.1 hx).1
  have e2 := (List.getElem?_eq_some_iff.1 hx).2
  unfold kindL
  rw [List.drop_eq_getElem_cons hk, e2, List.find?_cons, e]
theorem kind_miss {L : List FSp} {k : Nat} {y : FSp} {s : Nm} (hx : L[k]? = some y) (e : (y.name.toList == s.toList) = false) : kindL (L.drop k) s = kindL (L.drop (k + 1)) s := by
  have hk : k < L.length := (List.getElem?_eq_some_iff.1 hx).1
  have e2 := (List.getElem?_eq_some_iff.1 hx).2
  unfold kindL
  rw [List.drop_eq_getElem_cons hk, e2, List.find?_cons, e]
set_option maxHeartbeats 1000000 in
set_option maxRecDepth 100000 in
theorem rkind_any (vv fv : Value) (V : List VSp) (F : List FSp) (s : Nm) (w : World) (hv : VSpAt w vv V) (h : FSpAt w fv F) (kF : FSpOk F) :
    Calls Tryd.prog 33 #[.agg #[vv, fv], .string s] w fun e w' => e = .returned (.int .i64 (kindL F s)) ∧ Below w.heap.size w w' := by
  obtain ⟨r, hr⟩ : ∃ r, r = kindL F s := ⟨_, rfl⟩
  rw [← hr]
  have HR := Lib.hid hr
  have HS := Lib.hid (room_len kF.1)
  have HF := Lib.hid h
  obtain ⟨pv, cv, rfl⟩ := hv.form
  obtain ⟨pf, cf, rfl⟩ := h.form
  generalize V.length = nv at *
  obtain ⟨nf, hnf⟩ : ∃ n, n = F.length := ⟨_, rfl⟩
  rw [← hnf] at HF HS ⊢
  have NF := Lib.hid hnf
  clear hr kF hv h hnf
  have HB := Lib.hid (fresh_alloc w (.cells #[.slice pv nv cv, .slice pf nf cf] 25))
  obtain ⟨d0, d1⟩ := cellsTwo (heap_last w (.cells #[.slice pv nv cv, .slice pf nf cf] 25))
  go_enter Tryd.func33, Tryd.ntmps33
  go_wp2_with fail
  generalize w.alloc (.cells #[.slice pv nv cv, .slice pf nf cf] 25) = W0 at *
  go_loop [5] (fun i => ∃ k : Nat, k ≤ nf ∧ i = .int .i64 k ∧ Hid (r = kindL (F.drop k) s)) (fun i => nf - (intOf i).toNat)
  case atStart => exact ⟨0, Nat.zero_le _, rfl, HR⟩
  case round =>
    obtain ⟨k, hk, rfl, HA⟩ := hrel
    by_cases hlt : k < nf
    · have hlk : k < F.length := by rw [← NF.out]; exact hlt
      obtain ⟨g, off, rfl, hc⟩ := fsps_cell HF.out hlk
      obtain ⟨c0, c1⟩ := hc W0 HB.out
      have VX := Lib.hid (List.getElem?_eq_getElem hlk)
      generalize F[k] = y at c0 c1 VX
      obtain ⟨yn, yk⟩ := y
      simp only at c0 c1
      clear hc hlk
      cases hbe : yn.toList == s.toList with
      | true =>
        have HN : Hid (r = yk) := Lib.hid (HA.out.trans (kind_hit (s := s) VX.out hbe))
        clear HA VX
        go_wp2_with fail
        go_ret
        rw [HN.out]
        exact ⟨rfl, HB.out⟩
      | false =>
        have HN := Lib.hid (HA.out.trans (kind_miss (s := s) VX.out hbe))
        clear HA VX
        go_wp2_with fail
        go_round
        case rel => exact ⟨k + 1, by omega, congrArg _ (wrap_s HS.out hlt), HN⟩
        case measure => rw [wrap_s HS.out hlt]; exact int_less hlt
    · obtain rfl : k = nf := by omega
      have HE : Hid (r = 0) := Lib.hid (by rw [HA.out, NF.out, List.drop_length]; rfl)
      go_wp2_with fail
      go_ret
      rw [HE.out]
      exact ⟨rfl, HB.out⟩
set_option maxHeartbeats 1000000 in
set_option maxRecDepth 100000 in
theorem rspec_any (vv fv : Value) (V : List VSp) (F : List FSp) (s : Nm) (w : World) (h : VSpAt w vv V) (hf : FSpAt w fv F) (kV : VSpOk V) :
    Calls Tryd.prog 30 #[.agg #[vv, fv], .string s] w fun e w' => e = .returned (gotS (specL V s)) ∧ Below w.heap.size w w' := by
  obtain ⟨r, hr⟩ : ∃ r, r = specL V s := ⟨_, rfl⟩
  rw [← hr]
  have HR := Lib.hid hr
  have HS := Lib.hid (room_len kV.1)
  have HV := Lib.hid h
  obtain ⟨pv, cv, rfl⟩ := h.form
  obtain ⟨pf, cf, rfl⟩ := hf.form
  generalize F.length = nf at *
  obtain ⟨nv, hnv⟩ : ∃ n, n = V.length := ⟨_, rfl⟩
  rw [← hnv] at HV HS ⊢
  have NV := Lib.hid hnv
  clear hr kV h hf hnv
  have HW : Hid (∃ W, (w.alloc (.cells #[.slice pv nv cv, .slice pf nf cf] 25)).alloc (.cells #[.string ⟨#[]⟩, .int .i64 0, .int .i64 0] 50) = W ∧ W.heap[w.heap.size]? = some (.cells #[.slice pv nv cv, .slice pf nf cf] 25 (0, 0)) ∧
      W.heap[w.heap.size + 1]? = some (.cells #[.string ⟨#[]⟩, .int .i64 0, .int .i64 0] 50 (0, 0)) ∧ Below w.heap.size w W) := Lib.hid (by
    refine ⟨_, rfl, ?_, ?_, (fresh_alloc w _).alloc (by simp) _⟩
    · rw [heap_old _ _ (by simp)]; exact heap_last _ _
    · have h := heap_last (w.alloc (.cells #[.slice pv nv cv, .slice pf nf cf] 25)) (.cells #[.string ⟨#[]⟩, .int .i64 0, .int .i64 0] 50)
      rw [show (w.alloc (.cells #[.slice pv nv cv, .slice pf nf cf] 25)).heap.size = w.heap.size + 1 by simp] at h
      exact h)
  go_enter Tryd.func30, Tryd.ntmps30
  go_wp2_with fail
  obtain ⟨W, eW, x0, x1, bW⟩ := HW.out
  rw [eW]
  obtain ⟨d0, d1⟩ := cellsTwo x0
  have HB := Lib.hid bW
  have HX := Lib.hid x1
  have k0 : W.frozen? ⟨w.heap.size + 1, 0, none⟩ = false := Lib.frozen_of_heap x1 0
  have k1 : W.frozen? ⟨w.heap.size + 1, 1, none⟩ = false := Lib.frozen_of_heap x1 1
  have k2 : W.frozen? ⟨w.heap.size + 1, 2, none⟩ = false := Lib.frozen_of_heap x1 2
  obtain ⟨z0, z1, z2⟩ := cells3_of x1
  clear HW eW x0 x1 bW
  go_loop [6] (fun i => ∃ k : Nat, k ≤ nv ∧ i = .int .i64 k ∧ Hid (r = specL (V.drop k) s)) (fun i => nv - (intOf i).toNat)
  case atStart => exact ⟨0, Nat.zero_le _, rfl, HR⟩
  case round =>
    obtain ⟨k, hk, rfl, HA⟩ := hrel
    by_cases hlt : k < nv
    · have hlk : k < V.length := by rw [← NV.out]; exact hlt
      obtain ⟨g, off, rfl, hc⟩ := vsps_cell HV.out hlk
      obtain ⟨c0, c1, c2⟩ := hc W HB.out
      have VX := Lib.hid (List.getElem?_eq_getElem hlk)
      generalize V[k] = y at c0 c1 c2 VX
      obtain ⟨yn, yd, ym⟩ := y
      simp only at c0 c1 c2
      clear hc hlk
      cases hbe : yn.toList == s.toList with
      | true =>
        have HN : Hid (r = some ⟨yn, yd, ym⟩) := Lib.hid (HA.out.trans (spec_hit (s := s) VX.out hbe))
        obtain ⟨⟨e0, e1, e2⟩, eb⟩ := set3 HX.out HB.out (Nat.le_succ _) (.string yn) (.int .i64 yd) (.int .i64 ym)
        have EB := Lib.hid eb
        clear HA VX eb
        go_wp2_with fail
        refine bodyPost_ret (v := .tuple #[.agg #[.string yn, .int .i64 yd, .int .i64 ym], .bool true]) (by simp [results, Tryd.results30, go_sem, e0, e1, e2]) rfl ?_
        rw [HN.out]
        exact ⟨rfl, EB.out⟩
      | false =>
        have HN := Lib.hid (HA.out.trans (spec_miss (s := s) VX.out hbe))
        clear HA VX
        go_wp2_with fail
        go_round
        case rel => exact ⟨k + 1, by omega, congrArg _ (wrap_s HS.out hlt), HN⟩
        case measure => rw [wrap_s HS.out hlt]; exact int_less hlt
    · obtain rfl : k = nv := by omega
      have HE : Hid (r = none) := Lib.hid (by rw [HA.out, NV.out, List.drop_length]; rfl)
      obtain ⟨⟨e0, e1, e2⟩, eb⟩ := set3 HX.out HB.out (Nat.le_succ _) (.string ⟨#[]⟩) (.int .i64 0) (.int .i64 0)
      have EB := Lib.hid eb
      clear eb
      go_wp2_with fail
      refine bodyPost_ret (v := .tuple #[.agg #[.string ⟨#[]⟩, .int .i64 0, .int .i64 0], .bool false]) (by simp [results, Tryd.results30, go_sem, e0, e1, e2]) rfl ?_
      rw [HE.out]
      exact ⟨rfl, EB.out⟩
end Go.Proofs.YtfppemgagifmpaaDoor
namespace Go.Proofs.YtfppemgagifmpaaDoor
set_option linter.unusedVariables false
open Go Go.RowKit Go.Shelf Pl
theorem cell_up {w : World} {b i : Nat} {v : Value} (h : w.cell? ⟨b, i, none⟩ = some v) : ∀ o, (w.alloc o).cell? ⟨b, i, none⟩ = some v := fun o => by
  have hb := World.block_lt_of_cell? w _ h
  rw [← h]; exact World.cell?_of_block (w := w) (a := ⟨b, i, none⟩) (Below.heap_alloc _ _ _ hb)
theorem ck_docs {V : List VSp} {F : List FSp} {p : Pt} : ckN V F p = if schB V F then if ptOutl p then if p.vecs.all (vecFit V) then if p.flds.all (fldFitD F) then 0 else 51 else 60 else 120 else 50 := by
  unfold ckN
  cases h : schB V F
  · rfl
  · have e : fldFit F = fldFitD F := funext fun f => fit_same h f
    rw [e]
def specBox (n : Nm) (d m : Int) : Obj := .cells #[.string n, .int .i64 d, .int .i64 m] 50
theorem got_ways (r : Option VSp) : ∃ (n : Nm) (d m : Int) (b : Bool), gotS r = .tuple #[.agg #[.string n, .int .i64 d, .int .i64 m], .bool b] ∧ (b = false → r = none) ∧ (b = true → r = some ⟨n, d, m⟩) := by
  cases r with
  | none => exact ⟨_, _, _, _, rfl, fun _ => rfl, fun h => (by cases h)⟩
  | some y => exact ⟨y.name, y.dim, y.metric, true, rfl, fun h => (by cases h), fun _ => rfl⟩
def zBox : Obj := specBox ⟨#[]⟩ 0 0
theorem box_held {wq w8 : World} (h : Below (wq.drew.alloc zBox).heap.size (wq.drew.alloc zBox) w8) :
    (w8.frozen? ⟨wq.heap.size, 0, none⟩ = false ∧ w8.frozen? ⟨wq.heap.size, 1, none⟩ = false ∧ w8.frozen? ⟨wq.heap.size, 2, none⟩ = false) ∧ (w8.cell? ⟨wq.heap.size, 0, none⟩ = some (.string ⟨#[]⟩) ∧ w8.cell? ⟨wq.heap.size, 1, none⟩ = some (.int .i64 0) ∧ w8.cell? ⟨wq.heap.size, 2, none⟩ = some (.int .i64 0)) ∧ Hid (w8.heap[wq.heap.size]? = some zBox) ∧ Hid (Below wq.heap.size wq w8) := by
  have hb : Below wq.heap.size wq (wq.drew.alloc zBox) := ((Below.refl _ _).drew).alloc (Nat.le_refl _) _
  have hx : w8.heap[wq.heap.size]? = some zBox := (h.block wq.heap.size (by show _ < (wq.alloc zBox).heap.size; simp)).trans (heap_last wq.drew zBox)
  exact ⟨⟨Lib.frozen_of_heap hx 0, Lib.frozen_of_heap hx 1, Lib.frozen_of_heap hx 2⟩, cells3_of hx, Lib.hid hx, Lib.hid (hb.trans (h.mono hb.size))⟩
/-- A spec's box that was made since. -/
def BoxAt (wq wx : World) (P : Nat) (n : Nm) (d m : Int) : Prop := wx.heap[P]? = some (specBox n d m) ∧ Below wq.heap.size wq wx ∧ wq.heap.size ≤ P
theorem box_new {wq w1 : World} {n : Nm} {d m : Int} (h : Below wq.heap.size wq w1) : BoxAt wq (w1.alloc (specBox n d m)) w1.heap.size n d m :=
  ⟨heap_last _ _, h.alloc h.size _, h.size⟩
theorem box_set {wq w1 : World} {n : Nm} {d m : Int} {a b c : Value} (h : w1.heap[wq.heap.size]? = some (.cells #[a, b, c] 50 (0, 0))) (hb : Below wq.heap.size wq w1) :
    BoxAt wq (((w1.setCell ⟨wq.heap.size, 0, none⟩ (.string n)).setCell ⟨wq.heap.size, 1, none⟩ (.int .i64 d)).setCell ⟨wq.heap.size, 2, none⟩ (.int .i64 m)) wq.heap.size n d m :=
  ⟨setCell_at (setCell_at (setCell_at h _) _) _, ((hb.setCell (Nat.le_refl _) _).setCell (Nat.le_refl _) _).setCell (Nat.le_refl _) _, Nat.le_refl _⟩
/-- What the region that asks a field's kind reads. -/
def CkS (w wy : World) (vv fv uv xv : Value) (V : List VSp) (F : List FSp) (p : Pt) (g o : Nat) (nm : Nm) (z : World) : Prop :=
  z.cell? ⟨w.heap.size, 0, none⟩ = some vv ∧ z.cell? ⟨w.heap.size, 1, none⟩ = some fv ∧ z.cell? ⟨w.heap.size + 1, 2, none⟩ = some xv ∧ z.cell? ⟨g, o, none⟩ = some (.string nm) ∧ CkAt w z vv fv uv xv V F p ∧ Below wy.heap.size wy z
theorem CkS.then {w wy y z : World} {vv fv uv xv : Value} {V : List VSp} {F : List FSp} {p : Pt} {g o : Nat} {nm : Nm} (h : CkS w wy vv fv uv xv V F p g o nm y) (hb : Below y.heap.size y z) : CkS w wy vv fv uv xv V F p g o nm z := by
  obtain ⟨h0, h1, h2, h3, h4, h5⟩ := h
  have c : ∀ g j v, y.cell? ⟨g, j, none⟩ = some v → z.cell? ⟨g, j, none⟩ = some v := fun g j v e => by
    rw [← e]; exact World.cell?_of_block (w := y) (hb.block g (World.block_lt_of_cell? y _ e))
  exact ⟨c _ _ _ h0, c _ _ _ h1, c _ _ _ h2, c _ _ _ h3, h4.below hb, h5.trans (hb.mono h5.size)⟩
theorem CkS.ck {w wy z : World} {vv fv uv xv : Value} {V : List VSp} {F : List FSp} {p : Pt} {g o : Nat} {nm : Nm} (h : CkS w wy vv fv uv xv V F p g o nm z) : CkAt w z vv fv uv xv V F p := h.2.2.2.2.1
set_option maxHeartbeats 4000000 in
set_option maxRecDepth 100000 in
theorem rcheck_any (vv fv uv xv : Value) (V : List VSp) (F : List FSp) (p : Pt) (w : World) (hV : VSpAt w vv V) (hF : FSpAt w fv F) (kV : VSpOk V) (kF : FSpOk F) (hu : VecsAt w uv p.vecs) (hx : FldsAt w xv p.flds) (ku : VecsOk p.vecs) (kx : FldsOk p.flds) :
    Calls Tryd.prog 9 #[.agg #[vv, fv], .agg #[.int .i64 p.id, uv, xv]] w fun e w' => e = .returned (.int .i64 (ckN V F p)) ∧ Below w.heap.size w w' := by
  have HN := Lib.hid (ckAt_new (w := w) (p := p) hV hF hu hx)
  have H1 := Lib.hid (fun W (h : CkAt w W vv fv uv xv V F p) => rsch_any vv fv V F W h.1.2.1 h.1.2.2 kV kF)
  obtain ⟨x, hx0⟩ : ∃ x : Int, x = if schB V F then 0 else 50 := ⟨_, rfl⟩
  rw [← hx0] at H1
  have X0 : Hid (schB V F = false → x = 50) := Lib.hid fun h => by rw [hx0, h]; rfl
  have X1 : Hid (schB V F = true → x = 0) := Lib.hid fun h => by rw [hx0, h]; rfl
  clear hx0
  have H2 := Lib.hid (fun W (h : CkAt w W vv fv uv xv V F p) => rshape_any p.id uv xv p.vecs p.flds W h.2.2.1 h.2.2.2.1 ku kx)
  have H3 := Lib.hid (fun s W (h : CkAt w W vv fv uv xv V F p) => rspec_any vv fv V F s W h.1.2.1 h.1.2.2 kV)
  have H4 := Lib.hid (fun s W (h : CkAt w W vv fv uv xv V F p) => rkind_any vv fv V F s W h.1.2.1 h.1.2.2 kF)
  have KU := Lib.hid ku
  have KX := Lib.hid kx
  obtain ⟨ii, ps, fs⟩ := p
  simp only at *
  obtain ⟨r, hr⟩ : ∃ r, r = ckN V F ⟨ii, ps, fs⟩ := ⟨_, rfl⟩
  rw [← hr]
  rw [ck_docs] at hr
  simp only at hr
  have R1 : Hid (schB V F = false → r = 50) := Lib.hid fun h => by rw [hr, h]; rfl
  have R2 : Hid (schB V F = true → ptOutl ⟨ii, ps, fs⟩ = false → r = 120) := Lib.hid fun h h2 => by rw [hr, h, h2]; rfl
  have R3 : Hid (schB V F = true → ptOutl ⟨ii, ps, fs⟩ = true → ps.all (vecFit V) = false → r = 60) := Lib.hid fun h h2 h3 => by rw [hr, h, h2, h3]; rfl
  have R4 : Hid (schB V F = true → ptOutl ⟨ii, ps, fs⟩ = true → ps.all (vecFit V) = true → fs.all (fldFitD F) = false → r = 51) := Lib.hid fun h h2 h3 h4 => by rw [hr, h, h2, h3, h4]; rfl
  have R5 : Hid (schB V F = true → ptOutl ⟨ii, ps, fs⟩ = true → ps.all (vecFit V) = true → fs.all (fldFitD F) = true → r = 0) := Lib.hid fun h h2 h3 h4 => by rw [hr, h, h2, h3, h4]; rfl
  have HE : ∀ W, Hid (CkAt w W vv fv uv xv V F ⟨ii, ps, fs⟩ → (W.cell? ⟨w.heap.size, 0, none⟩ = some vv ∧ W.cell? ⟨w.heap.size, 1, none⟩ = some fv) ∧ (W.cell? ⟨w.heap.size + 1, 0, none⟩ = some (.int .i64 ii) ∧ W.cell? ⟨w.heap.size + 1, 1, none⟩ = some uv ∧ W.cell? ⟨w.heap.size + 1, 2, none⟩ = some xv)) :=
    fun W => Lib.hid fun h => ⟨cellsTwo h.1.1, cells3_of h.2.1⟩
  obtain ⟨pv, cv, rfl⟩ := hV.form
  obtain ⟨pf, cf, rfl⟩ := hF.form
  obtain ⟨pu, cu, rfl⟩ := hu.form
  obtain ⟨px, cx, rfl⟩ := hx.form
  clear hr hV hF hu hx kV kF ku kx
  obtain ⟨a, ha⟩ : ∃ a, a = schB V F := ⟨_, rfl⟩
  obtain ⟨b, hb⟩ : ∃ b, b = ptOutl ⟨ii, ps, fs⟩ := ⟨_, rfl⟩
  rw [← ha] at R1 R2 R3 R4 R5 X0 X1
  rw [← hb] at R2 R3 R4 R5 H2
  clear ha hb
  obtain ⟨nu, hnu⟩ : ∃ n, n = ps.length := ⟨_, rfl⟩
  obtain ⟨nx, hnx⟩ : ∃ n, n = fs.length := ⟨_, rfl⟩
  generalize V.length = nV at HN H1 H2 H3 H4 HE ⊢
  generalize F.length = nF at HN H1 H2 H3 H4 HE ⊢
  rw [← hnu] at HN H1 H2 H3 H4
  rw [← hnx] at HN H1 H2 H3 H4
  simp only [← hnu, ← hnx] at HE ⊢
  have NU := Lib.hid hnu
  have NX := Lib.hid hnx
  clear hnu hnx
  go_enter Tryd.func9, Tryd.ntmps9
  have hn := HN.out
  obtain ⟨⟨d0, d1⟩, d2, d3, d4⟩ := (HE _).out hn
  clear hn
  go_wp2_with fail
  clear d0 d1 d2 d3 d4
  generalize (w.alloc (.cells #[.slice pv nV cv, .slice pf nF cf] 25)).alloc (.cells #[.int .i64 ii, .slice pu nu cu, .slice px nx cx] 29) = W0 at *
  refine (H1.out _ HN.out).mono ?_
  rintro e w1 ⟨rfl, b1⟩
  have HN1 := Lib.hid (HN.out.below b1)
  clear b1
  obtain ⟨⟨d0, d1⟩, d2, d3, d4⟩ := (HE _).out HN1.out
  cases a with
  | false =>
    obtain rfl := X0.out rfl
    have HV := Lib.hid (R1.out rfl)
    go_wp2_with fail
    go_ret
    rw [HV.out]
    exact ⟨rfl, HN1.out.2.2.2.2⟩
  | true =>
    obtain rfl := X1.out rfl
    go_wp2_with fail
    refine (H2.out _ HN1.out).mono ?_
    rintro e w2 ⟨rfl, b2⟩
    have HN2 := Lib.hid (HN1.out.below b2)
    clear b2 d0 d1 d2 d3 d4
    obtain ⟨⟨d0, d1⟩, d2, d3, d4⟩ := (HE _).out HN2.out
    cases b with
    | false =>
      have HV := Lib.hid (R2.out (by simp) (by simp))
      go_wp2_with fail
      go_ret
      rw [HV.out]
      exact ⟨rfl, HN2.out.2.2.2.2⟩
    | true =>
      have VNL : Hid (nu ≤ maxLen) := Lib.hid (by rw [NU.out]; exact room_len KU.out.1)
      have FNL : Hid (nx ≤ maxLen) := Lib.hid (by rw [NX.out]; exact room_len KX.out.1)
      go_wp2_with fail
      clear d0 d1 d2 d3 d4
      go_loopw [5] (fun i wr => ∃ k : Nat, k ≤ nu ∧ i = .int .i64 k ∧ Hid (CkAt w wr (.slice pv nV cv) (.slice pf nF cf) (.slice pu nu cu) (.slice px nx cx) V F ⟨ii, ps, fs⟩) ∧ Hid ((ps.take k).all (vecFit V) = true)) (fun i _ => nu - (intOf i).toNat)
      case atStart => exact ⟨0, Nat.zero_le _, rfl, HN2, Lib.hid rfl⟩
      case round =>
        obtain ⟨k, hk, rfl, HC, HA⟩ := hrel
        obtain ⟨wq, rfl⟩ : ∃ wq : World, wq = wr := ⟨_, rfl⟩
        obtain ⟨⟨d0, d1⟩, d2, d3, d4⟩ := (HE _).out HC.out
        by_cases hlt : k < nu
        · have hlk : k < ps.length := by rw [← NU.out]; exact hlt
          have hlt' : (k : Int) < (nu : Int) := by omega
          obtain ⟨g, off, xs, rfl, hi, hc⟩ := vecs_cell HC.out.2.2.1 hlk
          obtain ⟨c0, c1⟩ := hc wq (Below.refl _ _)
          have VX := Lib.hid (List.getElem?_eq_getElem hlk)
          have HK := Lib.hid (KU.out.2 _ (List.getElem_mem hlk))
          have HI := Lib.hid hi
          generalize ps[k] = y at c0 c1 VX HK HI
          obtain ⟨yn, yv⟩ := y
          simp only at c0 c1 HK HI
          clear hc hi hlk
          obtain ⟨px', cx', rfl, _⟩ := HI.out.form
          obtain ⟨sn, sd, sm, bb, hgot, hg1, hg2⟩ := got_ways (specL V yn)
          have HSP := Lib.hid (H3.out yn)
          rw [hgot] at HSP
          have CKD := Lib.hid (HC.out.below (Below.refl _ _).drew)
          have CKA := Lib.hid (HC.out.below (((Below.refl _ wq).drew).alloc (Nat.le_refl _) zBox))
          have HG1 := Lib.hid hg1
          have HG2 := Lib.hid hg2
          have u0 := cell_up d0
          have u1 := cell_up d1
          have u2 := cell_up d2
          have u3 := cell_up d3
          have u4 := cell_up d4
          have u5 := cell_up c0
          clear hgot hg1 hg2
          go_upto_region 8 with (fail)
          go_cut [6, 7] from 16 to 71 (fun P ok wx => ∃ q, P = .pointer (some ⟨q, 0, none⟩) ∧ ok = .bool bb ∧ BoxAt wq wx q sn sd sm)
          case first =>
            go_region_with (go_at_call 30; refine (HSP.out _ ?_).mono ?_; (first | exact CKD.out | exact CKA.out); rintro e w8 ⟨rfl, b8⟩; (first | (have hh := box_held (wq := wq) b8; obtain ⟨⟨k0, k1, k2⟩, ⟨z0, z1, z2⟩, HX8, HB8⟩ := hh) | (have HB8 := Lib.hid ((Below.refl _ wq).drew.trans b8))))
            all_goals go_wp2_with fail
            all_goals go_meet
            all_goals first | exact ⟨_, rfl, rfl, box_new HB8.out⟩ | exact ⟨_, rfl, rfl, box_set HX8.out HB8.out⟩
          case rest =>
            obtain ⟨q, rfl, rfl, hbx⟩ := hcut
            have HBX := Lib.hid hbx.2.1
            have HCC := Lib.hid (HC.out.below hbx.2.1)
            have hg := World.block_lt_of_cell? wq _ c1
            have a1 : wc.cell? ⟨g, off + k * 2 + 1, none⟩ = some (.slice px' yv.length cx') := by rw [← c1]; exact World.cell?_of_block (w := wq) (hbx.2.1.block g hg)
            obtain ⟨s0, s1, s2⟩ := cells3_of hbx.1
            have HRG := Lib.hid (fun n => rrange_any yv _ (wc.drewN n) (HI.out.below (hbx.2.1.trans ((below_nq (Below.refl _ wc) n).mono hbx.2.1.size))) (room_len HK.out.2))
            have HZR := Lib.hid (fun n => rzero_any yv _ (wc.drewN n) (HI.out.below (hbx.2.1.trans ((below_nq (Below.refl _ wc) n).mono hbx.2.1.size))) (room_len HK.out.2))
            clear d0 d1 d2 d3 d4 u0 u1 u2 u3 u4 u5 c0 c1 hg hbx CKD CKA HSP
            obtain ⟨⟨d0, d1⟩, d2, d3, d4⟩ := (HE _).out HCC.out
            have HND := Lib.hid (fun n => HCC.out.below (below_nq (Below.refl _ wc) n))
            have HF0 : Hid (specL V yn = none → vecFit V ⟨yn, yv⟩ = false) := Lib.hid fun e => fit_none (x := ⟨yn, yv⟩) e
            have HF1 : Hid (∀ y, specL V yn = some y → vecFit V ⟨yn, yv⟩ = (decide ((yv.length : Int) = y.dim) && (yv.all partB && (!(decide (y.metric = 3)) || !(yv.all zeroB))))) := Lib.hid fun y e => fit_some (x := ⟨yn, yv⟩) e
            have HNO : Hid (vecFit V ⟨yn, yv⟩ = false → r = 60) := Lib.hid fun e => R3.out (by simp) (by simp) (all_no' VX.out e)
            have HYES : Hid (vecFit V ⟨yn, yv⟩ = true → (ps.take (k + 1)).all (vecFit V) = true) := Lib.hid fun e => all_next' VX.out HA.out e
            generalize vecFit V ⟨yn, yv⟩ = ft at *
            generalize yv.all partB = pp at *
            generalize yv.all zeroB = zz at *
            generalize yv.length = m at *
            clear HA VX HK HI
            cases bb with
            | false =>
              have HV := Lib.hid (HNO.out (HF0.out (HG1.out rfl)))
              clear HF0 HF1 HG1 HG2
              go_wp2_with fail
              go_quiet (fail)
              go_wp2_with fail
              go_ret
              rw [HV.out]
              exact ⟨rfl, (HND.out _).2.2.2.2⟩
            | true =>
              have HR := Lib.hid (HF1.out _ (HG2.out rfl))
              clear HF0 HF1 HG1 HG2
              by_cases hd : (m : Int) = sd
              · have hne : ((m : Int) != sd) = false := by simp [hd]
                have HR2 : Hid (ft = (pp && (!(decide (sm = 3)) || !zz))) := Lib.hid (by rw [HR.out]; simp only; rw [decide_eq_true hd]; rfl)
                clear hd HR
                cases pp with
                | false =>
                  have HV := Lib.hid (HNO.out HR2.out)
                  go_wp2_with fail
                  go_quiet (first | (go_at_call 31; refine Calls.quiet_of_same (HRG.out _)))
                  go_wp2_with fail
                  go_ret
                  rw [HV.out]
                  exact ⟨rfl, (HND.out _).2.2.2.2⟩
                | true =>
                  by_cases hm : sm = 3
                  · have hm2 : (sm == 3) = true := by simp [hm]
                    have HR3 : Hid (ft = !zz) := Lib.hid (by rw [HR2.out, decide_eq_true hm]; rfl)
                    clear hm HR2
                    cases zz with
                    | false =>
                      have HV := Lib.hid (HYES.out HR3.out)
                      go_wp2_with fail
                      go_quiet (first | (go_at_call 31; refine Calls.quiet_of_same (HRG.out _)) | (go_at_call 32; refine Calls.quiet_of_same (HZR.out _)))
                      go_wp2_with fail
                      go_roundw
                      case rel => exact ⟨k + 1, by omega, congrArg _ (wrap_s VNL.out hlt), Lib.hid (HND.out _), HV⟩
                      case measure => rw [wrap_s VNL.out hlt]; exact int_less hlt
                    | true =>
                      have HV := Lib.hid (HNO.out HR3.out)
                      go_wp2_with fail
                      go_quiet (first | (go_at_call 31; refine Calls.quiet_of_same (HRG.out _)) | (go_at_call 32; refine Calls.quiet_of_same (HZR.out _)))
                      go_wp2_with fail
                      go_ret
                      rw [HV.out]
                      exact ⟨rfl, (HND.out _).2.2.2.2⟩
                  · have hm2 : (sm == 3) = false := by simp [hm]
                    have HV := Lib.hid (HYES.out (by rw [HR2.out, decide_eq_false hm]; rfl))
                    clear hm HR2
                    go_wp2_with fail
                    go_quiet (first | (go_at_call 31; refine Calls.quiet_of_same (HRG.out _)))
                    go_wp2_with fail
                    go_roundw
                    case rel => exact ⟨k + 1, by omega, congrArg _ (wrap_s VNL.out hlt), Lib.hid (HND.out _), HV⟩
                    case measure => rw [wrap_s VNL.out hlt]; exact int_less hlt
              · have hne : ((m : Int) != sd) = true := by simp [hd]
                have HV := Lib.hid (HNO.out (by rw [HR.out]; simp only; rw [decide_eq_false hd]; rfl))
                clear hd HR
                go_wp2_with fail
                go_quiet (fail)
                go_wp2_with fail
                go_ret
                rw [HV.out]
                exact ⟨rfl, (HND.out _).2.2.2.2⟩
        · obtain rfl : k = nu := by omega
          have HVA : Hid (ps.all (vecFit V) = true) := Lib.hid (by have := HA.out; rwa [NU.out, List.take_length] at this)
          clear HA
          go_wp2_with fail
          clear d0 d1 d2 d3 d4
          go_loopw [8] (fun i wr => ∃ j : Nat, j ≤ nx ∧ i = .int .i64 j ∧ Hid (CkAt w wr (.slice pv nV cv) (.slice pf nF cf) (.slice pu k cu) (.slice px nx cx) V F ⟨ii, ps, fs⟩) ∧ Hid ((fs.take j).all (fldFitD F) = true)) (fun i _ => nx - (intOf i).toNat)
          case atStart => exact ⟨0, Nat.zero_le _, rfl, HC, Lib.hid rfl⟩
          case round =>
            obtain ⟨j, hj, rfl, HC2, HA⟩ := hrel
            obtain ⟨wy, rfl⟩ : ∃ wy : World, wy = wr := ⟨_, rfl⟩
            obtain ⟨⟨d0, d1⟩, d2, d3, d4⟩ := (HE _).out HC2.out
            by_cases hlt2 : j < nx
            · have hlk : j < fs.length := by rw [← NX.out]; exact hlt2
              have hlt' : (j : Int) < (nx : Int) := by omega
              obtain ⟨g, off, rfl, hc⟩ := flds_cell HC2.out.2.2.2.1 hlk
              have VX := Lib.hid (List.getElem?_eq_getElem hlk)
              have HK := Lib.hid (KX.out.2 _ (List.getElem_mem hlk))
              generalize fs[j] = y at hc VX HK
              obtain ⟨yn, yk, yi, yt⟩ := y
              simp only at hc HK
              obtain ⟨c0, c1, c2, c3⟩ := hc wy (Below.refl _ _)
              have HCF := Lib.hid hc
              have HKD := Lib.hid (H4.out yn)
              have HVL := Lib.hid (fun W => rvalue_any yk yi yt (room_len HK.out.2) W)
              have HNO : Hid (fldFitD F ⟨yn, ⟨yk, yi, yt⟩⟩ = false → r = 51) := Lib.hid fun e => R4.out (by simp) (by simp) HVA.out (all_no' VX.out e)
              have HYES : Hid (fldFitD F ⟨yn, ⟨yk, yi, yt⟩⟩ = true → (fs.take (j + 1)).all (fldFitD F) = true) := Lib.hid fun e => all_next' VX.out HA.out e
              unfold fldFitD at HNO HYES
              simp only at HNO HYES
              generalize kindL F yn = kd at *
              generalize valB ⟨yk, yi, yt⟩ = vb at *
              have hS0 : wy.drew.cell? ⟨w.heap.size, 0, none⟩ = some (.slice pv nV cv) ∧ wy.drew.cell? ⟨w.heap.size, 1, none⟩ = some (.slice pf nF cf) ∧ wy.drew.cell? ⟨w.heap.size + 1, 2, none⟩ = some (.slice (some ⟨g, off, none⟩) nx cx) ∧ wy.drew.cell? ⟨g, off + j * 4, none⟩ = some (.string yn) ∧ CkAt w wy.drew (.slice pv nV cv) (.slice pf nF cf) (.slice pu k cu) (.slice (some ⟨g, off, none⟩) nx cx) V F ⟨ii, ps, fs⟩ ∧ Below wy.heap.size wy wy.drew := ⟨d0, d1, d4, c0, HC2.out.below (Below.refl _ _).drew, (Below.refl _ _).drew⟩
              clear hc hlk HA VX HK
              go_wp2_with fail
              clear d0 d1 d2 d3 d4 c0 c1 c2 c3
              go_region_held3 (fun y => y.cell? ⟨w.heap.size, 0, none⟩ = some (.slice pv nV cv) ∧ y.cell? ⟨w.heap.size, 1, none⟩ = some (.slice pf nF cf) ∧ y.cell? ⟨w.heap.size + 1, 2, none⟩ = some (.slice (some ⟨g, off, none⟩) nx cx) ∧ y.cell? ⟨g, off + j * 4, none⟩ = some (.string yn) ∧ CkAt w y (.slice pv nV cv) (.slice pf nF cf) (.slice pu k cu) (.slice (some ⟨g, off, none⟩) nx cx) V F ⟨ii, ps, fs⟩ ∧ Below wy.heap.size wy y)
                (first | assumption | exact CkS.then (by assumption) hb | go_keep)
                (first | (go_at_call 33; refine (HKD.out _ (show CkS w wy (.slice pv nV cv) (.slice pf nF cf) (.slice pu k cu) (.slice (some ⟨g, off, none⟩) nx cx) V F ⟨ii, ps, fs⟩ g (off + j * 4) yn _ by assumption).ck).mono ?_; rintro e w9 ⟨rfl, hb⟩))
              have hh : CkS w wy (.slice pv nV cv) (.slice pf nF cf) (.slice pu k cu) (.slice (some ⟨g, off, none⟩) nx cx) V F ⟨ii, ps, fs⟩ g (off + j * 4) yn w9 := by assumption
              have HC9 := Lib.hid hh.ck
              obtain ⟨c0, c1, c2, c3⟩ := HCF.out w9 hh.2.2.2.2.2
              clear hS0 hh
              obtain ⟨⟨d0, d1⟩, d2, d3, d4⟩ := (HE _).out HC9.out
              by_cases hk0 : kd = 0
              · have h0 : (kd == 0) = true := by simp [hk0]
                have HV := Lib.hid (HNO.out (by rw [decide_eq_true hk0]; rfl))
                clear hk0
                go_wp2_with fail
                go_ret
                rw [HV.out]
                exact ⟨rfl, HC9.out.2.2.2.2⟩
              · have h0 : (kd == 0) = false := by simp [hk0]
                by_cases hk1 : yk = kd
                · have h1 : (yk != kd) = false := by simp [hk1]
                  have HVV : Hid ((!(decide (kd = 0)) && (decide (yk = kd) && vb)) = vb) := Lib.hid (by rw [decide_eq_false hk0, decide_eq_true hk1]; rfl)
                  clear hk0 hk1
                  go_wp2_with fail
                  refine (HVL.out _).mono ?_
                  rintro e w10 ⟨rfl, b10⟩
                  have HC10 := Lib.hid (HC9.out.below b10)
                  clear b10 c0 c1 c2 c3 d0 d1 d2 d3 d4
                  cases vb with
                  | true =>
                    have HV := Lib.hid (HYES.out HVV.out)
                    go_wp2_with fail
                    go_roundw
                    case rel => exact ⟨j + 1, by omega, congrArg _ (wrap_s FNL.out hlt2), HC10, HV⟩
                    case measure => rw [wrap_s FNL.out hlt2]; exact int_less hlt2
                  | false =>
                    have HV := Lib.hid (HNO.out HVV.out)
                    go_wp2_with fail
                    go_ret
                    rw [HV.out]
                    exact ⟨rfl, HC10.out.2.2.2.2⟩
                · have h1 : (yk != kd) = true := by simp [hk1]
                  have HV := Lib.hid (HNO.out (by rw [decide_eq_false hk1]; simp))
                  clear hk0 hk1
                  go_wp2_with fail
                  go_ret
                  rw [HV.out]
                  exact ⟨rfl, HC9.out.2.2.2.2⟩
            · obtain rfl : j = nx := by omega
              have HV := Lib.hid (R5.out (by simp) (by simp) HVA.out (by have := HA.out; rwa [NX.out, List.take_length] at this))
              go_wp2_with fail
              go_ret
              rw [HV.out]
              exact ⟨rfl, HC2.out.2.2.2.2⟩
end Go.Proofs.YtfppemgagifmpaaDoor
