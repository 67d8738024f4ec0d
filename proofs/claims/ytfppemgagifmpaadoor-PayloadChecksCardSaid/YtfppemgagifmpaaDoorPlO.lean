/- payload's outlined: names that rise. Conditions: those that each theorem names. -/
import Derived.Test.YtfppemgagifmpaaDoorPlS
namespace Go.Proofs.YtfppemgagifmpaaDoor
set_option linter.unusedVariables false
open Go Go.RowKit Go.Shelf Pl
/-- Names that are names, each greater than the one before. -/
def rises : Nm → List Nm → Bool
  | _, [] => true
  | la, x :: r => isName x && (!(Op.bytesLess x.toList la.toList || x.toList == la.toList) && rises x r)
def outl (ns : List Nm) (least most : Nat) : Bool := decide ((least : Int) ≤ (ns.length : Int)) && (decide ((ns.length : Int) ≤ most) && rises ⟨#[]⟩ ns)
theorem rises_at {la x : Nm} {ns : List Nm} {k : Nat} (hx : ns[k]? = some x) : rises la (ns.drop k) = (isName x && (!(Op.bytesLess x.toList la.toList || x.toList == la.toList) && rises x (ns.drop (k + 1)))) := by
  have hk : k < ns.length := (List.getElem?_eq_some_iff.1 hx).1
  have e := (List.getElem?_eq_some_iff.1 hx).2
  rw [List.drop_eq_getElem_cons hk, e]
  rfl
set_option maxHeartbeats 1000000 in
theorem vecName_any (nm : ByteArray) (p : Option Addr) (n c : Nat) (w : World) :
    Calls Tryd.prog 45 #[.agg #[.string nm, .slice p n c]] w fun e w' => e = .returned (.string nm) ∧ Below w.heap.size w w' := by
  have z := heap_last w (.cells #[.string nm, .slice p n c] 43)
  have d0 : (w.alloc (.cells #[.string nm, .slice p n c] 43)).cell? ⟨w.heap.size, 0, none⟩ = some (.string nm) := by rw [Lib.cell_of_heap z]; rfl
  clear z
  go_enter Tryd.func45, Tryd.ntmps45
  go_wp2_with fail
  go_ret
  exact ⟨rfl, Below.alloc (Below.refl _ w) (Nat.le_refl _) _⟩
set_option maxHeartbeats 1000000 in
theorem fieldName_any (nm t : ByteArray) (k n : Int) (w : World) :
    Calls Tryd.prog 47 #[.agg #[.string nm, .int .i64 k, .int .i64 n, .string t]] w fun e w' => e = .returned (.string nm) ∧ Below w.heap.size w w' := by
  obtain ⟨d0, d1, d2, d3⟩ := cells4_of (heap_last w (.cells #[.string nm, .int .i64 k, .int .i64 n, .string t] 47))
  go_enter Tryd.func47, Tryd.ntmps47
  go_wp2_with fail
  go_ret
  exact ⟨rfl, Below.alloc (Below.refl _ w) (Nat.le_refl _) _⟩
theorem vname_enters : ∀ args w, (callFunc 45 args).run Tryd.prog w = .ok (.enter 45 args) w := enters_of Tryd.func45 (by kernel_rfl) rfl
theorem fname_enters : ∀ args w, (callFunc 47 args).run Tryd.prog w = .ok (.enter 47 args) w := enters_of Tryd.func47 (by kernel_rfl) rfl
set_option maxHeartbeats 1000000 in
set_option maxRecDepth 100000 in
theorem outlVecs_any (L : List Vec) (v : Value) (least most : Nat) (w : World) (h : VecsAt w v L) (hl : VecsOk L) :
    Calls Tryd.prog 44 #[v, .func (.func 45) #[] #[], .int .i64 least, .int .i64 most] w fun e w' => e = .returned (.bool (outl (L.map fun x => x.name) least most)) ∧ Below w.heap.size w w' := by
  have hg := vname_enters
  have HS := Lib.hid (room_len hl.1)
  have HL := Lib.hid hl
  clear hl
  obtain ⟨r, hr⟩ : ∃ r, r = outl (L.map fun x => x.name) least most := ⟨_, rfl⟩
  rw [← hr]
  unfold outl at hr
  rw [List.length_map] at hr
  have HR := Lib.hid hr
  clear hr
  by_cases h1 : (least : Int) ≤ (L.length : Int)
  · by_cases h2 : (L.length : Int) ≤ most
    · have HR2 : Hid (r = rises ⟨#[]⟩ (L.map fun x => x.name)) := Lib.hid (by rw [HR.out]; simp [h1, h2])
      clear HR
      rcases h with ⟨rfl, q, c, rfl⟩ | ⟨b, off, c, S, rfl, hb, hc, hi⟩
      · have HE : Hid (r = true) := Lib.hid (by rw [HR2.out]; rfl)
        obtain rfl : least = 0 := by simpa using h1
        have h4 : (0 : Int) ≤ most := by omega
        clear h1 h2
        go_enter Tryd.func44, Tryd.ntmps44
        go_wp2_with fail
        go_loop [25] (fun i => i = .int .i64 0) (fun _ => 0)
        case atStart => rfl
        case round =>
          subst hrel
          go_wp2
          go_ret
          rw [HE.out]
          exact ⟨rfl, Below.refl _ _⟩
      · have HC := Lib.hid hc
        have HB := Lib.hid hb
        have HI := Lib.hid hi
        clear hc hb hi
        have h5 : ¬ L.length < least := by omega
        have h6 : ¬ most < L.length := by omega
        go_enter Tryd.func44, Tryd.ntmps44
        go_wp2_with fail
        go_loopw [9, 25] (fun la i wr => ∃ (k : Nat) (x : Nm), k ≤ L.length ∧ i = .int .i64 k ∧ la = .string x ∧ Below w.heap.size w wr ∧ Hid (r = rises x ((L.map fun x => x.name).drop k))) (fun _ i _ => L.length - (intOf i).toNat)
        case atStart => exact ⟨0, _, Nat.zero_le _, rfl, rfl, Below.refl _ _, HR2⟩
        case round =>
          obtain ⟨k, la, hk, rfl, rfl, hbw, HA⟩ := hrel
          have HBW := Lib.hid hbw
          clear hbw
          by_cases hlt : k < L.length
          · obtain ⟨c0, c1⟩ := HC.out wr (HBW.out.block b HB.out) k hlt
            have hx : L[k]? = some L[k] := List.getElem?_eq_getElem hlt
            have hsz := (HL.out.2 _ (List.getElem_mem hlt)).1
            have hin := (HI.out k hlt).form
            generalize hcc : L[k] = x at hx c0 c1 hsz hin
            obtain ⟨nm, ns⟩ := x
            simp only at c0 c1 hsz hin
            generalize S k = sv at *
            obtain ⟨p, cp, rfl, -⟩ := hin
            have hN : (L.map fun x => x.name)[k]? = some nm := by rw [List.getElem?_map, hx]; rfl
            have HA2 := Lib.hid (HA.out.trans (rises_at (la := la) hN))
            have HX := Lib.hid (fun W => vecName_any nm p ns.length cp W)
            have HY := Lib.hid (fun W => name_any nm hsz W)
            have z := heap_last wr (.cells #[.string nm, .slice p ns.length cp] 43)
            have d0 : (wr.alloc (.cells #[.string nm, .slice p ns.length cp] 43)).cell? ⟨wr.heap.size, 0, none⟩ = some (.string nm) := by rw [Lib.cell_of_heap z]; rfl
            have d1 : (wr.alloc (.cells #[.string nm, .slice p ns.length cp] 43)).cell? ⟨wr.heap.size, 1, none⟩ = some (.slice p ns.length cp) := by rw [Lib.cell_of_heap z]; rfl
            clear hx hN HA hcc z hsz
            go_wp2_with fail
            refine (HX.out _).mono ?_
            rintro e w2 ⟨rfl, b2⟩
            have HB2 := Lib.hid (HBW.out.trans ((Below.alloc (Below.refl _ wr) (Nat.le_refl _) _).mono HBW.out.size |>.trans (b2.mono (by simp; exact Nat.le_succ_of_le HBW.out.size))))
            clear b2 d0 d1 c0 c1
            go_wp2_with fail
            refine (HY.out w2).mono ?_
            rintro e w3 ⟨rfl, b3⟩
            have HB3 := Lib.hid (HB2.out.trans (b3.mono HB2.out.size))
            clear b3
            cases ha : isName nm with
            | true =>
              cases hbl : Op.bytesLess nm.toList la.toList with
              | true =>
                have HN := Lib.hid (HA2.out.trans (by rw [ha, hbl]; rfl : _ = false))
                go_wp2_with fail
                go_ret
                rw [HN.out]
                exact ⟨rfl, HB3.out⟩
              | false =>
                cases hbe : nm.toList == la.toList with
                | true =>
                  have HN := Lib.hid (HA2.out.trans (by rw [ha, hbl, hbe]; rfl : _ = false))
                  go_wp2_with fail
                  go_ret
                  rw [HN.out]
                  exact ⟨rfl, HB3.out⟩
                | false =>
                  have HN := Lib.hid (HA2.out.trans (by rw [ha, hbl, hbe]; rfl : _ = rises nm ((L.map fun x => x.name).drop (k + 1))))
                  go_wp2_with fail
                  go_roundw
                  case rel =>
                    exact ⟨k + 1, nm, by omega, congrArg _ (wrap_s HS.out hlt), rfl, HB3.out, HN⟩
                  case measure =>
                    rw [wrap_s HS.out hlt]
                    exact int_less hlt
            | false =>
              go_wp2_with fail
              go_ret
              rw [HA2.out, ha]
              exact ⟨rfl, HB3.out⟩
          · obtain rfl : k = L.length := by omega
            have HE : Hid (r = true) := Lib.hid (by rw [HA.out, List.drop_of_length_le (by simp)]; rfl)
            go_wp2_with fail
            go_ret
            rw [HE.out]
            exact ⟨rfl, HBW.out⟩
    · have HN : Hid (r = false) := Lib.hid (by rw [HR.out]; simp [h2])
      obtain ⟨p, c, rfl⟩ := h.form
      clear h
      have h3 : (most : Int) < L.length := by omega
      go_enter Tryd.func44, Tryd.ntmps44
      go_wp2_with fail
      go_ret
      rw [HN.out]
      exact ⟨rfl, Below.refl _ _⟩
  · have HN : Hid (r = false) := Lib.hid (by rw [HR.out]; simp [h1])
    obtain ⟨p, c, rfl⟩ := h.form
    clear h
    have h3 : (L.length : Int) < least := by omega
    go_enter Tryd.func44, Tryd.ntmps44
    go_wp2_with fail
    go_ret
    rw [HN.out]
    exact ⟨rfl, Below.refl _ _⟩
set_option maxHeartbeats 1000000 in
set_option maxRecDepth 100000 in
theorem outlFlds_any (L : List Fld) (v : Value) (least most : Nat) (w : World) (h : FldsAt w v L) (hl : FldsOk L) :
    Calls Tryd.prog 46 #[v, .func (.func 47) #[] #[], .int .i64 least, .int .i64 most] w fun e w' => e = .returned (.bool (outl (L.map fun x => x.name) least most)) ∧ Below w.heap.size w w' := by
  have hg := fname_enters
  have HS := Lib.hid (room_len hl.1)
  have HL := Lib.hid hl
  clear hl
  obtain ⟨r, hr⟩ : ∃ r, r = outl (L.map fun x => x.name) least most := ⟨_, rfl⟩
  rw [← hr]
  unfold outl at hr
  rw [List.length_map] at hr
  have HR := Lib.hid hr
  clear hr
  by_cases h1 : (least : Int) ≤ (L.length : Int)
  · by_cases h2 : (L.length : Int) ≤ most
    · have HR2 : Hid (r = rises ⟨#[]⟩ (L.map fun x => x.name)) := Lib.hid (by rw [HR.out]; simp [h1, h2])
      clear HR
      rcases h with ⟨rfl, q, c, rfl⟩ | ⟨b, off, c, rfl, hb, hc⟩
      · have HE : Hid (r = true) := Lib.hid (by rw [HR2.out]; rfl)
        obtain rfl : least = 0 := by simpa using h1
        have h4 : (0 : Int) ≤ most := by omega
        clear h1 h2
        go_enter Tryd.func46, Tryd.ntmps46
        go_wp2_with fail
        go_loop [25] (fun i => i = .int .i64 0) (fun _ => 0)
        case atStart => rfl
        case round =>
          subst hrel
          go_wp2
          go_ret
          rw [HE.out]
          exact ⟨rfl, Below.refl _ _⟩
      · have HC := Lib.hid hc
        have HB := Lib.hid hb
        clear hc hb
        have h5 : ¬ L.length < least := by omega
        have h6 : ¬ most < L.length := by omega
        go_enter Tryd.func46, Tryd.ntmps46
        go_wp2_with fail
        go_loopw [9, 25] (fun la i wr => ∃ (k : Nat) (x : Nm), k ≤ L.length ∧ i = .int .i64 k ∧ la = .string x ∧ Below w.heap.size w wr ∧ Hid (r = rises x ((L.map fun x => x.name).drop k))) (fun _ i _ => L.length - (intOf i).toNat)
        case atStart => exact ⟨0, _, Nat.zero_le _, rfl, rfl, Below.refl _ _, HR2⟩
        case round =>
          obtain ⟨k, la, hk, rfl, rfl, hbw, HA⟩ := hrel
          have HBW := Lib.hid hbw
          clear hbw
          by_cases hlt : k < L.length
          · obtain ⟨c0, c1, c2, c3⟩ := HC.out wr (HBW.out.block b HB.out) k hlt
            have hx : L[k]? = some L[k] := List.getElem?_eq_getElem hlt
            have hsz := (HL.out.2 _ (List.getElem_mem hlt)).1
            generalize hcc : L[k] = x at hx c0 c1 c2 c3 hsz
            obtain ⟨nm, ⟨kd, n, t⟩⟩ := x
            simp only at c0 c1 c2 c3 hsz
            have hN : (L.map fun x => x.name)[k]? = some nm := by rw [List.getElem?_map, hx]; rfl
            have HA2 := Lib.hid (HA.out.trans (rises_at (la := la) hN))
            have HX := Lib.hid (fun W => fieldName_any nm t kd n W)
            have HY := Lib.hid (fun W => name_any nm hsz W)
            have z := heap_last wr (.cells #[.string nm, .int .i64 kd, .int .i64 n, .string t] 47)
            obtain ⟨d0, d1, d2, d3⟩ := cells4_of z
            clear hx hN HA hcc z hsz
            go_wp2_with fail
            refine (HX.out _).mono ?_
            rintro e w2 ⟨rfl, b2⟩
            have HB2 := Lib.hid (HBW.out.trans ((Below.alloc (Below.refl _ wr) (Nat.le_refl _) _).mono HBW.out.size |>.trans (b2.mono (by simp; exact Nat.le_succ_of_le HBW.out.size))))
            clear b2 d0 d1 d2 d3 c0 c1 c2 c3
            go_wp2_with fail
            refine (HY.out w2).mono ?_
            rintro e w3 ⟨rfl, b3⟩
            have HB3 := Lib.hid (HB2.out.trans (b3.mono HB2.out.size))
            clear b3
            cases ha : isName nm with
            | true =>
              cases hbl : Op.bytesLess nm.toList la.toList with
              | true =>
                have HN := Lib.hid (HA2.out.trans (by rw [ha, hbl]; rfl : _ = false))
                go_wp2_with fail
                go_ret
                rw [HN.out]
                exact ⟨rfl, HB3.out⟩
              | false =>
                cases hbe : nm.toList == la.toList with
                | true =>
                  have HN := Lib.hid (HA2.out.trans (by rw [ha, hbl, hbe]; rfl : _ = false))
                  go_wp2_with fail
                  go_ret
                  rw [HN.out]
                  exact ⟨rfl, HB3.out⟩
                | false =>
                  have HN := Lib.hid (HA2.out.trans (by rw [ha, hbl, hbe]; rfl : _ = rises nm ((L.map fun x => x.name).drop (k + 1))))
                  go_wp2_with fail
                  go_roundw
                  case rel =>
                    exact ⟨k + 1, nm, by omega, congrArg _ (wrap_s HS.out hlt), rfl, HB3.out, HN⟩
                  case measure =>
                    rw [wrap_s HS.out hlt]
                    exact int_less hlt
            | false =>
              go_wp2_with fail
              go_ret
              rw [HA2.out, ha]
              exact ⟨rfl, HB3.out⟩
          · obtain rfl : k = L.length := by omega
            have HE : Hid (r = true) := Lib.hid (by rw [HA.out, List.drop_of_length_le (by simp)]; rfl)
            go_wp2_with fail
            go_ret
            rw [HE.out]
            exact ⟨rfl, HBW.out⟩
    · have HN : Hid (r = false) := Lib.hid (by rw [HR.out]; simp [h2])
      obtain ⟨p, c, rfl⟩ := h.form
      clear h
      have h3 : (most : Int) < L.length := by omega
      go_enter Tryd.func46, Tryd.ntmps46
      go_wp2_with fail
      go_ret
      rw [HN.out]
      exact ⟨rfl, Below.refl _ _⟩
  · have HN : Hid (r = false) := Lib.hid (by rw [HR.out]; simp [h1])
    obtain ⟨p, c, rfl⟩ := h.form
    clear h
    have h3 : (L.length : Int) < least := by omega
    go_enter Tryd.func46, Tryd.ntmps46
    go_wp2_with fail
    go_ret
    rw [HN.out]
    exact ⟨rfl, Below.refl _ _⟩
end Go.Proofs.YtfppemgagifmpaaDoor
