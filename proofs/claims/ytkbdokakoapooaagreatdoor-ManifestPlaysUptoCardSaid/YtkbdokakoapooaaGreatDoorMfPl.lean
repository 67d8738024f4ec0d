/- The walk of ManifestPlays: what its calls do to both disks. Conditions: those that each theorem names. -/
import Derived.Test.YtkbdokakoapooaaGreatDoorMfSm
import Derived.Test.YtkbdokakoapooaaGreatDoorGaH
import Derived.Test.YtkbdokakoapooaaGreatDoorMfSt
import Derived.Test.YtkbdokakoapooaaGreatDoorRfBoC
namespace Go.Proofs.YtkbdokakoapooaaGreatDoor
set_option linter.unusedVariables false
open Go Go.RowKit Go.Shelf Go.Sort Dk
theorem planOk_mays : ∀ (l : List (Int × Int × Int)) (z : Int), planOk z l = true → ∀ f ∈ l, mayB f = true
  | [], _, _, f, hf => nomatch hf
  | x :: r, z, h, f, hf => by
    unfold planOk at h
    simp only [Bool.and_eq_true] at h
    rcases List.mem_cons.1 hf with rfl | hf
    · exact h.1.2
    · exact planOk_mays r _ h.2 f hf
theorem fltR_below {w w' : World} {v : Value} {L : List (Int × Int × Int)} (h : FltR w v L) (g : Below w.heap.size w w') : FltR w' v L := by
  rcases h with h | ⟨b, off, c, rfl, hg, hc⟩
  · exact .inl h
  · exact .inr ⟨b, off, c, rfl, Nat.lt_of_lt_of_le hg g.size, fun W' hW => hc W' (hW.trans (g.block b hg))⟩
theorem faultsAt_flt {w : World} {p : Option Addr} {c : Nat} {l : List (Int × Int × Int)} (h : FltR w (.slice p l.length c) l) : FaultsAt w p c l := by
  rcases h with ⟨h, _⟩ | ⟨g, off, c', e, hg, hc⟩
  · exact .inl h
  · injection e with e1 e2 e3
    exact .inr ⟨g, off, e1, hg, hc⟩
section
variable {w0 w : World} {A B : Nat} {X Y : Nat → Prop} {D D' : DSt} {M : RSt} {c k : Nat} {φ : Nat → Nat}
/-- A plan whose row was there ahead of the disk. -/
theorem AtB.planOld (h : AtB w0 A D X w) (p : Option Addr) (c : Nat) (l : List (Int × Int × Int)) (hl : FaultsAt w p c l) (hlo : ∀ g, (Value.slice p l.length c).ownBlock = some g → l = [] ∨ g < w0.heap.size) (hr : ∀ f ∈ l, -9223372036854775808 ≤ f.1 ∧ f.1 ≤ 9223372036854775807) :
    Calls Tryz.prog 14 #[.pointer (some ⟨A, 0, none⟩), .slice p l.length c] w fun e w' => e = .returned (.int .i64 (Dk.planD D l).1) ∧ AtB w0 A (Dk.planD D l).2 X w' ∧ Stay X w w' := by
  have h' := h
  obtain ⟨ρ, fb, hd, hlo', hx, hb⟩ := h
  unfold Dk.planD
  by_cases h1 : 4096 < l.length
  · rw [if_pos h1]
    exact (plan_long A p l.length c h1 w).mono fun _ _ ⟨he, hw⟩ => ⟨he, by subst hw; exact ⟨h', Stay.refl _ _⟩⟩
  · rw [if_neg h1]
    cases h2 : planOk D.steps l
    · rw [if_neg (by decide)]
      exact (plan_bad A D ρ fb w hd p c l hl (by omega) h2).mono fun _ _ ⟨he, hw⟩ => ⟨he, h'.others hw, stay_below h' hw⟩
    · rw [if_pos rfl]
      refine (plan_good A D ρ fb w hd p c l hl ?_ (by omega) h2 hr).mono fun _ _ ⟨he, hk⟩ => ⟨he, atB_kept hd hlo' hx hb hk.kept⟩
      by_cases h0 : l = []
      · exact .inl h0
      · exact .inr fun g hg => hlo' g ((hlo g hg).resolve_left h0)
end
namespace Mf
/-- What Store does, whatever the manifest is. -/
def storeA (D : DSt) (m : Mn) : Int × DSt := if may m = true then storeD D (tx (encB m)) else (110, D)
def storeB (M : RSt) (m : Mn) : Int × RSt := if may m = true then storeR M (tx (encB m)) else (110, M)
def qC : Nat := 40000
set_option maxHeartbeats 1000000 in
set_option maxRecDepth 100000 in
theorem rs_bad {B : Nat} {w : World} {m : Mn} {v : Value} (hv : MnAt w v m) (hm : Small m) (hmay : may m = false) :
    Calls Tryz.prog 17 #[pD B, v] w fun e w' => e = .returned (.int .i64 110) ∧ Below w.heap.size w w' := by
  have HE := Lib.hid (fun W (hW : Below w.heap.size w W) => rencode_any m v W (hv.below hW) hm)
  have h1 : encS m = ⟨#[]⟩ := by unfold encS; rw [hmay]; rfl
  have h2 : encE m = 110 := by unfold encE; rw [hmay]; rfl
  rw [h1, h2] at HE
  obtain ⟨p, c, rfl, _⟩ := hv
  clear h1 h2 hm hmay
  generalize m.segs.length = n at *
  have hb0 := below_new w (.cells #[.slice p n c, .string m.log, .int .i64 m.next, .int .i64 m.seq] 61)
  obtain ⟨d0, d1, d2, d3⟩ := of_cells4 (heap_new w (.cells #[.slice p n c, .string m.log, .int .i64 m.next, .int .i64 m.seq] 61))
  have HB0 := Lib.hid hb0
  clear hb0
  go_enter Tryz.func17, Tryz.ntmps17
  go_wp2_with fail
  generalize w.alloc (.cells #[.slice p n c, .string m.log, .int .i64 m.next, .int .i64 m.seq] 61) = W0 at *
  refine (HE.out W0 HB0.out).mono ?_
  rintro e w1 ⟨rfl, hb1⟩
  have HB1 := Lib.hid (below_then HB0.out hb1)
  clear hb1 d0 d1 d2 d3
  go_wp2_with fail
  go_ret
  exact ⟨rfl, HB1.out⟩
section
variable {w0 w : World} {A B : Nat} {Y : Nat → Prop} {D D' : DSt} {M : RSt} {k : Nat} {φ : Nat → Nat}
theorem pStore (h : Two w0 A B Y D M w) (tw : Dk.Twin φ D M) (b : DBd qC k D) (bm : MBd qC k M) (hk : k + 6 ≤ 1048577) (m : Mn) (v : Value) (hv : MnAt w v m) (hm : Small m) (G : Gh w) :
    Calls Tryz.prog 16 #[pD A, v] w fun e w' => e = .returned (.int .i64 (storeA D m).1) ∧ Two w0 A B Y (storeA D m).2 M w' := by
  unfold storeA
  cases hmay : may m with
  | false => exact (store_bad hv hm hmay G).mono fun _ _ ⟨he, hb⟩ => ⟨he, h.others hb⟩
  | true => exact (h.prog fun X _ a => store_any a tw b bm hk (by decide) m v hv hm hmay (enc_small hmay) G).mono fun _ _ ⟨he, k1, _⟩ => ⟨he, k1⟩
theorem rStore (h : Two w0 A B Y D' M w) (tw : Dk.Twin φ D M) (b : DBd qC k D) (bm : MBd qC k M) (hk : k + 6 ≤ 1048577) (m : Mn) (v : Value) (hv : MnAt w v m) (hm : Small m) :
    Calls Tryz.prog 17 #[pD B, v] w fun e w' => e = .returned (.int .i64 (storeA D m).1) ∧ Two w0 A B Y D' (storeB M m).2 w' := by
  unfold storeA storeB
  cases hmay : may m with
  | false => exact (rs_bad hv hm hmay).mono fun _ _ ⟨he, hb⟩ => ⟨he, h.others hb⟩
  | true =>
    have hs := enc_small hmay
    have e := (two_store tw b bm (tx (encB m)) (by rw [tx_size]; exact hs)).1
    rw [if_pos rfl, if_pos rfl, ← e]
    exact (rstore_any h tw b bm hk (by decide) m v hv hm hmay hs).mono fun _ _ ⟨he, k1, _⟩ => ⟨he, k1⟩
theorem two_storeA (tw : Dk.Twin φ D M) (b : DBd qC k D) (bm : MBd qC k M) (hq : DataB 1048576 D) (m : Mn) : (∃ ψ, Dk.Twin ψ (storeA D m).2 (storeB M m).2) ∧ DBd qC (k + 6) (storeA D m).2 ∧ MBd qC (k + 6) (storeB M m).2 ∧ DataB 1048576 (storeA D m).2 := by
  unfold storeA storeB
  cases hmay : may m with
  | false => exact ⟨⟨φ, tw⟩, b.more.more.more.more.more.more, bm.more.more.more.more.more.more, hq⟩
  | true =>
    have hs := enc_small hmay
    obtain ⟨-, h2, h3, h4⟩ := two_store tw b bm (tx (encB m)) (by rw [tx_size]; exact hs)
    exact ⟨h2, h3, h4, db_store tw hq _ (by rw [tx_size]; omega)⟩
end
/-- Both disks, alike and within their bounds. -/
def BothM (w0 : World) (A B k : Nat) (w : World) : Prop := ∃ φ D M, Dk.Twin φ D M ∧ DBd qC k D ∧ MBd qC k M ∧ DataB 1048576 D ∧ Two w0 A B (fun _ => False) D M w
/-- Two new disks. -/
theorem bothM_new (w w1 : World) (h : At w w.heap.size Dk.new w1) :
    BothM w w.heap.size w1.heap.size 0 (w1.alloc (.cells #[.slice none 0 0, .slice none 0 0, .slice none 0 0, .slice none 0 0, .slice none 0 0, .int .i64 0] 32)) := by
  have hb := belowNew w1 (.cells #[.slice none 0 0, .slice none 0 0, .slice none 0 0, .slice none 0 0, .slice none 0 0, .int .i64 0] 32)
  have hsz : (w1.alloc (.cells #[.slice none 0 0, .slice none 0 0, .slice none 0 0, .slice none 0 0, .slice none 0 0, .int .i64 0] 32)).heap.size = w1.heap.size + 1 := by show (w1.heap.push _).size = _; simp
  refine ⟨id, Dk.new, ⟨[], [], [], 0, []⟩, Twin.new, ⟨Nat.zero_le _, Nat.zero_le _, by decide, by decide, fun f hf => (by cases hf), fun f hf => (by cases hf)⟩, ⟨Nat.zero_le _, fun f hf => (by cases hf), Nat.zero_le _⟩, fun f hf => (by cases hf), fun b => b = w1.heap.size, ?_, ?_, fun b hb => ⟨by rw [hb]; exact h.size, fun c => c⟩⟩
  · exact (AtB.of h).add hb (fun b hb => by
      rcases hb with rfl | hb
      · exact .inr ⟨Nat.le_refl _, by rw [hsz]; omega⟩
      · exact hb.elim)
  · refine ⟨_, _, _, _, _, [], heapLast w1 _, World.ownsRow_nil _ _ _ _, .inl ⟨rfl, none, 0, rfl⟩, .inl ⟨rfl, none, 0, rfl⟩, .inl ⟨rfl, none, 0, rfl⟩, rfl, .inl ⟨rfl, none, 0, rfl⟩, fun v hv g hg => ?_, fun g hg => (by cases hg), rfl, fun b hb => by rw [hb, hsz]; omega⟩
    rcases hv with rfl | rfl | rfl | rfl <;> cases hg
section
variable {w0 w : World} {A B k : Nat}
theorem BothM.below (h : BothM w0 A B k w) : Below w0.heap.size w0 w := let ⟨_, _, _, _, _, _, _, h⟩ := h; h.below
theorem BothM.others (h : BothM w0 A B k w) {w' : World} (hb : Below w.heap.size w w') : BothM w0 A B k w' := let ⟨φ, D, M, h1, h2, h3, h4, h5⟩ := h; ⟨φ, D, M, h1, h2, h3, h4, h5.others hb⟩
theorem BothM.same (h : BothM w0 A B k w) (hk : k ≤ 1048577) (G : Gh w) : Calls Tryz.prog 18 #[pD A, pD B] w fun e w' => e = .returned (.bool true) ∧ BothM w0 A B k w' ∧ Below w.heap.size w w' :=
  let ⟨φ, D, M, tw, b, bm, hq, h5⟩ := h; (dsame_any h5 tw b bm hk hq G).mono fun _ _ ⟨he, hb⟩ => ⟨he, h.others hb, hb⟩
/-- The plan that both are given. -/
theorem BothM.plan (h : BothM w0 A B k w) (p : Option Addr) (c : Nat) (l : List (Int × Int × Int)) (hl : FltR w0 (.slice p l.length c) l) (ho : ∀ f ∈ l, fltOk f) :
    ∃ (E : Int) (Q : World → Prop), (Calls Tryz.prog 14 #[pD A, .slice p l.length c] w fun e w' => e = .returned (.int .i64 E) ∧ Q w') ∧
      ∀ W, Q W → Calls Tryz.prog 15 #[pD B, .slice p l.length c] W fun e w' => e = .returned (.int .i64 E) ∧ BothM w0 A B (k + 1) w' := by
  obtain ⟨φ, D, M, tw, b, bm, hq, h5⟩ := h
  obtain ⟨b', m'⟩ := bd_plan b bm l (fun z h => planOk_mays _ z h)
  have hq' : DataB 1048576 (planD D l).2 := by
    unfold planD
    split
    · exact hq
    split <;> exact hq
  have hlo : ∀ g, (Value.slice p l.length c).ownBlock = some g → l = [] ∨ g < w0.heap.size := fun g hg => by
    rcases hl with ⟨h, _⟩ | ⟨g', off, c', e, hg', _⟩
    · exact .inl h
    · injection e with e1 e2 e3
      subst e1
      have : g' = g := by simpa [Value.ownBlock] using hg
      exact .inr (by omega)
  refine ⟨(planD D l).1, Two w0 A B (fun _ => False) (planD D l).2 M, (h5.prog fun X _ a => a.planOld p c l (faultsAt_flt (fltR_below hl h5.below)) hlo (fun f hf => (ho f hf).1)).mono fun _ _ ⟨he, k1, _⟩ => ⟨he, k1⟩, fun W hW => ?_⟩
  exact (hW.rPlan tw p c l (faultsAt_flt (fltR_below hl hW.below))).mono fun _ _ ⟨he, k1, _⟩ => ⟨he, φ, _, _, (two_plan tw l).2, b', m', hq', k1⟩
/-- A manifest stored on both. -/
theorem BothM.store (h : BothM w0 A B k w) (hk : k + 6 ≤ 1048577) (m : Mn) (v : Value) (hv : ∀ W, Below w0.heap.size w0 W → MnAt W v m) (hm : Small m) (G : Gh w) :
    ∃ (E : Int) (Q : World → Prop), (Calls Tryz.prog 16 #[pD A, v] w fun e w' => e = .returned (.int .i64 E) ∧ Q w') ∧
      (∀ W, Q W → Calls Tryz.prog 17 #[pD B, v] W fun e w' => e = .returned (.int .i64 E) ∧ BothM w0 A B (k + 6) w') ∧ ∀ W, Q W → Below w0.heap.size w0 W := by
  obtain ⟨φ, D, M, tw, b, bm, hq, h5⟩ := h
  obtain ⟨⟨ψ, t⟩, b', m', hq'⟩ := two_storeA tw b bm hq m
  refine ⟨(storeA D m).1, Two w0 A B (fun _ => False) (storeA D m).2 M, pStore h5 tw b bm hk m v (hv _ h5.below) hm G, fun W hW => ?_, fun W hW => hW.below⟩
  exact (rStore hW tw b bm hk m v (hv _ hW.below) hm).mono fun _ _ ⟨he, k1⟩ => ⟨he, ψ, _, _, t, b', m', hq', k1⟩
/-- A crash of both. -/
theorem BothM.crash (h : BothM w0 A B k w) (hk : k ≤ 1048577) (n : Int) (u : Value) (l : List Int) (hc : CrashIn w0 n u l) :
    ∃ Q : World → Prop, (Calls Tryz.prog 19 #[pD A, .agg #[.int .i64 n, u]] w fun e w' => e = .returned (.tuple #[]) ∧ Q w') ∧
      (∀ W, Q W → Calls Tryz.prog 20 #[pD B, .agg #[.int .i64 n, u]] W fun e w' => e = .returned (.tuple #[]) ∧ BothM w0 A B (k + 1) w') ∧ ∀ W, Q W → Below w0.heap.size w0 W := by
  obtain ⟨φ, D, M, tw, b, bm, hq, h5⟩ := h
  have hkk : max n 0 = (((max n 0).toNat : Nat) : Int) := by omega
  obtain ⟨ψ, t⟩ := tw.crash (max n 0).toNat l
  obtain ⟨b', m'⟩ := bd_crash b bm tw (max n 0).toNat l
  refine ⟨Two w0 A B (fun _ => False) (D.crash (max n 0).toNat l) M, (h5.pCrash b hk n _ hkk u l (ints_below hc.row h5.below) hc.len hc.fits hc.own).mono fun _ _ ⟨he, k1, _⟩ => ⟨he, k1⟩, fun W hW => ?_, fun W hW => hW.below⟩
  exact (hW.rCrash b bm tw hk (by decide) n _ hkk u l (ints_below hc.row hW.below) hc.len).mono fun _ _ ⟨he, k1, _⟩ => ⟨he, ψ, _, _, t, b', m', db_crash hq _ _, k1⟩
end
end Mf
end Go.Proofs.YtkbdokakoapooaaGreatDoor
