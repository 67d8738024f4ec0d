/- The disk of a law, beside blocks of others that stay: what each call answers and what the disk holds then. Conditions: those that each theorem names. -/
import Derived.Test.YtblhbkhehddccaaDkAt
namespace Go.Proofs.Ytblhbkhehddccaa
set_option linter.unusedVariables false
open Go Go.RowKit Dk
/-- The disk at A, made since w0, holds D; the blocks X are there and not its own. -/
def AtB (w0 : World) (A : Nat) (D : DSt) (X : Nat → Prop) (w : World) : Prop :=
  ∃ ρ fb, DiskAt w A D ρ fb ∧ (∀ b, b < w0.heap.size → ρ b = (0, 0)) ∧ (∀ b, X b → b < w.heap.size ∧ ρ b = (0, 0)) ∧ Below w0.heap.size w0 w
/-- These blocks stay. -/
def Stay (X : Nat → Prop) (w w' : World) : Prop := w.heap.size ≤ w'.heap.size ∧ ∀ b, X b → w'.heap[b]? = w.heap[b]?
theorem Stay.trans {X : Nat → Prop} {w w1 w2 : World} (h : Stay X w w1) (k : Stay X w1 w2) : Stay X w w2 := ⟨Nat.le_trans h.1 k.1, fun b hb => (k.2 b hb).trans (h.2 b hb)⟩
theorem Stay.refl (X : Nat → Prop) (w : World) : Stay X w w := ⟨Nat.le_refl _, fun _ _ => rfl⟩
section
variable {w0 w : World} {A : Nat} {D : DSt} {X : Nat → Prop}
theorem AtB.lt (h : AtB w0 A D X w) {b : Nat} (hb : X b) : b < w.heap.size := by obtain ⟨_, _, _, _, hx, _⟩ := h; exact (hx b hb).1
theorem AtB.below (h : AtB w0 A D X w) : Below w0.heap.size w0 w := let ⟨_, _, _, _, _, hb⟩ := h; hb
theorem AtB.of (h : At w0 A D w) : AtB w0 A D (fun _ => False) w := let ⟨ρ, fb, h1, h2, h3⟩ := h; ⟨ρ, fb, h1, h2, fun _ hb => hb.elim, h3⟩
theorem stay_below (h : AtB w0 A D X w) {w' : World} (hb : Below w.heap.size w w') : Stay X w w' := ⟨hb.size, fun b hx => hb.block b (h.lt hx)⟩
theorem AtB.others (h : AtB w0 A D X w) {w' : World} (hb : Below w.heap.size w w') : AtB w0 A D X w' := by
  obtain ⟨ρ, fb, h1, h2, h3, h4⟩ := h
  exact ⟨ρ, fb, h1.others (Fr.others hb.os hb.tape hb.output hb.size (fun b hlt _ => hb.block b hlt) h1.out), h2, fun b hx => ⟨Nat.lt_of_lt_of_le (h3 b hx).1 hb.size, (h3 b hx).2⟩, h4.trans (hb.mono h4.size)⟩
/-- New blocks come to those that stay. -/
theorem AtB.add (h : AtB w0 A D X w) {w' : World} (hb : Below w.heap.size w w') {Y : Nat → Prop} (hy : ∀ b, Y b → X b ∨ (w.heap.size ≤ b ∧ b < w'.heap.size)) : AtB w0 A D Y w' := by
  obtain ⟨ρ, fb, h1, h2, h3, h4⟩ := h
  refine ⟨ρ, fb, h1.others (Fr.others hb.os hb.tape hb.output hb.size (fun b hlt _ => hb.block b hlt) h1.out), h2, fun b hx => ?_, h4.trans (hb.mono h4.size)⟩
  rcases hy b hx with k | ⟨k1, k2⟩
  · exact ⟨Nat.lt_of_lt_of_le (h3 b k).1 hb.size, (h3 b k).2⟩
  · exact ⟨k2, h1.out b k1⟩
theorem AtB.alloc (h : AtB w0 A D X w) (o : Obj) : AtB w0 A D X (w.alloc o) := h.others ((Below.refl w.heap.size w).alloc (Nat.le_refl _) o)
/-- A store into a block that is not the disk's. -/
theorem AtB.set (h : AtB w0 A D X w) (B k : Nat) (v : Value) (hB : X B) (h0 : w0.heap.size ≤ B) : AtB w0 A D X (w.setCell ⟨B, k, none⟩ v) := by
  obtain ⟨ρ, fb, h1, h2, h3, h4⟩ := h
  have hs : (w.setCell ⟨B, k, none⟩ v).heap.size = w.heap.size := by simp [World.setCell]
  refine ⟨ρ, fb, h1.others (Fr.others rfl rfl rfl (by rw [hs]; exact Nat.le_refl _) (fun b hlt hn => ?_) h1.out), h2, fun b hx => ⟨by rw [hs]; exact (h3 b hx).1, (h3 b hx).2⟩, h4.setCell (p := ⟨B, k, none⟩) h0 v⟩
  exact heap_setCell_other _ _ _ _ (by intro e; exact hn (by have := (h3 B hB).2; simp only at e; rwa [← e] at this))
theorem atB_kept {ρ : Nat → Nat × Nat} {fb : List Nat} (h : DiskAt w A D ρ fb) (hl : ∀ b, b < w0.heap.size → ρ b = (0, 0)) (hx : ∀ b, X b → b < w.heap.size ∧ ρ b = (0, 0)) (hb : Below w0.heap.size w0 w) {D' : DSt} {w' : World} (k : Kept w A D' ρ w') : AtB w0 A D' X w' ∧ Stay X w w' := by
  obtain ⟨ρ', fb', h1, h2⟩ := k
  exact ⟨⟨ρ', fb', h1, fun b hlt => h2.stay b (Nat.lt_of_lt_of_le hlt hb.size) (hl b hlt), fun b hb' => ⟨Nat.lt_of_lt_of_le (hx b hb').1 h2.size, h2.stay b (hx b hb').1 (hx b hb').2⟩, hb.trans (h2.below hl hb.size)⟩,
    h2.size, fun b hb' => h2.block b (hx b hb').1 (fun c => c (hx b hb').2)⟩
theorem AtB.read_some (h : AtB w0 A D X w) (s : ByteArray) (hl : s.size ≤ maxLen) (hs : s.toList.isEmpty = false) (i : Nat) (f : FileC) (hg : nmGet D.names s = some i) (hf : D.files[i]? = some f) :
    Calls Try.prog 25 #[.pointer (some ⟨A, 0, none⟩), .string s] w fun e w' => e = .returned (.tuple #[.string ⟨f.data.toArray⟩, .int .i64 0]) ∧ w = w' :=
  let ⟨ρ, fb, h1, _, _, _⟩ := h; Go.Proofs.Ytblhbkhehddccaa.read_some A D ρ fb w h1 s hl hs i f hg hf
theorem AtB.read_none (h : AtB w0 A D X w) (s : ByteArray) (hl : s.size ≤ maxLen) (hs : s.toList.isEmpty = false) (hg : nmGet D.names s = none) :
    Calls Try.prog 25 #[.pointer (some ⟨A, 0, none⟩), .string s] w fun e w' => e = .returned (.tuple #[.string ⟨#[]⟩, .int .i64 20]) ∧ w = w' :=
  let ⟨ρ, fb, h1, _, _, _⟩ := h; Go.Proofs.Ytblhbkhehddccaa.read_none A D ρ fb w h1 s hl hs hg
theorem AtB.syncNames (h : AtB w0 A D X w) (h0 : 0 ≤ D.steps) (h1 : D.steps ≤ 4611686018427387904) (hm : D.hit = none) :
    Calls Try.prog 18 #[.pointer (some ⟨A, 0, none⟩)] w fun e w' => e = .returned (.int .i64 0) ∧ AtB w0 A (DSt.close D.tick) X w' ∧ Stay X w w' :=
  let ⟨ρ, fb, hd, hl, hx, hb⟩ := h; (syncNames_miss A D ρ fb w hd h0 h1 hm).mono fun _ _ ⟨he, hk⟩ => ⟨he, atB_kept hd hl hx hb hk.kept⟩
theorem AtB.sync (h : AtB w0 A D X w) (h0 : 0 ≤ D.steps) (h1 : D.steps ≤ 4611686018427387904) (s : ByteArray) (hl : s.size ≤ maxLen) (hs : s.toList.isEmpty = false) (i : Nat) (f : FileC) (hg : nmGet D.names s = some i) (hf : D.files[i]? = some f) (hm : D.hit = none) :
    Calls Try.prog 12 #[.pointer (some ⟨A, 0, none⟩), .string s] w fun e w' => e = .returned (.int .i64 0) ∧ AtB w0 A { D.tick with files := D.files.set i (syncF f) } X w' ∧ Stay X w w' :=
  let ⟨ρ, fb, hd, hlo, hx, hb⟩ := h; (sync_miss A D ρ fb w hd h0 h1 s hl hs i f hg hf hm).mono fun _ _ ⟨he, hk⟩ => ⟨he, atB_kept hd hlo hx hb hk.kept⟩
theorem AtB.write_new (h : AtB w0 A D X w) (h0 : 0 ≤ D.steps) (h1 : D.steps ≤ 4611686018427387904) (hnm : D.names.length ≤ 1099511627776) (hop : D.opn.length ≤ 1099511627776)
    (s t : ByteArray) (hl : s.size ≤ maxLen) (ht : t.size ≤ maxLen) (hs : s.toList.isEmpty = false) (hm : D.hit = none) (hg : nmGet D.names s = none) (hb : t.size ≤ 200000000000000) :
    Calls Try.prog 8 #[.pointer (some ⟨A, 0, none⟩), .string s, .string t] w fun e w' => e = .returned (.tuple #[.int .i64 t.size, .int .i64 0]) ∧ AtB w0 A { more D.tick s with files := (more D.tick s).files.set D.files.length (FileC.mk t.data.toList 0) } X w' ∧ Stay X w w' :=
  let ⟨ρ, fb, hd, hlo, hx, hbl⟩ := h; (Go.Proofs.Ytblhbkhehddccaa.write_new A D ρ fb w hd h0 h1 hnm hop s t hl ht hs hm hg hb).mono fun _ _ ⟨he, hk⟩ => ⟨he, atB_kept hd hlo hx hbl hk⟩
theorem AtB.write_old (h : AtB w0 A D X w) (h0 : 0 ≤ D.steps) (h1 : D.steps ≤ 4611686018427387904) (s t : ByteArray) (hl : s.size ≤ maxLen) (ht : t.size ≤ maxLen) (hs : s.toList.isEmpty = false) (hm : D.hit = none)
    (i : Nat) (f : FileC) (hg : nmGet D.names s = some i) (hf : D.files[i]? = some f) (hb : f.data.length + t.size ≤ 200000000000000) :
    Calls Try.prog 8 #[.pointer (some ⟨A, 0, none⟩), .string s, .string t] w fun e w' => e = .returned (.tuple #[.int .i64 t.size, .int .i64 0]) ∧ AtB w0 A { D.tick with files := D.files.set i { f with data := f.data ++ t.data.toList } } X w' ∧ Stay X w w' :=
  let ⟨ρ, fb, hd, hlo, hx, hbl⟩ := h; (Go.Proofs.Ytblhbkhehddccaa.write_old A D ρ fb w hd h0 h1 s t hl ht hs hm i f hg hf hb).mono fun _ _ ⟨he, hk⟩ => ⟨he, atB_kept hd hlo hx hbl hk⟩
theorem AtB.cut (h : AtB w0 A D X w) (h0 : 0 ≤ D.steps) (h1 : D.steps ≤ 4611686018427387904) (s : ByteArray) (n : Int) (hl : s.size ≤ maxLen) (hs : s.toList.isEmpty = false) (i : Nat) (f : FileC) (hg : nmGet D.names s = some i) (hf : D.files[i]? = some f) (hm : D.hit = none) (k : Nat) (hk : min (max n 0) (f.data.length : Int) = k) :
    Calls Try.prog 10 #[.pointer (some ⟨A, 0, none⟩), .string s, .int .i64 n] w fun e w' => e = .returned (.int .i64 0) ∧ AtB w0 A { D.tick with files := D.files.set i (f.cut k) } X w' ∧ Stay X w w' :=
  let ⟨ρ, fb, hd, hlo, hx, hb⟩ := h; (fcut_miss A D ρ fb w hd h0 h1 s n hl hs i f hg hf hm k hk).mono fun _ _ ⟨he, hk⟩ => ⟨he, atB_kept hd hlo hx hb hk.kept⟩
theorem AtB.crash (h : AtB w0 A D X w) (hnm : D.names.length + D.opn.flatten.length ≤ 1099511627776) (hop : D.opn.length ≤ 1099511627776) (keep : Int) (kk : Nat) (hk : max keep 0 = (kk : Int))
    (v : Value) (bs : List Int) (hb : IntsAt w v bs) (hbl : bs.length ≤ maxLen) (hbr : ∀ x ∈ bs, -9223372036854775808 ≤ x ∧ x ≤ 9223372036854775807) (hbo : bs = [] ∨ ∀ g, v.ownBlock = some g → g < w0.heap.size) :
    Calls Try.prog 23 #[.pointer (some ⟨A, 0, none⟩), .agg #[.int .i64 keep, v]] w fun e w' => e = .returned (.tuple #[]) ∧ AtB w0 A (D.crash kk bs) X w' ∧ Stay X w w' :=
  let ⟨ρ, fb, hd, hlo, hx, hbe⟩ := h; (crash_any A D ρ fb w hd hnm hop keep kk hk v bs hb hbl hbr (hbo.imp id (fun h g hg => hlo g (h g hg)))).mono fun _ _ ⟨he, hk⟩ => ⟨he, atB_kept hd hlo hx hbe hk.kept⟩
end
end Go.Proofs.Ytblhbkhehddccaa
