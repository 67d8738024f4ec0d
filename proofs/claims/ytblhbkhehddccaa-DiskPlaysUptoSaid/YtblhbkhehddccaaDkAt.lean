/- The calls of package disk for a law that holds one disk of its own: what each answers, and what the disk holds then. Conditions: those that each theorem names. -/
import Derived.Test.YtblhbkhehddccaaDkCrash
namespace Go.Proofs.Ytblhbkhehddccaa
set_option linter.unusedVariables false
open Go.RowKit Dk

/-- The disk at A, made since w0, holds D; what lay at w0 is as it was. -/
def At (w0 : World) (A : Nat) (D : DSt) (w : World) : Prop := ∃ ρ fb, DiskAt w A D ρ fb ∧ (∀ b, b < w0.heap.size → ρ b = (0, 0)) ∧ Below w0.heap.size w0 w
section
variable {w0 w : World} {A : Nat} {D : DSt}
theorem At.below (h : At w0 A D w) : Below w0.heap.size w0 w := let ⟨_, _, _, _, hb⟩ := h; hb
theorem At.size (h : At w0 A D w) : w0.heap.size ≤ w.heap.size := h.below.size
theorem At.alloc (h : At w0 A D w) (o : Obj) : At w0 A D (w.alloc o) := let ⟨ρ, fb, h1, h2, h3⟩ := h; ⟨ρ, fb, h1.alloc o, h2, h3.alloc h3.size o⟩
theorem At.others (h : At w0 A D w) {w' : World} (hb : Below w.heap.size w w') : At w0 A D w' := by
  obtain ⟨ρ, fb, h1, h2, h3⟩ := h
  exact ⟨ρ, fb, h1.others (Fr.others hb.os hb.tape hb.output hb.size (fun b hlt _ => hb.block b hlt) h1.out), h2, h3.trans (hb.mono h3.size)⟩
theorem at_kept {ρ : Nat → Nat × Nat} {fb : List Nat} (h : DiskAt w A D ρ fb) (hl : ∀ b, b < w0.heap.size → ρ b = (0, 0)) (hb : Below w0.heap.size w0 w) {D' : DSt} {w' : World} (k : Kept w A D' ρ w') : At w0 A D' w' := by
  obtain ⟨ρ', fb', h1, h2⟩ := k
  exact ⟨ρ', fb', h1, fun b hlt => h2.stay b (Nat.lt_of_lt_of_le hlt hb.size) (hl b hlt), hb.trans (h2.below hl hb.size)⟩
theorem at_new (w : World) : Calls Try.prog 4 #[] w fun e w' => e = .returned (.pointer (some ⟨w.heap.size, 0, none⟩)) ∧ At w w.heap.size Dk.new w' :=
  (new_any w).mono fun e w' ⟨he, hw⟩ => ⟨he, by
    subst hw
    exact ⟨_, _, DiskAt.made w, fun b hb => by have : w.heap.size ≠ b := by omega
                                               simp [setR, noMarks, this], (Below.refl _ _).alloc (Nat.le_refl _) _⟩⟩
theorem At.steps (h : At w0 A D w) : Calls Try.prog 29 #[.pointer (some ⟨A, 0, none⟩)] w fun e w' => e = .returned (.int .i64 D.steps) ∧ w = w' :=
  let ⟨ρ, fb, h1, _, _⟩ := h; steps_any A D ρ fb w h1
def NamesR (L : List (Nm × Nat)) (e : Ending) : Prop := ∃ p c, e = .returned (.slice p L.length c)
theorem At.names (h : At w0 A D w) (hnm : D.names.length ≤ 1099511627776) : Calls Try.prog 27 #[.pointer (some ⟨A, 0, none⟩)] w fun e w' => NamesR D.names e ∧ At w0 A D w' :=
  let ⟨ρ, fb, h1, _, _⟩ := h; (names_any A D ρ fb w h1 hnm).mono fun _ _ ⟨p, c, he, _, hb⟩ => ⟨⟨p, c, he⟩, At.others h hb⟩
theorem At.read_some (h : At w0 A D w) (s : ByteArray) (hl : s.size ≤ maxLen) (hs : s.toList.isEmpty = false) (i : Nat) (f : FileC) (hg : nmGet D.names s = some i) (hf : D.files[i]? = some f) :
    Calls Try.prog 25 #[.pointer (some ⟨A, 0, none⟩), .string s] w fun e w' => e = .returned (.tuple #[.string ⟨f.data.toArray⟩, .int .i64 0]) ∧ w = w' :=
  let ⟨ρ, fb, h1, _, _⟩ := h; Go.Proofs.Ytblhbkhehddccaa.read_some A D ρ fb w h1 s hl hs i f hg hf
theorem At.read_none (h : At w0 A D w) (s : ByteArray) (hl : s.size ≤ maxLen) (hs : s.toList.isEmpty = false) (hg : nmGet D.names s = none) :
    Calls Try.prog 25 #[.pointer (some ⟨A, 0, none⟩), .string s] w fun e w' => e = .returned (.tuple #[.string ⟨#[]⟩, .int .i64 20]) ∧ w = w' :=
  let ⟨ρ, fb, h1, _, _⟩ := h; Go.Proofs.Ytblhbkhehddccaa.read_none A D ρ fb w h1 s hl hs hg
theorem At.remove_none (h : At w0 A D w) (s : ByteArray) (hl : s.size ≤ maxLen) (hs : s.toList.isEmpty = false) (hg : nmGet D.names s = none) :
    Calls Try.prog 16 #[.pointer (some ⟨A, 0, none⟩), .string s] w fun e w' => e = .returned (.int .i64 20) ∧ w = w' :=
  let ⟨ρ, fb, h1, _, _⟩ := h; Go.Proofs.Ytblhbkhehddccaa.remove_none A D ρ fb w h1 s hl hs hg
theorem At.syncNames (h : At w0 A D w) (h0 : 0 ≤ D.steps) (h1 : D.steps ≤ 4611686018427387904) (hm : D.hit = none) :
    Calls Try.prog 18 #[.pointer (some ⟨A, 0, none⟩)] w fun e w' => e = .returned (.int .i64 0) ∧ At w0 A (DSt.close D.tick) w' :=
  let ⟨ρ, fb, hd, hl, hb⟩ := h; (syncNames_miss A D ρ fb w hd h0 h1 hm).mono fun _ _ ⟨he, hk⟩ => ⟨he, at_kept hd hl hb hk.kept⟩
theorem At.sync (h : At w0 A D w) (h0 : 0 ≤ D.steps) (h1 : D.steps ≤ 4611686018427387904) (s : ByteArray) (hl : s.size ≤ maxLen) (hs : s.toList.isEmpty = false) (i : Nat) (f : FileC) (hg : nmGet D.names s = some i) (hf : D.files[i]? = some f) (hm : D.hit = none) :
    Calls Try.prog 12 #[.pointer (some ⟨A, 0, none⟩), .string s] w fun e w' => e = .returned (.int .i64 0) ∧ At w0 A { D.tick with files := D.files.set i (syncF f) } w' :=
  let ⟨ρ, fb, hd, hlo, hb⟩ := h; (sync_miss A D ρ fb w hd h0 h1 s hl hs i f hg hf hm).mono fun _ _ ⟨he, hk⟩ => ⟨he, at_kept hd hlo hb hk.kept⟩
theorem At.rename (h : At w0 A D w) (h0 : 0 ≤ D.steps) (h1 : D.steps ≤ 4611686018427387904) (hnm : D.names.length ≤ 1099511627776) (hop : D.opn.length ≤ 1099511627776)
    (s t : ByteArray) (hl : s.size ≤ maxLen) (hl' : t.size ≤ maxLen) (hs : s.toList.isEmpty = false) (ht : t.toList.isEmpty = false) (hst : (s.toList == t.toList) = false) (i : Nat) (hg : nmGet D.names s = some i) (hm : D.hit = none) :
    Calls Try.prog 14 #[.pointer (some ⟨A, 0, none⟩), .string s, .string t] w fun e w' => e = .returned (.int .i64 0) ∧ At w0 A (D.tick.relink [(s, none), (t, some i)]) w' :=
  let ⟨ρ, fb, hd, hlo, hb⟩ := h; (rename_miss A D ρ fb w hd h0 h1 hnm hop s t hl hl' hs ht hst i hg hm).mono fun _ _ ⟨he, hk⟩ => ⟨he, at_kept hd hlo hb hk.kept⟩
theorem At.write_new (h : At w0 A D w) (h0 : 0 ≤ D.steps) (h1 : D.steps ≤ 4611686018427387904) (hnm : D.names.length ≤ 1099511627776) (hop : D.opn.length ≤ 1099511627776)
    (s t : ByteArray) (hl : s.size ≤ maxLen) (ht : t.size ≤ maxLen) (hs : s.toList.isEmpty = false) (hm : D.hit = none) (hg : nmGet D.names s = none) (hb : t.size ≤ 200000000000000) :
    Calls Try.prog 8 #[.pointer (some ⟨A, 0, none⟩), .string s, .string t] w fun e w' => e = .returned (.tuple #[.int .i64 t.size, .int .i64 0]) ∧ At w0 A { more D.tick s with files := (more D.tick s).files.set D.files.length (FileC.mk t.data.toList 0) } w' :=
  let ⟨ρ, fb, hd, hlo, hbl⟩ := h; (Go.Proofs.Ytblhbkhehddccaa.write_new A D ρ fb w hd h0 h1 hnm hop s t hl ht hs hm hg hb).mono fun _ _ ⟨he, hk⟩ => ⟨he, at_kept hd hlo hbl hk⟩
theorem At.write_old (h : At w0 A D w) (h0 : 0 ≤ D.steps) (h1 : D.steps ≤ 4611686018427387904) (s t : ByteArray) (hl : s.size ≤ maxLen) (ht : t.size ≤ maxLen) (hs : s.toList.isEmpty = false) (hm : D.hit = none)
    (i : Nat) (f : FileC) (hg : nmGet D.names s = some i) (hf : D.files[i]? = some f) (hb : f.data.length + t.size ≤ 200000000000000) :
    Calls Try.prog 8 #[.pointer (some ⟨A, 0, none⟩), .string s, .string t] w fun e w' => e = .returned (.tuple #[.int .i64 t.size, .int .i64 0]) ∧ At w0 A { D.tick with files := D.files.set i { f with data := f.data ++ t.data.toList } } w' :=
  let ⟨ρ, fb, hd, hlo, hbl⟩ := h; (Go.Proofs.Ytblhbkhehddccaa.write_old A D ρ fb w hd h0 h1 s t hl ht hs hm i f hg hf hb).mono fun _ _ ⟨he, hk⟩ => ⟨he, at_kept hd hlo hbl hk⟩
theorem At.write_hit (h : At w0 A D w) (h0 : 0 ≤ D.steps) (h1 : D.steps ≤ 4611686018427387904) (s t : ByteArray) (hs : s.toList.isEmpty = false) (fa fk fn : Int) (hk : (fk != 2) = true) (hm : D.hit = some (fa, fk, fn)) :
    Calls Try.prog 8 #[.pointer (some ⟨A, 0, none⟩), .string s, .string t] w fun e w' => e = .returned (.tuple #[.int .i64 0, .int .i64 (hitErr (fa, fk, fn))]) ∧ At w0 A D.tick w' :=
  let ⟨ρ, fb, hd, hlo, hbl⟩ := h; (Go.Proofs.Ytblhbkhehddccaa.write_hit A D ρ fb w hd h0 h1 s t hs fa fk fn hk hm).mono fun _ _ ⟨he, hk⟩ => ⟨he, at_kept hd hlo hbl hk⟩
theorem At.short_new (h : At w0 A D w) (h0 : 0 ≤ D.steps) (h1 : D.steps ≤ 4611686018427387904) (hnm : D.names.length ≤ 1099511627776) (hop : D.opn.length ≤ 1099511627776)
    (s t : ByteArray) (hl : s.size ≤ maxLen) (ht : t.size ≤ maxLen) (hs : s.toList.isEmpty = false) (fa : Int) (k : Nat) (hk : k ≤ t.size) (hm : D.hit = some (fa, 2, (k : Int))) (hg : nmGet D.names s = none) (hb : t.size ≤ 200000000000000) :
    Calls Try.prog 8 #[.pointer (some ⟨A, 0, none⟩), .string s, .string t] w fun e w' => e = .returned (.tuple #[.int .i64 k, .int .i64 22]) ∧ At w0 A { more D.tick s with files := (more D.tick s).files.set D.files.length (FileC.mk (t.data.toList.take k) 0) } w' :=
  let ⟨ρ, fb, hd, hlo, hbl⟩ := h; (Go.Proofs.Ytblhbkhehddccaa.short_new A D ρ fb w hd h0 h1 hnm hop s t hl ht hs fa k hk hm hg hb).mono fun _ _ ⟨he, hk⟩ => ⟨he, at_kept hd hlo hbl hk⟩
theorem At.short_new_all (h : At w0 A D w) (h0 : 0 ≤ D.steps) (h1 : D.steps ≤ 4611686018427387904) (hnm : D.names.length ≤ 1099511627776) (hop : D.opn.length ≤ 1099511627776)
    (s t : ByteArray) (hl : s.size ≤ maxLen) (ht : t.size ≤ maxLen) (hs : s.toList.isEmpty = false) (fa fn : Int) (hk : (t.size : Int) < fn) (hm : D.hit = some (fa, 2, fn)) (hg : nmGet D.names s = none) (hb : t.size ≤ 200000000000000) :
    Calls Try.prog 8 #[.pointer (some ⟨A, 0, none⟩), .string s, .string t] w fun e w' => e = .returned (.tuple #[.int .i64 t.size, .int .i64 22]) ∧ At w0 A { more D.tick s with files := (more D.tick s).files.set D.files.length (FileC.mk t.data.toList 0) } w' :=
  let ⟨ρ, fb, hd, hlo, hbl⟩ := h; (Go.Proofs.Ytblhbkhehddccaa.short_new_all A D ρ fb w hd h0 h1 hnm hop s t hl ht hs fa fn hk hm hg hb).mono fun _ _ ⟨he, hk⟩ => ⟨he, at_kept hd hlo hbl hk⟩
theorem At.crash (h : At w0 A D w) (hnm : D.names.length + D.opn.flatten.length ≤ 1099511627776) (hop : D.opn.length ≤ 1099511627776) (keep : Int) (kk : Nat) (hk : max keep 0 = (kk : Int))
    (v : Value) (bs : List Int) (hb : IntsAt w v bs) (hbl : bs.length ≤ maxLen) (hbr : ∀ x ∈ bs, -9223372036854775808 ≤ x ∧ x ≤ 9223372036854775807) (hbo : bs = [] ∨ ∀ g, v.ownBlock = some g → g < w0.heap.size) :
    Calls Try.prog 23 #[.pointer (some ⟨A, 0, none⟩), .agg #[.int .i64 keep, v]] w fun e w' => e = .returned (.tuple #[]) ∧ At w0 A (D.crash kk bs) w' :=
  let ⟨ρ, fb, hd, hlo, hbe⟩ := h; (crash_any A D ρ fb w hd hnm hop keep kk hk v bs hb hbl hbr (hbo.imp id (fun h g hg => hlo g (h g hg)))).mono fun _ _ ⟨he, hk⟩ => ⟨he, at_kept hd hlo hbe hk.kept⟩
/-- A crash whose list of bytes lies in a block that the law has just made. -/
theorem At.crash_own (h : At w0 A D w) (hnm : D.names.length + D.opn.flatten.length ≤ 1099511627776) (hop : D.opn.length ≤ 1099511627776) (keep : Int) (kk : Nat) (hk : max keep 0 = (kk : Int)) (x : Int) (hx : -9223372036854775808 ≤ x ∧ x ≤ 9223372036854775807) :
    Calls Try.prog 23 #[.pointer (some ⟨A, 0, none⟩), .agg #[.int .i64 keep, .slice (some ⟨w.heap.size, 0, none⟩) 1 1]] (w.alloc (.cells #[.int .i64 x] 3)) fun e w' => e = .returned (.tuple #[]) ∧ At w0 A (D.crash kk [x]) w' := by
  obtain ⟨ρ, fb, hd, hlo, hbe⟩ := h
  have hi : IntsAt (w.alloc (.cells #[.int .i64 x] 3)) (.slice (some ⟨w.heap.size, 0, none⟩) 1 1) [x] :=
    .inr ⟨w.heap.size, 0, 1, rfl, by simp, fun W hW j hj => by
      have : W.heap[w.heap.size]? = some (.cells #[.int .i64 x] 3 (0, 0)) := hW.trans (heap_alloc_new w _)
      have hj0 : j = 0 := by simpa using hj
      subst hj0
      simp [World.cell?, this]⟩
  exact (crash_any A D ρ fb _ (hd.alloc _) hnm hop keep kk hk _ [x] hi (by unfold maxLen; simp) (by simpa using hx) (.inr fun g hg => by
    have : w.heap.size = g := by simpa [Value.ownBlock] using hg
    exact hd.out g (by omega))).mono fun _ _ ⟨he, hk⟩ => ⟨he, at_kept (hd.alloc _) hlo (hbe.alloc hbe.size _) hk.kept⟩
theorem fault_row (w : World) (f : Int × Int × Int) : FaultsAt (w.alloc (.cells #[.int .i64 f.1, .int .i64 f.2.1, .int .i64 f.2.2] 63)) (some ⟨w.heap.size, 0, none⟩) 1 [f] :=
  ⟨by simp [faultCells], .inr ⟨w.heap.size, 1, _, rfl, Nat.zero_le _, heap_alloc_new w _, Nat.le_refl _, by decide, rfl, by simp [faultCells]⟩⟩
theorem At.plan_one (h : At w0 A D w) (f : Int × Int × Int) (hp : planOk D.steps [f] = true) (hf : -9223372036854775808 ≤ f.1 ∧ f.1 ≤ 9223372036854775807) :
    Calls Try.prog 21 #[.pointer (some ⟨A, 0, none⟩), .slice (some ⟨w.heap.size, 0, none⟩) 1 1] (w.alloc (.cells #[.int .i64 f.1, .int .i64 f.2.1, .int .i64 f.2.2] 63)) fun e w' => e = .returned (.int .i64 0) ∧ At w0 A { D with plan := [f] } w' := by
  obtain ⟨ρ, fb, hd, hlo, hbe⟩ := h
  exact (plan_good A D ρ fb _ (hd.alloc _) _ 1 [f] (fault_row w f) (fun g hg => by
    have : w.heap.size = g := by simpa [Value.ownBlock] using hg
    exact hd.out g (by omega)) (by simp) hp (by simpa using hf)).mono fun _ _ ⟨he, hk⟩ => ⟨he, at_kept (hd.alloc _) hlo (hbe.alloc hbe.size _) hk.kept⟩
theorem At.plan_bad_one (h : At w0 A D w) (f : Int × Int × Int) (hp : planOk D.steps [f] = false) :
    Calls Try.prog 21 #[.pointer (some ⟨A, 0, none⟩), .slice (some ⟨w.heap.size, 0, none⟩) 1 1] (w.alloc (.cells #[.int .i64 f.1, .int .i64 f.2.1, .int .i64 f.2.2] 63)) fun e w' => e = .returned (.int .i64 1) ∧ At w0 A D w' := by
  have h' := h.alloc (.cells #[.int .i64 f.1, .int .i64 f.2.1, .int .i64 f.2.2] 63)
  obtain ⟨ρ, fb, hd, hlo, hbe⟩ := h
  exact (plan_bad A D ρ fb _ (hd.alloc _) _ 1 [f] (fault_row w f) (by simp) hp).mono fun _ _ ⟨he, hk⟩ => ⟨he, h'.others hk⟩
end
end Go.Proofs.Ytblhbkhehddccaa
