/- The calls of Go's library that http's reader makes, in the words of its plain data. Conditions: those that each theorem names. -/
import Derived.Test.YtihcihpndckfjabGreatDoorHtWr
import Derived.Ground.NamesProg
import Derived.Shelf.Lay
import Derived.Shelf.Strings.SlTrimAscii
namespace Go.Proofs
open Go Go.RowKit Go.Shelf Go.Lib
shelf_lay Lays.n160 Nm 160 at Tryz as Tryz.laysTrim
end Go.Proofs
namespace Go.Proofs.YtihcihpndckfjabGreatDoor
set_option linter.unusedVariables false
open Go Go.RowKit Go.Shelf Ht

def ascS (s : ByteArray) : Prop := ∀ (j : Nat) (b : UInt8), s.data.toList[j]? = some b → b.toNat < 128
theorem ascS_of {s : ByteArray} (h : asc s.data.toList) : ascS s := fun j b hb => h b (List.mem_of_getElem? hb)
theorem cut_any (s : ByteArray) (sep : List UInt8) (w : World) (hs : s.size ≤ 16777215) (G : Gh w) :
    Calls Tryz.prog 15 #[.string s, .string (B sep)] w fun e w' => e = .returned (.tuple #[.string (B (Lib.cut s.data.toList sep).1), .string (B (Lib.cut s.data.toList sep).2.1), .bool (Lib.cut s.data.toList sep).2.2]) ∧ Below w.heap.size w w' := by
  obtain ⟨m, hm⟩ := G.mx
  have h := Tryz.strings_Cut s (B sep) m w (by omega) (hm w fun _ _ => rfl)
  rw [B_data] at h
  refine h.mono ?_
  rintro e w' ⟨rfl, n, rfl⟩
  exact ⟨rfl, below_drewN w n⟩
theorem anyc_any (s : ByteArray) (w : World) (hs : s.size ≤ 16777215) (ha : ascS s) :
    Calls Tryz.prog 43 #[.string s, .string ⟨#[10, 13, 0]⟩] w fun e w' => e = .returned (.bool (Lib.containsAny s.data.toList [10, 13, 0])) ∧ Below w.heap.size w w' :=
  Tryz.strings_ContainsAny_laid s ⟨#[10, 13, 0]⟩ w (by omega) (by decide) ha (ascii_of_all (by decide))
theorem lower_any (s : ByteArray) (w : World) (hs : s.size ≤ 16777215) (ha : ascS s) :
    Calls Tryz.prog 44 #[.string s] w fun e w' => e = .returned (.string (B (Lib.toLowerA s.data.toList))) ∧ Below w.heap.size w w' :=
  Tryz.strings_ToLower_ascii s w (by omega) ha
theorem trim_any (s : ByteArray) (w : World) (hs : s.size ≤ 16777215) :
    Calls Tryz.prog 45 #[.string s, .string ⟨#[32, 9]⟩] w fun e w' => e = .returned (.string (B (Lib.trimS s.data.toList [32, 9]))) ∧ Below w.heap.size w w' :=
  Any.strings_Trim_laid Tryz.laysTrim (by kernel_rfl) s ⟨#[32, 9]⟩ w (by omega) (by decide) (ascii_of_all (by decide))
set_option maxHeartbeats 1000000 in
theorem clone_any (s : ByteArray) (w : World) (hs : s.size ≤ 16777215) :
    Calls Tryz.prog 18 #[.string s] w fun e w' => e = .returned (.string s) ∧ Below w.heap.size w w' := by
  have HC := Lib.hid (Tryz.stringslite_Clone s w (by omega))
  go_enter Tryz.func18, Tryz.ntmps18
  go_wp2_with fail
  refine HC.out.mono ?_
  rintro e w1 ⟨rfl, hb⟩
  have HB := Lib.hid hb
  clear hb
  go_wp2_with fail
  go_ret
  exact ⟨rfl, HB.out⟩
theorem parse_dig : ∀ (l : List UInt8) (acc : Nat), l.all digB = true → (∃ u, Lib.parseUint10 acc l = .ok u) ∨ Lib.parseUint10 acc l = .range
  | [], acc, _ => .inl ⟨acc, rfl⟩
  | c :: r, acc, h => by
    simp only [List.all_cons, Bool.and_eq_true] at h
    simp only [Lib.parseUint10]
    rw [if_pos ((digB_iff c).1 h.1)]
    split
    · exact .inr rfl
    · split
      · exact .inr rfl
      · exact parse_dig r _ h.2
theorem atoi_dig (l : List UInt8) (h : l.all digB = true) (hn : l ≠ []) : (∃ v, Lib.atoiAll l = .ok v) ∨ Lib.atoiAll l = .range := by
  cases l with
  | nil => exact absurd rfl hn
  | cons c r =>
    have hc := (digB_iff c).1 (by simp at h; exact h.1)
    unfold Lib.atoiAll
    simp only [show ¬ (c.toNat = 43 ∨ c.toNat = 45) by omega, if_false, Lib.parseMag, List.cons_ne_nil]
    rcases parse_dig (c :: r) 0 h with ⟨u, hu⟩ | hu
    · rw [hu]
      simp only
      split
      · exact .inr rfl
      · split
        · exact .inr rfl
        · exact .inl ⟨_, rfl⟩
    · rw [hu]
      exact .inr rfl
theorem atoi_any (s : ByteArray) (w : World) (hs : s.size ≤ 16777215) (hd : s.data.toList.all digB = true) (hn : s.data.toList ≠ []) (G : Gh w) :
    Calls Tryz.prog 47 #[.string s] w fun e w' => ((∃ v, Lib.atoiAll s.data.toList = .ok v ∧ e = .returned (.tuple #[.int .i64 v, .nilIface])) ∨ ((∀ v, Lib.atoiAll s.data.toList ≠ .ok v) ∧ ∃ v t p, e = .returned (.tuple #[.int .i64 v, .iface t p]))) ∧ Below w.heap.size w w' := by
  rcases atoi_dig s.data.toList hd hn with ⟨v, h⟩ | h
  · refine (Tryz.strconv_Atoi_ok s (by omega) v h w).mono ?_
    rintro e w' ⟨rfl, hw⟩
    refine ⟨.inl ⟨v, h, rfl⟩, ?_⟩
    rcases hw with rfl | ⟨t, rfl⟩
    · exact Below.refl _ _
    · exact Lib.bytesWorld_below _ _ _
  · obtain ⟨t, p, hv⟩ := G.rng
    refine (Tryz.strconv_Atoi_range s (by omega) h _ w (hv w fun _ _ => rfl) (.inr ⟨t, p, rfl⟩)).mono ?_
    rintro e w' ⟨N, rfl, -, -, hb⟩
    exact ⟨.inr ⟨(fun v hv => by rw [h] at hv; cases hv), _, _, _, rfl⟩, hb⟩
end Go.Proofs.YtihcihpndckfjabGreatDoor
