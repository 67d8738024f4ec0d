/- HTTP's requests and responses as plain data: what Parse, Write, Print and Reason answer. Conditions: none. -/
import Derived.RowKit
import Derived.Lib.IndexMore
import Derived.Lib.Case
import Derived.Lib.IndexAny
import Derived.Lib.SlTrimSet
import Derived.Lib.ItoaNum
import Derived.Lib.AtoiAll
import Derived.Lib.CutLaws
namespace Go.Proofs.YtihcihpndckfjabGreatDoor
namespace Ht
abbrev Bs := List UInt8
def capB (c : UInt8) : Bool := 65 ≤ c && c ≤ 90
def smallB (c : UInt8) : Bool := 97 ≤ c && c ≤ 122
def digB (c : UInt8) : Bool := 48 ≤ c && c ≤ 57
def visB (c : UInt8) : Bool := 33 ≤ c && c ≤ 126
def nameB (c : UInt8) : Bool := capB c || smallB c || digB c || c == 45
def asc (l : Bs) : Prop := ∀ b ∈ l, b.toNat < 128
def methodOk (l : Bs) : Bool := decide (l ≠ []) && decide (l.length ≤ 16) && l.all capB
def pathOk (l : Bs) : Bool := decide (l.head? = some 47) && l.all visB
def ver : Bs := [72, 84, 84, 80, 47, 49, 46, 49]
def crlf : Bs := [13, 10]
def hend : Bs := [13, 10, 13, 10]
def lenName : Bs := [99, 111, 110, 116, 101, 110, 116, 45, 108, 101, 110, 103, 116, 104]
def encName : Bs := [116, 114, 97, 110, 115, 102, 101, 114, 45, 101, 110, 99, 111, 100, 105, 110, 103]
def clen : Bs := [67, 111, 110, 116, 101, 110, 116, 45, 76, 101, 110, 103, 116, 104, 58, 32]
def ctype : Bs := [67, 111, 110, 116, 101, 110, 116, 45, 84, 121, 112, 101, 58, 32, 97, 112, 112, 108, 105, 99, 97, 116, 105, 111, 110, 47, 106, 115, 111, 110]
def lenEnd : Lib.NumEnd Int → Int × Int
  | .ok n => if 262144 < n then (0, 41) else (n, 0)
  | _ => (0, 41)
def lengthOf (v : Bs) : Int × Int :=
  if v = [] ∨ v.all digB = false ∨ (1 < v.length ∧ v.head? = some 48) then (0, 40)
  else lenEnd (Lib.atoiAll v)
def cutLine (l : Bs) : Bs × Bs × Bool :=
  (Lib.toLowerA (Lib.cut l [58]).1, Lib.trimS (Lib.cut l [58]).2.1 [32, 9], (Lib.cut l [58]).2.2 && decide ((Lib.cut l [58]).1 ≠ []) && (Lib.cut l [58]).1.all nameB && !Lib.containsAny (Lib.cut l [58]).2.1 [10, 13, 0])
/-- What the lines say behind the first one; behind so many there is none. -/
def sizeF : Nat → Int → Bool → Bs → Int × Int
  | 0, size, _, _ => (size, 0)
  | k + 1, size, told, l =>
    if (Lib.cut l crlf).1 = [] then (size, 0)
    else if (cutLine (Lib.cut l crlf).1).2.2 = false ∨ (cutLine (Lib.cut l crlf).1).1 = encName ∨ ((cutLine (Lib.cut l crlf).1).1 = lenName ∧ told = true) then (0, 40)
    else if (cutLine (Lib.cut l crlf).1).1 = lenName then
      if (lengthOf (cutLine (Lib.cut l crlf).1).2.1).2 ≠ 0 then (0, (lengthOf (cutLine (Lib.cut l crlf).1).2.1).2)
      else sizeF k (lengthOf (cutLine (Lib.cut l crlf).1).2.1).1 true (Lib.cut l crlf).2.1
    else sizeF k size told (Lib.cut l crlf).2.1
def bodySize (l : Bs) : Int × Int := sizeF (l.length + 1) 0 false l
def cutFirst (l : Bs) : Bs × Bs × Bool :=
  ((Lib.cut l [32]).1, (Lib.cut (Lib.cut l [32]).2.1 [32]).1,
    methodOk (Lib.cut l [32]).1 && pathOk (Lib.cut (Lib.cut l [32]).2.1 [32]).1 && decide ((Lib.cut (Lib.cut l [32]).2.1 [32]).2.1 = ver))
/-- The head, where there is one; else all. -/
def headOf (s : Bs) : Bs := s.take (s.length - (Lib.cut s hend).2.1.length)
/-- Method, path, body; the error. -/
def parse (s : Bs) : (Bs × Bs × Bs) × Int :=
  if 4096 < (headOf s).length then (([], [], []), 41)
  else if (Lib.cut s hend).2.2 = false then (([], [], []), 40)
  else if (cutFirst (Lib.cut (headOf s) crlf).1).2.2 = false then (([], [], []), 40)
  else if (bodySize (Lib.cut (headOf s) crlf).2.1).2 ≠ 0 then (([], [], []), (bodySize (Lib.cut (headOf s) crlf).2.1).2)
  else if ((Lib.cut s hend).2.1.length : Int) ≠ (bodySize (Lib.cut (headOf s) crlf).2.1).1 then (([], [], []), 40)
  else (((cutFirst (Lib.cut (headOf s) crlf).1).1, (cutFirst (Lib.cut (headOf s) crlf).1).2.1, (Lib.cut s hend).2.1), 0)
def headW (m p b : Bs) : Bs := m ++ [32] ++ p ++ [32] ++ ver ++ crlf ++ clen ++ Lib.itoa b.length ++ hend
def write (m p b : Bs) : Bs × Int :=
  if methodOk m = false ∨ pathOk p = false then ([], 40)
  else if 262144 < b.length ∨ 4096 < (headW m p b).length then ([], 41)
  else (headW m p b ++ b, 0)
def reason (n : Int) : Bs :=
  if n = 200 then [79, 75]
  else if n = 400 then [66, 97, 100, 32, 82, 101, 113, 117, 101, 115, 116]
  else if n = 404 then [78, 111, 116, 32, 70, 111, 117, 110, 100]
  else if n = 405 then [77, 101, 116, 104, 111, 100, 32, 78, 111, 116, 32, 65, 108, 108, 111, 119, 101, 100]
  else if n = 413 then [67, 111, 110, 116, 101, 110, 116, 32, 84, 111, 111, 32, 76, 97, 114, 103, 101]
  else if n = 422 then [85, 110, 112, 114, 111, 99, 101, 115, 115, 97, 98, 108, 101, 32, 67, 111, 110, 116, 101, 110, 116]
  else if n = 500 then [73, 110, 116, 101, 114, 110, 97, 108, 32, 83, 101, 114, 118, 101, 114, 32, 69, 114, 114, 111, 114]
  else if n = 507 then [73, 110, 115, 117, 102, 102, 105, 99, 105, 101, 110, 116, 32, 83, 116, 111, 114, 97, 103, 101]
  else []
def print (n : Int) (b : Bs) : Bs := ver ++ [32] ++ Lib.itoa n ++ [32] ++ reason n ++ crlf ++ ctype ++ crlf ++ clen ++ Lib.itoa b.length ++ hend ++ b
/-- A text of these bytes. -/
def B (l : Bs) : ByteArray := ⟨l.toArray⟩
theorem B_data (l : Bs) : (B l).data.toList = l := by simp [B]
theorem B_of (s : ByteArray) : B s.data.toList = s := by cases s; simp [B]
theorem B_append (a b : Bs) : B a ++ B b = B (a ++ b) := by
  apply ByteArray.ext
  show (B a ++ B b).data = _
  simp [B, ByteArray.append_eq]
theorem B_size (l : Bs) : (B l).size = l.length := by simp [B, ByteArray.size]
theorem cut_len (s sep : Bs) : (Lib.cut s sep).1.length ≤ s.length ∧ (Lib.cut s sep).2.1.length ≤ s.length := by
  unfold Lib.cut
  split <;> simp <;> omega
theorem cut_rest_lt (s sep : Bs) (h : sep ≠ []) (hl : (Lib.cut s sep).1 ≠ []) : (Lib.cut s sep).2.1.length < s.length := by
  unfold Lib.cut at hl ⊢
  have hp : 0 < sep.length := List.length_pos_iff.2 h
  split
  · rename_i h0
    rw [if_pos h0] at hl
    have : s ≠ [] := by rintro rfl; simp at hl
    have := List.length_pos_iff.2 this
    simp only [List.length_drop]
    omega
  · rename_i h0
    rw [if_neg h0] at hl
    exact List.length_pos_iff.2 hl
end Ht
end Go.Proofs.YtihcihpndckfjabGreatDoor
