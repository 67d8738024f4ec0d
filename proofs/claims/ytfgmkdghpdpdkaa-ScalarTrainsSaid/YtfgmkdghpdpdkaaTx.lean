/- Texts and their bytes as lists. -/
import Derived.Test.YtfgmkdghpdpdkaaProg
import Derived.Lib.Hide
namespace Go.Proofs.Ytfgmkdghpdpdkaa
set_option linter.unusedVariables false
open Go
def tx (l : List UInt8) : ByteArray := ⟨l.toArray⟩
theorem tx_list (l : List UInt8) : (tx l).data.toList = l := by simp [tx]
theorem tx_of (s : ByteArray) : tx s.data.toList = s := by cases s; simp [tx]
theorem tx_size (l : List UInt8) : (tx l).size = l.length := by show l.toArray.size = _; simp
theorem ln (s : ByteArray) : s.data.toList.length = s.size := Array.length_toList
theorem by_ext {a b : ByteArray} (h : a.data.toList = b.data.toList) : a = b := by rw [← tx_of a, ← tx_of b, h]
theorem app_list (a b : ByteArray) : (a ++ b).data.toList = a.data.toList ++ b.data.toList := by simp [ByteArray.data_append]
theorem ext_any (s : ByteArray) (a b : Nat) : (s.extract a b).data.toList = (s.data.toList.drop a).take (b - a) := by
  rw [ByteArray.data_extract, Array.toList_extract, List.extract_eq_take_drop]
theorem tx_head (l : List UInt8) (n : Nat) : (tx l).extract 0 n = tx (l.take n) := by
  apply by_ext; rw [ext_any, tx_list, tx_list]; simp
theorem tx_tail (l : List UInt8) (n : Nat) : (tx l).extract n l.length = tx (l.drop n) := by
  apply by_ext; rw [ext_any, tx_list, tx_list]; rw [List.take_of_length_le (by rw [List.length_drop]; omega)]
end Go.Proofs.Ytfgmkdghpdpdkaa
