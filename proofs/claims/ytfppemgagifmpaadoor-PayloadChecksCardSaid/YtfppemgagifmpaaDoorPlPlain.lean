/- Values, points, their names and bounds, as plain data. Conditions: none. -/
import Derived.Test.YtfppemgagifmpaaDoorProg
import Derived.Lib.Hide
namespace Go.Proofs.YtfppemgagifmpaaDoor
set_option linter.unusedVariables false
open Go
namespace Pl
abbrev Nm := ByteArray
structure Val where
  kind : Int
  n : Int
  text : Nm
structure Fld where
  name : Nm
  val : Val
structure Vec where
  name : Nm
  v : List Int
structure Pt where
  id : Int
  vecs : List Vec
  flds : List Fld
def digitB (c : UInt8) : Bool := decide ((48 : Int) ≤ c.toNat) && decide ((c.toNat : Int) ≤ 57)
def nameB (c : UInt8) : Bool := (decide ((97 : Int) ≤ c.toNat) && decide ((c.toNat : Int) ≤ 122)) || ((decide ((65 : Int) ≤ c.toNat) && decide ((c.toNat : Int) ≤ 90)) || (digitB c || decide ((c.toNat : Int) = 95)))
def isName (s : Nm) : Bool := match s.data.toList with
  | [] => false
  | c :: _ => decide (s.size ≤ 32) && (!digitB c && s.data.toList.all nameB)
def partB (n : Int) : Bool := decide ((-32768 : Int) ≤ n) && decide (n ≤ 32767)
def zeroB (n : Int) : Bool := decide (n = 0)
def metricB (n : Int) : Bool := decide (n = 1) || (decide (n = 2) || decide (n = 3))
end Pl
end Go.Proofs.YtfppemgagifmpaaDoor
