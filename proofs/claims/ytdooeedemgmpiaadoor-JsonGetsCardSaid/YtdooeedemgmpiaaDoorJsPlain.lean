/- JSON's values and texts as plain data: what a value is, when it may be, its text, and the reading of any text. Conditions: none. -/
import Derived.RowKit
import Derived.Lib.MapLaws
import Derived.Lib.ValidU
namespace Go.Proofs.YtdooeedemgmpiaaDoor
namespace Js

/-! ### values -/
inductive J where
  | mk (kind n : Int) (text : ByteArray) (names : List ByteArray) (list : List J)
def J.kind : J → Int | .mk k _ _ _ _ => k
def J.num : J → Int | .mk _ n _ _ _ => n
def J.text : J → ByteArray | .mk _ _ t _ _ => t
def J.names : J → List ByteArray | .mk _ _ _ ns _ => ns
def J.list : J → List J | .mk _ _ _ _ l => l
theorem J.eta (j : J) : J.mk j.kind j.num j.text j.names j.list = j := by cases j; rfl
def zero : J := .mk 0 0 ByteArray.empty [] []

mutual
def same : J → J → Bool
  | .mk k n t ns l, .mk k' n' t' ns' l' => decide (k = k') && decide (n = n') && decide (t = t') && decide (ns = ns') && sameAll l l'
def sameAll : List J → List J → Bool
  | [], [] => true
  | a :: l, b :: l' => same a b && sameAll l l'
  | _, _ => false
end
mutual
theorem same_iff : ∀ (a b : J), same a b = true ↔ a = b
  | .mk k n t ns l, .mk k' n' t' ns' l' => by
    have h := sameAll_iff l l'
    simp only [same, Bool.and_eq_true, decide_eq_true_eq, h, J.mk.injEq]
    constructor
    · rintro ⟨⟨⟨⟨a, b⟩, c⟩, d⟩, e⟩; exact ⟨a, b, c, d, e⟩
    · rintro ⟨a, b, c, d, e⟩; exact ⟨⟨⟨⟨a, b⟩, c⟩, d⟩, e⟩
theorem sameAll_iff : ∀ (l l' : List J), sameAll l l' = true ↔ l = l'
  | [], [] => by simp [sameAll]
  | [], _ :: _ => by simp [sameAll]
  | _ :: _, [] => by simp [sameAll]
  | a :: l, b :: l' => by simp only [sameAll, Bool.and_eq_true, same_iff a b, sameAll_iff l l', List.cons.injEq]
end

/-! ### bytes -/
abbrev Bs := List UInt8
def blankB (c : UInt8) : Bool := c == 32 || c == 9 || c == 10 || c == 13
def digB (c : UInt8) : Bool := 48 ≤ c && c ≤ 57
def firstB (c : UInt8) : Bool := c == 123 || c == 91 || c == 34 || c == 116 || c == 102 || c == 110 || c == 45 || digB c
def skipB (l : Bs) : Bs := l.dropWhile blankB

/-! ### runes -/
/-- Does a rune begin there? -/
def runeOk (l : Bs) : Bool := !(decide ((Lib.decodeL l).1 = 65533) && decide ((Lib.decodeL l).2 = 1))
def runeLen (l : Bs) : Nat := (Lib.decodeL l).2
def runeNo (l : Bs) : Nat := (Lib.decodeL l).1
def runes (s : ByteArray) : Bool := Lib.validD s.data.toList

/-! ### a reading -/
inductive R (α : Type) where
  | ok (a : α) (rest : Bs)
  | no (e : Int) (rest : Bs)
def R.rest {α : Type} : R α → Bs | .ok _ r => r | .no _ r => r
def R.err {α : Type} : R α → Int | .ok _ _ => 0 | .no e _ => e

def eJson : Int := 30
def eDeep : Int := 31
def eTwice : Int := 32
def eNumber : Int := 33

def word : Bs → Bs → R Unit
  | [], l => .ok () l
  | _ :: _, [] => .no eJson []
  | c :: w, d :: l => if d = c then word w l else .no eJson (d :: l)

/-- Digits, one at least. -/
def digits : Bs → R Unit
  | [] => .no eJson []
  | c :: l => if digB c then .ok () (l.dropWhile digB) else .no eJson (c :: l)
def natOf (l : Bs) : Nat := l.foldl (fun n c => n * 10 + (c.toNat - 48)) 0
def maxWhole : Int := 9007199254740991
def headIs (p : UInt8 → Bool) : Bs → Bool | [] => false | c :: _ => p c
/-- What stands behind the point, if there is one. -/
def fracB (l : Bs) : R Unit := if headIs (· == 46) l then digits l.tail else .ok () l
def expB (l : Bs) : R Unit :=
  if headIs (fun c => c == 101 || c == 69) l then digits (if headIs (fun c => c == 43 || c == 45) l.tail then l.tail.tail else l.tail) else .ok () l
/-- The sign, the digits ahead of a point, what follows. -/
def wholeB (l : Bs) : R Unit :=
  let l1 := if headIs (· == 45) l then l.tail else l
  if headIs (· == 48) l1 then .ok () l1.tail else digits l1
def number (l : Bs) : R J :=
  match wholeB l with
  | .no e r => .no e r
  | .ok _ l2 =>
    match fracB l2 with
    | .no e r => .no e r
    | .ok _ l3 =>
      match expB l3 with
      | .no e r => .no e r
      | .ok _ l4 =>
        let d := natOf (((if headIs (· == 45) l then l.tail else l)).take ((if headIs (· == 45) l then l.tail else l).length - l2.length))
        let n : Int := if headIs (· == 45) l then - (d : Int) else d
        if l4.length < l2.length ∨ n < -maxWhole ∨ maxWhole < n then .no eNumber l else .ok (.mk 3 n ByteArray.empty [] []) l2

/-! ### texts -/
def hexOf (c : UInt8) : Option Nat :=
  if digB c then some (c.toNat - 48)
  else if 97 ≤ c && c ≤ 102 then some (c.toNat - 87)
  else if 65 ≤ c && c ≤ 70 then some (c.toNat - 55)
  else none
def four : Bs → Option Nat
  | a :: b :: c :: d :: _ =>
    match hexOf a, hexOf b, hexOf c, hexOf d with
    | some x, some y, some z, some t => some (x * 4096 + y * 256 + z * 16 + t)
    | _, _, _, _ => none
  | _ => none
/-- The number of a backslash, a u and four digits. -/
def unit : Bs → Option Nat
  | 92 :: 117 :: l => four l
  | _ => none
/-- What the letter behind a backslash means. -/
def meant (c : UInt8) : Option Nat :=
  if c = 34 then some 34 else if c = 92 then some 92 else if c = 98 then some 8 else if c = 102 then some 12
  else if c = 110 then some 10 else if c = 114 then some 13 else if c = 116 then some 9 else if c = 47 then some 47 else none
/-- The rune that the escape at the head means, and its bytes. -/
def escape (l : Bs) : Option (Nat × Nat) :=
  match l with
  | _ :: c :: _ =>
    match meant c with
    | some v => some (v, 2)
    | none =>
      match unit l with
      | none => none
      | some v =>
        if v < 0xD800 ∨ 0xE000 ≤ v then some (v, 6)
        else
          match unit (l.drop 6) with
          | none => none
          | some u => if 0xDC00 ≤ v ∨ u < 0xDC00 ∨ 0xE000 ≤ u then none else some (0x10000 + (v - 0xD800) * 1024 + (u - 0xDC00), 12)
  | _ => none
def enc (v : Nat) : Bs := Lib.encodeRune v
/-- A text behind its quote; behind so many bytes there is none. -/
def textF : Nat → Bs → Bs → R ByteArray
  | _, _, [] => .no eJson []
  | 0, _, c :: l => .no eJson (c :: l)
  | k + 1, out, c :: l =>
    if c = 34 then .ok ⟨out.toArray⟩ l
    else if c = 92 then
      match escape (c :: l) with
      | none => .no eJson (c :: l)
      | some (v, n) => textF k (out ++ enc v) ((c :: l).drop n)
    else
      if runeOk (c :: l) = false ∨ runeNo (c :: l) < 32 then .no eJson (c :: l)
      else textF k (out ++ (c :: l).take (runeLen (c :: l))) ((c :: l).drop (runeLen (c :: l)))
def text (l : Bs) : R ByteArray := textF l.length [] l

/-! ### values -/
/-- What stands between brackets behind the first one's blanks: each by a call of one, which is told what came ahead of it. -/
def items {α : Type} (one : List α → Bs → R α) (close : UInt8) : Nat → List α → Bs → R (List α)
  | 0, _, l => .no eJson l
  | k + 1, acc, l =>
    match one acc l with
    | .no e r => .no e r
    | .ok a r =>
      match skipB r with
      | [] => .no eJson []
      | c :: r' => if c = close then .ok (acc ++ [a]) r' else if c = 44 then items one close k (acc ++ [a]) (skipB r') else .no eJson (c :: r')
def parts {α : Type} (one : List α → Bs → R α) (close : UInt8) (l : Bs) : R (List α) :=
  if headIs (· == close) (skipB l) then .ok [] (skipB l).tail else items one close (l.length + 1) [] (skipB l)
def pair (f : Bs → R J) (acc : List (ByteArray × J)) (l : Bs) : R (ByteArray × J) :=
  match l with
  | 34 :: l1 =>
    match text l1 with
    | .no e r => .no e r
    | .ok name r =>
      if (acc.any fun p => decide (p.1 = name)) = true then .no eTwice l
      else
        match skipB r with
        | 58 :: r' =>
          match f (skipB r') with
          | .no e q => .no e q
          | .ok j q => .ok (name, j) q
        | r' => .no eJson r'
  | _ => .no eJson l
/-- A value, where so many may still be within one another. -/
def value : Nat → Bs → R J
  | d, l =>
    match l with
    | [] => .no eJson []
    | c :: l1 =>
      if firstB c = false then .no eJson l
      else
        match d with
        | 0 => .no eDeep l
        | d + 1 =>
          if c = 123 then
            match parts (pair (value d)) 125 l1 with
            | .no e r => .no e r
            | .ok ps r => .ok (.mk 6 0 ByteArray.empty (ps.map (·.1)) (ps.map (·.2))) r
          else if c = 91 then
            match parts (fun _ => value d) 93 l1 with
            | .no e r => .no e r
            | .ok ls r => .ok (.mk 5 0 ByteArray.empty [] ls) r
          else if c = 34 then
            match text l1 with
            | .no e r => .no e r
            | .ok t r => .ok (.mk 4 0 t [] []) r
          else if c = 116 then
            match word [116, 114, 117, 101] l with
            | .no e r => .no e r
            | .ok _ r => .ok (.mk 2 1 ByteArray.empty [] []) r
          else if c = 102 then
            match word [102, 97, 108, 115, 101] l with
            | .no e r => .no e r
            | .ok _ r => .ok (.mk 2 0 ByteArray.empty [] []) r
          else if c = 110 then
            match word [110, 117, 108, 108] l with
            | .no e r => .no e r
            | .ok _ r => .ok (.mk 1 0 ByteArray.empty [] []) r
          else number l
def whole (l : Bs) : R J :=
  match value 32 (skipB l) with
  | .no e r => .no e r
  | .ok j r => if skipB r = [] then .ok j [] else .no eJson (skipB r)
/-- The value, its place, the error. -/
def parse (s : ByteArray) : J × Int × Int :=
  match whole s.data.toList with
  | .ok j _ => (j, 0, 0)
  | .no e r => (zero, (s.size - r.length : Nat), e)

/-! ### what may be -/
def distinct : List ByteArray → Bool
  | [] => true
  | a :: l => !(l.any fun b => decide (b = a)) && distinct l
mutual
def formed : J → Bool
  | .mk k n t ns l =>
    if k = 1 then decide (n = 0) && decide (t = ByteArray.empty) && ns.isEmpty && l.isEmpty
    else if k = 2 then (decide (n = 0) || decide (n = 1)) && decide (t = ByteArray.empty) && ns.isEmpty && l.isEmpty
    else if k = 3 then decide (-maxWhole ≤ n) && decide (n ≤ maxWhole) && decide (t = ByteArray.empty) && ns.isEmpty && l.isEmpty
    else if k = 4 then decide (n = 0) && runes t && ns.isEmpty && l.isEmpty
    else if k = 5 then decide (n = 0) && decide (t = ByteArray.empty) && ns.isEmpty && formedAll l
    else if k = 6 then decide (n = 0) && decide (t = ByteArray.empty) && ns.all runes && distinct ns && decide (ns.length = l.length) && formedAll l
    else false
def formedAll : List J → Bool
  | [] => true
  | j :: l => formed j && formedAll l
end
mutual
def depth : J → Nat
  | .mk _ _ _ _ l => depthAll l + 1
def depthAll : List J → Nat
  | [] => 0
  | j :: l => max (depth j) (depthAll l)
end
def check (j : J) : Int := if formed j = false then eJson else if 32 < depth j then eDeep else 0

/-! ### texts of values -/
def hexD (n : Nat) : UInt8 := if n < 10 then UInt8.ofNat (48 + n) else UInt8.ofNat (87 + n)
/-- A byte as it is printed in quotes. -/
def esc (c : UInt8) : Bs :=
  if c = 34 then [92, 34] else if c = 92 then [92, 92] else if c = 8 then [92, 98] else if c = 12 then [92, 102]
  else if c = 10 then [92, 110] else if c = 13 then [92, 114] else if c = 9 then [92, 116]
  else if c < 32 then [92, 117, 48, 48, hexD (c.toNat / 16), hexD (c.toNat % 16)] else [c]
def quote (t : ByteArray) : Bs := [34] ++ t.data.toList.flatMap esc ++ [34]
def decF : Nat → Nat → Bs → Bs
  | 0, _, acc => acc
  | k + 1, n, acc => if n < 10 then UInt8.ofNat (48 + n) :: acc else decF k (n / 10) (UInt8.ofNat (48 + n % 10) :: acc)
def dec (n : Nat) : Bs := decF 20 n []
def decI (n : Int) : Bs := if n < 0 then 45 :: dec n.natAbs else dec n.natAbs
mutual
def print : J → Bs
  | .mk k n t ns l =>
    if k = 2 then (if n = 1 then [116, 114, 117, 101] else [102, 97, 108, 115, 101])
    else if k = 3 then decI n
    else if k = 4 then quote t
    else if k = 5 then [91] ++ printAll true [] l ++ [93]
    else if k = 6 then [123] ++ printAll true ns l ++ [125]
    else [110, 117, 108, 108]
def printAll : Bool → List ByteArray → List J → Bs
  | _, _, [] => []
  | first, ns, j :: l =>
    (if first then [] else [44]) ++ (match ns with | [] => [] | n :: _ => quote n ++ [58]) ++ print j ++ printAll false ns.tail l
end
def printed (j : J) : ByteArray × Int := if check j = 0 then (⟨(print j).toArray⟩, 0) else (ByteArray.empty, check j)

def getF : List ByteArray → List J → ByteArray → Option J
  | n :: ns, j :: l, x => if n = x then some j else getF ns l x
  | _, _, _ => none
/-- The value of a name, and whether there is one. -/
def get (j : J) (x : ByteArray) : J × Bool := if j.kind = 6 then (match getF j.names j.list x with | some y => (y, true) | none => (zero, false)) else (zero, false)
end Js
end Go.Proofs.YtdooeedemgmpiaaDoor
