/- What a text with braces comes to: plain. -/
import Derived.Lib.ItoaNum
namespace Go.Proofs.YtgpgbobmpdgfeaaDoor
def isSign (c : UInt8) : Bool := c == 123 || c == 125 || c == 44
/-- The signs of a text that count, with their places; the flag: the byte ahead was a backslash that counts. -/
def signsD : Bool → Nat → List UInt8 → List (Nat × UInt8)
  | _, _, [] => []
  | true, k, _ :: r => signsD false (k + 1) r
  | false, k, c :: r => if c = 92 then signsD true (k + 1) r else if isSign c then (k, c) :: signsD false (k + 1) r else signsD false (k + 1) r
/-- Where the brace that is open closes. -/
def closeD : Nat → List (Nat × UInt8) → Option Nat
  | _, [] => none
  | d, (k, c) :: r => if c = 123 then closeD (d + 1) r else if c = 125 then (if d = 0 then some k else closeD (d - 1) r) else closeD d r
/-- What stands behind a brace, parted at the one that closes it. -/
def enclosedD (s : List UInt8) : Option (List UInt8 × List UInt8) := match closeD 0 (signsD false 0 s) with
  | none => none
  | some k => some (s.take k, s.drop (k + 1))
/-- The commas that stand in no pair. -/
def commasD : Int → List (Nat × UInt8) → List Nat
  | _, [] => []
  | d, (k, c) :: r => if c = 123 then commasD (d + 1) r else if c = 125 then commasD (d - 1) r else if d = 0 then k :: commasD d r else commasD d r
def cutAtD (s : List UInt8) : Nat → List Nat → List (List UInt8)
  | i, [] => [s.drop i]
  | i, k :: ks => (s.drop i).take (k - i) :: cutAtD s (k + 1) ks
def piecesB (s : List UInt8) : List (List UInt8) := cutAtD s 0 (commasD 0 (signsD false 0 s))
def digV (l : List UInt8) : Int := l.foldl (fun n c => 10 * n + ((c.toNat : Int) - 48)) 0
def digitsOK (l : List UInt8) : Bool := l.all (fun c => decide (48 ≤ c.toNat ∧ c.toNat ≤ 57)) && decide (1 ≤ l.length ∧ l.length ≤ 6)
/-- A number of one to six digits, perhaps with a minus ahead. -/
def numberD : List UInt8 → Option Int
  | 45 :: r => if digitsOK r then some (-(digV r)) else none
  | l => if digitsOK l then some (digV l) else none
def letterD : List UInt8 → Option Int
  | [c] => if (65 ≤ c.toNat ∧ c.toNat ≤ 90) ∨ (97 ≤ c.toNat ∧ c.toNat ≤ 122) then some c.toNat else none
  | _ => none
/-- What stands ahead of the first two dots, and behind them. -/
def dotsD : List UInt8 → Option (List UInt8 × List UInt8)
  | [] => none
  | [_] => none
  | c :: d :: r => if c = 46 ∧ d = 46 then some ([], r) else (dotsD (d :: r)).map fun (x, y) => (c :: x, y)
/-- A row's ends, and whether it is one of letters. -/
def rowD (s : List UInt8) : Option (Int × Int × Bool) := match dotsD s with
  | none => none
  | some (x, y) => match numberD x, numberD y with
    | some a, some b => some (a, b, false)
    | _, _ => match letterD x, letterD y with
      | some a, some b => some (a, b, true)
      | _, _ => none
def decB (n : Int) : List UInt8 := Lib.itoa n
def rowTextD (letters : Bool) (n : Int) : List UInt8 := if letters then [UInt8.ofNat n.toNat] else decB n
/-- The numbers from the first to the last, up or down. -/
def numsD (a b : Int) : List Int := (List.range ((b - a).natAbs + 1)).map fun (i : Nat) => if b < a then a - (i : Int) else a + (i : Int)
/-- What the first group is of, by the places of the braces: what is ahead, its pieces or its row, what is behind. -/
inductive MidD : Type
  | list (ps : List (List UInt8))
  | row (a b : Int) (letters : Bool)
def midD (inner : List UInt8) : Option MidD := if 1 < (piecesB inner).length then some (.list (piecesB inner)) else (rowD inner).map fun (a, b, l) => .row a b l
def firstFrom (s : List UInt8) : List (Nat × UInt8) → Option (List UInt8 × MidD × List UInt8)
  | [] => none
  | (k, c) :: r => if c = 123 then (match enclosedD (s.drop (k + 1)) with
    | none => firstFrom s r
    | some (inner, behind) => match midD inner with
      | none => firstFrom s r
      | some m => some (s.take k, m, behind)) else firstFrom s r
def firstD (s : List UInt8) : Option (List UInt8 × MidD × List UInt8) := firstFrom s (signsD false 0 s)
/-- A text's texts, by how deep one looks: as many steps as it has bytes are enough. -/
def textsD : Nat → List UInt8 → List (List UInt8)
  | 0, s => [s]
  | f + 1, s => match firstD s with
    | none => [s]
    | some (ahead, m, behind) => (match m with
      | .list ps => ps.flatMap (textsD f)
      | .row a b l => (numsD a b).map (rowTextD l)).flatMap fun one => (textsD f behind).map fun rest => ahead ++ one ++ rest
end Go.Proofs.YtgpgbobmpdgfeaaDoor
