/- What the functions of qualities return, in plain words. -/
import Derived.Test.YtjagockmfdmgoaaGreatDoorEvFND5
namespace Go.Ev
set_option linter.unusedVariables false
set_option linter.unusedSimpArgs false
namespace TQ
def dig (c : UInt8) : Bool := decide (48 ≤ c.toNat) && decide (c.toNat ≤ 57)
def dv (c : UInt8) : Int := (c.toNat : Int) - 48
/-- The digits behind the point. -/
def tail : List UInt8 → Int → Option Int
  | [], _ => some 0
  | c :: r, u => if dig c then (tail r (u / 10)).map fun n => u * dv c + n else none
def qual : List UInt8 → Option Int
  | [c] => if c = 48 then some 0 else if c = 49 then some 1000 else none
  | c :: p :: r => if p = 46 ∧ r.length ≤ 3 then (if c = 48 then tail r 100 else if c = 49 ∧ r.all (· == 48) then some 1000 else none) else none
  | [] => none
def qV (s : List UInt8) : Int := (qual s).getD 0
def qE (s : List UInt8) : Int := if (qual s).isSome then 0 else 6
/-- Digits without the zeros at the end. -/
def frac (n : Nat) : List UInt8 := Lib.trimRightB [UInt8.ofNat (48 + n / 100 % 10), UInt8.ofNat (48 + n / 10 % 10), UInt8.ofNat (48 + n % 10)] 48
def pStr (n : Nat) : List UInt8 := if n = 1000 then [49] else if n = 0 then [48] else 48 :: 46 :: frac n
def pS (n : Int) : List UInt8 := if 0 ≤ n ∧ n ≤ 1000 then pStr n.toNat else []
def pE (n : Int) : Int := if 0 ≤ n ∧ n ≤ 1000 then 0 else 7
def qK (args : List Value) (h : AH) : KT := match args with
  | [.string s] => .ret (.tuple ⟨[.int .i64 (qV s.data.toList), .int .i64 (qE s.data.toList)]⟩) h
  | _ => .ret undef h
def pK (args : List Value) (h : AH) : KT := match args with
  | [.int _ n] => .ret (.tuple ⟨[.string ⟨⟨pS n⟩⟩, .int .i64 (pE n)]⟩) h
  | _ => .ret undef h
def awK (args : List Value) (h : AH) : KT := .ret (.bool true) h
end TQ
end Go.Ev
