/- The contracts of the library, as they are told to the walker, and the listed variables. -/
import Derived.Test.YtjagockmfdmgoaaGreatDoorEvLib
import Derived.Test.YtjagockmfdmgoaaGreatDoorEvPl
import Derived.Lib.AtoiAll
import Derived.Lib.IndexMore
import Derived.Lib.ItoaNum
import Derived.Lib.TrimByte
namespace Go.Ev
set_option linter.unusedVariables false
set_option linter.unusedSimpArgs false
namespace TQ
def pows : List Value := [(.int .u64 1), (.int .u64 10), (.int .u64 100), (.int .u64 1000), (.int .u64 10000), (.int .u64 100000), (.int .u64 1000000), (.int .u64 10000000), (.int .u64 100000000), (.int .u64 1000000000), (.int .u64 10000000000), (.int .u64 100000000000), (.int .u64 1000000000000), (.int .u64 10000000000000), (.int .u64 100000000000000), (.int .u64 1000000000000000), (.int .u64 10000000000000000), (.int .u64 100000000000000000), (.int .u64 1000000000000000000), (.int .u64 10000000000000000000)]
/-- The listed variables: bytealg.MaxLen and strconv.ErrSyntax, as they are; the powers of ten. -/
def tab : List (Nat × TypeId × List Value) := [(0, 3, [.chan (some 0)]), (1, 72, [.chan (some 1)]), (5, 160, pows)]
def cutK (args : List Value) (h : AH) : KT := match args with
  | [.string s, .string c] => .ret (.tuple ⟨[.string ⟨⟨(Lib.cut s.data.toList c.data.toList).1⟩⟩, .string ⟨⟨(Lib.cut s.data.toList c.data.toList).2.1⟩⟩, .bool (Lib.cut s.data.toList c.data.toList).2.2]⟩) h
  | _ => .ret undef h
def atoiB (s : List UInt8) : Bool := match Lib.atoiAll s with
  | .ok _ => true
  | _ => false
def atoiV (s : List UInt8) : Int := match Lib.atoiAll s with
  | .ok v => v
  | _ => 0
def atoiK (args : List Value) (h : AH) : KT := match args with
  | [.string s] => .ite (atoiB s.data.toList) (.ret (.tuple ⟨[.int .i64 (atoiV s.data.toList), .nilIface]⟩) h) (.ret (.tuple ⟨[.int .i64 0, .iface 136 (.chan none)]⟩) h)
  | _ => .ret undef h
def itoaK (args : List Value) (h : AH) : KT := match args with
  | [.int _ n] => .ret (.string ⟨⟨Lib.itoa n⟩⟩) h
  | _ => .ret undef h
def trimK (args : List Value) (h : AH) : KT := match args with
  | [.string s, _] => .ret (.string ⟨⟨Lib.trimRightB s.data.toList 48⟩⟩) h
  | _ => .ret undef h
end TQ
end Go.Ev
