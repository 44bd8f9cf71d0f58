import Derived.Test.YtocodilpldliiaaDoorEvLib
import Derived.Test.YtocodilpldliiaaDoorEvTab
namespace Go.Ev
set_option linter.unusedVariables false
set_option linter.unusedSimpArgs false
def nameC (c : UInt8) : Bool := (decide (97 ≤ c.toNat) && decide (c.toNat ≤ 122)) || (decide (48 ≤ c.toNat) && decide (c.toNat ≤ 57)) || decide (c.toNat = 45)
def nameB (s : List UInt8) : Bool := match s with
  | [] => false
  | c :: r => decide (r.length ≤ 15) && (decide (97 ≤ c.toNat) && decide (c.toNat ≤ 122)) && r.all nameC
namespace FN
def tab : List (Nat × TypeId × List Value) := [(0, 92, [(.iface 113 (.agg ⟨[(.pointer (some ⟨6, 28, none⟩))]⟩))]), (1, 103, [(.string ⟨⟨[]⟩⟩), (.string ⟨⟨[115, 104, 117, 116, 100, 111, 119, 110]⟩⟩), (.string ⟨⟨[110, 111, 45, 98, 97, 99, 107, 101, 110, 100]⟩⟩), (.string ⟨⟨[113, 117, 101, 117, 101, 45, 102, 117, 108, 108]⟩⟩), (.string ⟨⟨[100, 101, 97, 100, 108, 105, 110, 101]⟩⟩), (.string ⟨⟨[99, 97, 110, 99, 101, 108, 101, 100]⟩⟩), (.string ⟨⟨[100, 105, 97, 108]⟩⟩), (.string ⟨⟨[114, 101, 102, 117, 115, 101, 100]⟩⟩), (.string ⟨⟨[114, 101, 115, 101, 116]⟩⟩), (.string ⟨⟨[116, 114, 117, 110, 99, 97, 116, 101, 100]⟩⟩), (.string ⟨⟨[109, 97, 108, 102, 111, 114, 109, 101, 100]⟩⟩), (.string ⟨⟨[116, 111, 111, 45, 108, 97, 114, 103, 101]⟩⟩), (.string ⟨⟨[115, 117, 114, 112, 108, 117, 115]⟩⟩), (.string ⟨⟨[111, 112, 101, 110]⟩⟩), (.string ⟨⟨[100, 111, 119, 110]⟩⟩), (.string ⟨⟨[99, 108, 111, 115, 101, 100]⟩⟩), (.string ⟨⟨[101, 120, 104, 97, 117, 115, 116, 101, 100]⟩⟩)])]
def nameK (args : List Value) (h : AH) : KT := match args with
  | [.string s] => .ite (nameB s.data.toList) (.ret (.bool true) h) (.ret (.bool false) h)
  | _ => .ret undef h
def cloneK (args : List Value) (h : AH) : KT := match args with
  | [v] => .ret v h
  | _ => .ret undef h
end FN
end Go.Ev
