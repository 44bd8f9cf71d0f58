import Derived.Test.YtocodilpldliiaaDoorProg
import Derived.Test.YtocodilpldliiaaDoorEvFND
import Derived.Test.YtocodilpldliiaaDoorEvW4
namespace Go.Ev
set_option linter.unusedVariables false
set_option linter.unusedSimpArgs false
open Go Go.Proofs
def unk : Value := .chan none
noncomputable def nestN : Nest := fun f args h => match f, args with
  | 10, [.agg ⟨[.int .i64 _, .string _, .int .i64 _, .int .i64 _]⟩, .nilIface] => .ok (.tuple ⟨[unk, unk]⟩, h)
  | f, args => nestA Tryd.prog 1000000 20 f args h
end Go.Ev
