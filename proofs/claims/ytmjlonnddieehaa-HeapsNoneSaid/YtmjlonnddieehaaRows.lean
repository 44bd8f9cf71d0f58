/-
  No cell of these rows narrows 'for every input' (looked for: loops, veiled, ifaces, maps, wideKeys, modest, calm, conditions, laid).
  DERIVED. THE GIVEN ROWS OF THIS SEAT. 3 by the template 'for every input the law returns true; each argument reads behind the call as it read before'; 0 by the template 'total and deterministic' (their statements: YtmjlonnddieehaaTotals.lean).
  GIVEN WITH THE SEED: the statements are not yours to turn. If you find one false, say at which input.
  Laid BY PROGRAM, IN A SANDBOX (cutbox-rows.mjs): the forced cells as the released guide's own fill.sh prints them over the translation 58d9070d434b53a7… (all of the seat's roots in one cut). By AI agents, Wed Nov 11 2026. No macro, syntax, notation, axiom, sorry.
-/
import Derived.Test.YtmjlonnddieehaaChecked
import GoSem.Claim
import GoSem.ClaimJoined
import GoSem.ClaimMapViews
import Derived.JoinedTies
import Derived.KernelRfl
namespace Go.Proofs.Ytmjlonnddieehaa
/- THE CELL 'sum', in the pinned program and in every row, IS THE sha256 OF THE DUMP (.gsa) THAT YtmjlonnddieehaaProg.lean LOADS. Nothing in Lean hashes anything: it is a label: what it is worth is what the hold of that sum in a sandbox is worth. -/
noncomputable def Try.pinned : Pinned := { name := "ytmjlonnddieehaa", sum := "58d9070d434b53a77004c7a07f1b7b823e172d2c73855fff852cc068fdb51ec9", checked := Try.checked }
namespace Rows
def none {H : Type} : Left H := { results := [], args := [] }

/-- 'spillwaylaw02.HeapsPlays': WHATEVER THE INPUT: true; the input reads as it did. -/
def heapsPlaysSpec : ChangeSpec := { name := "heapsPlays", fn := fun _ => fun
  | [d1, d2, d3] => { results := [.lit (.bool true)], args := [d1, d2, d3] }
  | _ => none }
def heapsPlaysRow : OpenClaim := { program := "ytmjlonnddieehaa", sum := "58d9070d434b53a77004c7a07f1b7b823e172d2c73855fff852cc068fdb51ec9", func := "spillway/spillwaylaw02.HeapsPlays", spec := "heapsPlays", unfollowed := true, recurses := true, apart := false }
def HeapsPlaysSaid : Prop := heapsPlaysRow.holds Try.pinned (OpenSpec.ofChange heapsPlaysSpec)

/-- ITS FALSE NEIGHBOUR: 'it returns false'. Refute it at one input. -/
def heapsPlaysWrong : ChangeSpec := { name := "heapsPlays", fn := fun _ => fun
  | [d1, d2, d3] => { results := [.lit (.bool false)], args := [d1, d2, d3] }
  | _ => none }
def HeapsPlaysWrongFalsely : Prop := heapsPlaysRow.holds Try.pinned (OpenSpec.ofChange heapsPlaysWrong)

/-- 'spillwaylaw02.HeapsNone': WHATEVER THE INPUT: true; the input reads as it did. -/
def heapsNoneSpec : ChangeSpec := { name := "heapsNone", fn := fun _ => fun
  | [d1, d2] => { results := [.lit (.bool true)], args := [d1, d2] }
  | _ => none }
def heapsNoneRow : OpenClaim := { program := "ytmjlonnddieehaa", sum := "58d9070d434b53a77004c7a07f1b7b823e172d2c73855fff852cc068fdb51ec9", func := "spillway/spillwaylaw02.HeapsNone", spec := "heapsNone", unfollowed := true, recurses := true, apart := false }
def HeapsNoneSaid : Prop := heapsNoneRow.holds Try.pinned (OpenSpec.ofChange heapsNoneSpec)

/-- ITS FALSE NEIGHBOUR: 'it returns false'. Refute it at one input. -/
def heapsNoneWrong : ChangeSpec := { name := "heapsNone", fn := fun _ => fun
  | [d1, d2] => { results := [.lit (.bool false)], args := [d1, d2] }
  | _ => none }
def HeapsNoneWrongFalsely : Prop := heapsNoneRow.holds Try.pinned (OpenSpec.ofChange heapsNoneWrong)

/-- 'spillwaylaw02.HeapsSorts': WHATEVER THE INPUT: true; the input reads as it did. -/
def heapsSortsSpec : ChangeSpec := { name := "heapsSorts", fn := fun _ => fun
  | [d1, d2] => { results := [.lit (.bool true)], args := [d1, d2] }
  | _ => none }
def heapsSortsRow : OpenClaim := { program := "ytmjlonnddieehaa", sum := "58d9070d434b53a77004c7a07f1b7b823e172d2c73855fff852cc068fdb51ec9", func := "spillway/spillwaylaw02.HeapsSorts", spec := "heapsSorts", unfollowed := true, recurses := true, apart := false }
def HeapsSortsSaid : Prop := heapsSortsRow.holds Try.pinned (OpenSpec.ofChange heapsSortsSpec)

/-- ITS FALSE NEIGHBOUR: 'it returns false'. Refute it at one input. -/
def heapsSortsWrong : ChangeSpec := { name := "heapsSorts", fn := fun _ => fun
  | [d1, d2] => { results := [.lit (.bool false)], args := [d1, d2] }
  | _ => none }
def HeapsSortsWrongFalsely : Prop := heapsSortsRow.holds Try.pinned (OpenSpec.ofChange heapsSortsWrong)

/- THE SECOND FORM. 'bulk': how many values and letters a reading holds, each counted each time it is reached (what is shared counts as often as it is met; a slice's spare places count too). A statement '..UptoSaid' is the law's where the arguments, and the package variables that the reading takes, are together of bulk at most 1048576: NARROWER than '..Said'. Prove '..Said' where nothing that the law and all that it calls make is longer than what came in: it says more and counts as full. Else prove '..UptoSaid'. A law counts once. -/
mutual
def uptoBulk {H : Type} : DataW H → Nat
  | .lit (.string bytes) => bytes.length + 1
  | .lit _ => 1
  | .nil => 1
  | .ptr d => uptoBulk d + 1
  | .slice elems spare => uptoBulkAll elems + uptoBulkAll spare + 1
  | .agg parts => uptoBulkAll parts + 1
  | .iface _ d => uptoBulk d + 1
  | .map entries => uptoBulkEntries entries + 1
  | .held _ => 1
def uptoBulkAll {H : Type} : List (DataW H) → Nat
  | [] => 0
  | d :: r => uptoBulk d + uptoBulkAll r
def uptoBulkEntries {H : Type} : List (Lit × DataW H) → Nat
  | [] => 0
  | x :: r => uptoBulkEntry x + uptoBulkEntries r
def uptoBulkEntry {H : Type} : Lit × DataW H → Nat
  | (.string bytes, d) => bytes.length + uptoBulk d + 1
  | (_, d) => uptoBulk d + 1
 end
def uptoSmall : (H : Type) → List (DataW H) → Bool := fun _ ds => decide (uptoBulkAll ds ≤ 1048576)
def OpenSpec.upto (s : _root_.Go.ChangeSpec) : _root_.Go.OpenSpec := { _root_.Go.OpenSpec.ofChange s with cond := some uptoSmall }

/-- 'spillwaylaw02.HeapsPlays', WHERE WHAT IT READS IS OF BULK AT MOST 1048576: true; the input reads as it did. -/
def heapsPlaysUptoRow : OpenClaim := { program := "ytmjlonnddieehaa", sum := "58d9070d434b53a77004c7a07f1b7b823e172d2c73855fff852cc068fdb51ec9", func := "spillway/spillwaylaw02.HeapsPlays", spec := "heapsPlays", unfollowed := true, recurses := true, apart := false, narrowed := true }
def HeapsPlaysUptoSaid : Prop := heapsPlaysUptoRow.holds Try.pinned (OpenSpec.upto heapsPlaysSpec)

/-- 'spillwaylaw02.HeapsNone', WHERE WHAT IT READS IS OF BULK AT MOST 1048576: true; the input reads as it did. -/
def heapsNoneUptoRow : OpenClaim := { program := "ytmjlonnddieehaa", sum := "58d9070d434b53a77004c7a07f1b7b823e172d2c73855fff852cc068fdb51ec9", func := "spillway/spillwaylaw02.HeapsNone", spec := "heapsNone", unfollowed := true, recurses := true, apart := false, narrowed := true }
def HeapsNoneUptoSaid : Prop := heapsNoneUptoRow.holds Try.pinned (OpenSpec.upto heapsNoneSpec)

/-- 'spillwaylaw02.HeapsSorts', WHERE WHAT IT READS IS OF BULK AT MOST 1048576: true; the input reads as it did. -/
def heapsSortsUptoRow : OpenClaim := { program := "ytmjlonnddieehaa", sum := "58d9070d434b53a77004c7a07f1b7b823e172d2c73855fff852cc068fdb51ec9", func := "spillway/spillwaylaw02.HeapsSorts", spec := "heapsSorts", unfollowed := true, recurses := true, apart := false, narrowed := true }
def HeapsSortsUptoSaid : Prop := heapsSortsUptoRow.holds Try.pinned (OpenSpec.upto heapsSortsSpec)

end Rows
end Go.Proofs.Ytmjlonnddieehaa
