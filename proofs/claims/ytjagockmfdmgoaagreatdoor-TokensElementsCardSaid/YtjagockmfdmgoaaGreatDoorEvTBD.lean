/- What the functions of bytes and texts return, in plain words. -/
import Derived.Test.YtjagockmfdmgoaaGreatDoorEvTQD
namespace Go.Ev
set_option linter.unusedVariables false
set_option linter.unusedSimpArgs false
namespace TB
def markP (n : Nat) : Prop := n = 33 ∨ n = 35 ∨ n = 36 ∨ n = 37 ∨ n = 38 ∨ n = 39 ∨ n = 42 ∨ n = 43 ∨ n = 45 ∨ n = 46 ∨ n = 94 ∨ n = 95 ∨ n = 96 ∨ n = 124 ∨ n = 126
def wordP (n : Nat) : Prop := (65 ≤ n ∧ n ≤ 90) ∨ (97 ≤ n ∧ n ≤ 122) ∨ (48 ≤ n ∧ n ≤ 57)
instance (n : Nat) : Decidable (markP n) := by unfold markP; infer_instance
instance (n : Nat) : Decidable (wordP n) := by unfold wordP; infer_instance
/-- A byte of tokens. -/
def letB (c : UInt8) : Bool := decide (wordP c.toNat ∨ markP c.toNat)
/-- A byte of texts and values. -/
def plB (c : UInt8) : Bool := decide (c.toNat = 9 ∨ (32 ≤ c.toNat ∧ c.toNat ≤ 126))
/-- The kind of a byte. -/
def kdN (n : Nat) : Int := if n = 9 ∨ n = 32 then 2 else if n = 34 then 3 else if n = 92 then 4 else if n = 44 then 5 else if n = 59 then 6 else if wordP n ∨ markP n then 1 else if 32 < n ∧ n ≤ 126 then 7 else 0
def kd (c : UInt8) : Int := kdN c.toNat
/-- How many bytes of tokens there are at the beginning. -/
def tokN : List UInt8 → Nat
  | [] => 0
  | c :: r => if letB c then tokN r + 1 else 0
def tokB (s : List UInt8) : Bool := decide (1 ≤ s.length ∧ s.length ≤ 64) && s.all letB
def lowB (c : UInt8) : UInt8 := if 65 ≤ c.toNat ∧ c.toNat ≤ 90 then c + 32 else c
def txtB (s : List UInt8) : Bool := decide (s.length ≤ 500) && s.all plB
def esc : List UInt8 → List UInt8
  | [] => []
  | c :: r => if c.toNat = 34 ∨ c.toNat = 92 then 92 :: c :: esc r else c :: esc r
def quo (s : List UInt8) : List UInt8 := 34 :: (esc s ++ [34])
/-- Behind a byte 34: how many bytes up to the end of the quoted string, and what it stands for. -/
def scan : List UInt8 → Option (Nat × List UInt8)
  | [] => none
  | c :: r => if plB c then (if c.toNat = 34 then some (1, []) else if c.toNat = 92 then (match r with
      | [] => none
      | d :: r' => if plB d then (scan r').map fun x => (x.1 + 2, d :: x.2) else none) else (scan r).map fun x => (x.1 + 1, c :: x.2)) else none
def qtE (s : List UInt8) : Int := if 500 < s.length then 3 else if s.all plB then 0 else 6
def qtS (s : List UInt8) : List UInt8 := if qtE s ≠ 0 then [] else if tokB s then s else quo s
/-- What Unquote returns. -/
def unq (s : List UInt8) : Int × List UInt8 := if tokB s then (0, s) else match s with
  | [] => (6, [])
  | c :: r => if c.toNat = 34 then (match scan r with
    | none => (6, [])
    | some (n, t) => if n = r.length then (if 500 < t.length then (3, []) else (0, t)) else (6, [])) else (6, [])
def kindK (args : List Value) (h : AH) : KT := match args with
  | [.int _ c] => .ret (.int .i64 (kdN c.toNat)) h
  | _ => .ret undef h
def letK (args : List Value) (h : AH) : KT := match args with
  | [.int _ c] => .ret (.bool (letB (UInt8.ofNat c.toNat))) h
  | _ => .ret undef h
def plainK (args : List Value) (h : AH) : KT := match args with
  | [.int _ c] => .ret (.bool (plB (UInt8.ofNat c.toNat))) h
  | _ => .ret undef h
def tokNK (args : List Value) (h : AH) : KT := match args with
  | [.string s] => .ret (.int .i64 (tokN s.data.toList : Int)) h
  | _ => .ret undef h
def tokK (args : List Value) (h : AH) : KT := match args with
  | [.string s] => .ret (.bool (tokB s.data.toList)) h
  | _ => .ret undef h
def txtK (args : List Value) (h : AH) : KT := match args with
  | [.string s] => .ret (.bool (txtB s.data.toList)) h
  | _ => .ret undef h
def plainsK (args : List Value) (h : AH) : KT := match args with
  | [.string s] => .ret (.bool (s.data.toList.all plB)) h
  | _ => .ret undef h
def cloneK (args : List Value) (h : AH) : KT := match args with
  | [v] => .ret v h
  | _ => .ret undef h
def quoK (args : List Value) (h : AH) : KT := match args with
  | [.string s] => .ret (.string ⟨⟨quo s.data.toList⟩⟩) h
  | _ => .ret undef h
def foldK (args : List Value) (h : AH) : KT := match args with
  | [.string s] => .ret (.string ⟨⟨s.data.toList.map lowB⟩⟩) h
  | _ => .ret undef h
def qtK (args : List Value) (h : AH) : KT := match args with
  | [.string s] => .ret (.tuple ⟨[.string ⟨⟨qtS s.data.toList⟩⟩, .int .i64 (qtE s.data.toList)]⟩) h
  | _ => .ret undef h
def unqK (args : List Value) (h : AH) : KT := match args with
  | [.string s] => .ret (.tuple ⟨[.string ⟨⟨(unq s.data.toList).2⟩⟩, .int .i64 (unq s.data.toList).1]⟩) h
  | _ => .ret undef h
/-- What the quoted string at the beginning of s stands for, and its length (0: there is none). -/
def rqT (s : List UInt8) : List UInt8 := match scan (s.drop 1) with
  | some (_, t) => t
  | none => []
def rqN (s : List UInt8) : Nat := match scan (s.drop 1) with
  | some (n, _) => n + 1
  | none => 0
def rqK (args : List Value) (h : AH) : KT := match args with
  | [.string s] => .ret (.tuple ⟨[.string ⟨⟨rqT s.data.toList⟩⟩, .int .i64 (rqN s.data.toList : Int)]⟩) h
  | _ => .ret undef h
def rqRK (args : List Value) (h : AH) : KT := match args with
  | [.string s, _] => .ret (.tuple ⟨[.int .i64 (rqN s.data.toList : Int), .string ⟨⟨rqT s.data.toList⟩⟩, .bool (rqN s.data.toList != 0)]⟩) h
  | _ => .ret undef h
def awK (args : List Value) (h : AH) : KT := .ret (.bool true) h
end TB
end Go.Ev
