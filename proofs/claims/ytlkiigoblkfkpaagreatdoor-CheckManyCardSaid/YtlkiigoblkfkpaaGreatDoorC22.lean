/-
  WHAT THE PROOF STANDS ON, a part of it: TermText, RuT.
-/
import Derived.Test.YtlkiigoblkfkpaaGreatDoorC15
import Derived.Test.YtlkiigoblkfkpaaGreatDoorC12
import Derived.Test.YtlkiigoblkfkpaaGreatDoorC19
import Derived.Test.YtlkiigoblkfkpaaGreatDoorC21
import Derived.RangeFuncNested
import Derived.RangeFuncBound
import Derived.RangeFuncCalls
import Derived.WalkKit
import Derived.Lib.FrozenHead2
import Derived.Lib.OthersKept
import Derived.Deep.RegionWith


/-
  PLAIN MATHEMATICS: a text in quotes, rune by rune.
-/
namespace Go.Proofs.YtlkiigoblkfkpaaGreatDoor.Term
open Utf

end Go.Proofs.YtlkiigoblkfkpaaGreatDoor.Term

/-
  A RANGE OVER A FUNCTION WHOSE BODY ALWAYS GOES ON, AND MAY LEAN ON WHAT COMES NEXT: the iterator's contract tells the body that the new element is the next one.
-/
namespace Go.Proofs.YtlkiigoblkfkpaaGreatDoor
open Go.RowKit

variable {F : Fence} {n : Nat} {P : Program}

end Go.Proofs.YtlkiigoblkfkpaaGreatDoor

/-
  CONTRACTS OF strings.Builder's WRITERS, of a builder that the call itself made: copyCheck, WriteByte, WriteString.
-/
namespace Go.Proofs.YtlkiigoblkfkpaaGreatDoor
open Go.RowKit Go.Shelf

/-- What a writer leaves: what lay below, and whatever is neither the builder nor a row of bytes. -/
def Wrote (B b : Nat) (w w' : World) : Prop := Below B w w' ∧ Lib.OthersKept 5 (some b) w w'
theorem Wrote.trans {B b : Nat} {u v w : World} (h : Wrote B b u v) (k : Wrote B b v w) : Wrote B b u w := ⟨h.1.trans k.1, h.2.trans k.2⟩

end Go.Proofs.YtlkiigoblkfkpaaGreatDoor

/-
  THE CONTRACT OF quoted, of a text that is well made.
-/
namespace Go.Proofs.YtlkiigoblkfkpaaGreatDoor
open Go.RowKit Go.Shelf
open Utf Term
set_option linter.unusedVariables false
attribute [local go_sem] Oper.semAt_some

/-- A list of bytes as numbers. -/
def nb (l : List UInt8) : List Int := l.map fun c => (c.toNat : Int)
end Go.Proofs.YtlkiigoblkfkpaaGreatDoor

/-
  A TERM's TEXT, as a list of bytes.
-/
namespace Go.Proofs.YtlkiigoblkfkpaaGreatDoor
open Go.RowKit
open Utf Term
set_option linter.unusedVariables false

namespace Term
end Term

end Go.Proofs.YtlkiigoblkfkpaaGreatDoor

/-
  THE CONTRACT OF Text.
-/
namespace Go.Proofs.YtlkiigoblkfkpaaGreatDoor
open Go.RowKit
open Utf Term
set_option linter.unusedVariables false

end Go.Proofs.YtlkiigoblkfkpaaGreatDoor

/-
  SLOTS, PATTERNS, PARTS, RULES: which may be, and their texts, in plain mathematics.
-/

namespace Go.Proofs.YtlkiigoblkfkpaaGreatDoor
open Go.RowKit
open Utf Term
set_option linter.unusedVariables false

abbrev SlotD := ByteArray × TermD
abbrev PatD := SlotD × SlotD × SlotD
abbrev LitD := Int × PatD × SlotD × SlotD
abbrev RuleD := PatD × List LitD
instance termDec : DecidableEq TermD := inferInstance
instance slotDec : DecidableEq SlotD := inferInstance
instance patDec : DecidableEq PatD := inferInstance
instance litDec : DecidableEq LitD := inferInstance
instance ruleDec : DecidableEq RuleD := inferInstance
abbrev zTe : TermD := (0, ⟨#[]⟩, ⟨#[]⟩)
abbrev zSl : SlotD := (⟨#[]⟩, zTe)
abbrev zPa : PatD := (zSl, zSl, zSl)
abbrev zLi : LitD := (0, zPa, zSl, zSl)
/-- What may be. -/
def nameB (v : ByteArray) : Bool := decide (v.size ≤ 32) && mayS 2 v ⟨#[]⟩
def slotB (s : SlotD) : Bool := if s.1.size = 0 then mayD s.2 else (nameB s.1 && decide (s.2 = zTe))
def patB (p : PatD) : Bool := slotB p.1 && slotB p.2.1 && slotB p.2.2
def litB (l : LitD) : Bool :=
  if l.1 = 1 ∨ l.1 = 2 then patB l.2.1 && decide (l.2.2.1 = zSl) && decide (l.2.2.2 = zSl)
  else if l.1 = 3 ∨ l.1 = 4 then slotB l.2.2.1 && slotB l.2.2.2 && decide (l.2.1 = zPa)
  else false
def ruleB (r : RuleD) : Bool := decide (r.2.length ≤ 64) && (r.2.all litB && patB r.1)

end Go.Proofs.YtlkiigoblkfkpaaGreatDoor

