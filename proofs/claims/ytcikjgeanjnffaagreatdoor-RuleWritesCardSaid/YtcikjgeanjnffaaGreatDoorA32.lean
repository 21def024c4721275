/-
  WHAT THE PROOF STANDS ON, a part of it: MayAdd.
-/
import Derived.Test.YtcikjgeanjnffaaGreatDoorA27
import Derived.Test.YtcikjgeanjnffaaGreatDoorA29
import Derived.Deep.RegionHeld3
/-
  CONTRACTS OF MayAdd, AND OF THE REFERENCE's MayFollow, MayAdd, TripleText, Long.
-/

namespace Go.Proofs.YtcikjgeanjnffaaGreatDoor
open Go.RowKit
open Utf Term
set_option linter.unusedVariables false
set_option linter.unusedSimpArgs false

def Short (a : TermD) : Prop := a.2.1.size ≤ 40000 ∧ a.2.2.size ≤ 40000
theorem Short.fits {a : TermD} (h : Short a) : Fits a := ⟨by have := h.1; omega, by have := h.2; omega⟩

end Go.Proofs.YtcikjgeanjnffaaGreatDoor

