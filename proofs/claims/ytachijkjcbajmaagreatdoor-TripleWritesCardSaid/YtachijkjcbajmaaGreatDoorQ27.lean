/-
  WHAT THE PROOF STANDS ON, a part of it: RefLong.
-/
import Derived.Test.YtachijkjcbajmaaGreatDoorQ26
import Derived.Test.YtachijkjcbajmaaGreatDoorQ1
/-
  THE CONTRACT OF THE REFERENCE's Long.
-/

namespace Go.Proofs.YtachijkjcbajmaaGreatDoor
open Go.RowKit
open Utf Term
set_option linter.unusedVariables false
set_option linter.unusedSimpArgs false

def longD (a : TermD) : Bool := decide (9000 < a.2.1.size) || decide (9000 < a.2.2.size)
end Go.Proofs.YtachijkjcbajmaaGreatDoor
