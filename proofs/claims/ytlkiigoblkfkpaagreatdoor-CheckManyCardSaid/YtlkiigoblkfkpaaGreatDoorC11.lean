/-
  WHAT THE PROOF STANDS ON, a part of it: CkManyFacts.
-/
import Derived.Test.YtlkiigoblkfkpaaGreatDoorC10
import Derived.JoinedOf
/-
  CheckMany: the closed facts of its row.
-/

namespace Go.Proofs.YtlkiigoblkfkpaaGreatDoor.checkMany
open Go.ChangeShapes Go.WideShapes Go.ChangeAt Go.RowKit
set_option linter.unusedVariables false

set_option maxHeartbeats 8000000 in
theorem closed : joinedFacts Tryz.pinned.checked.prog 5 Tryz.f5 Rows.checkManySpec Rows.checkManyRow = true := by
  unfold joinedFacts
  simp only [Bool.and_eq_true]
  repeat' apply And.intro
  all_goals as_aux_lemma => kernel_rfl
end Go.Proofs.YtlkiigoblkfkpaaGreatDoor.checkMany

