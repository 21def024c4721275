/-
  WHAT THE PROOF STANDS ON, a part of it: RuBoundsFacts.
-/
import Derived.Test.YtbcoklbfebmpoaaGreatDoorU6
import Derived.JoinedOf
/-
  RuleBounds: the closed facts of its row.
-/

namespace Go.Proofs.YtbcoklbfebmpoaaGreatDoor.ruleBounds
open Go.ChangeShapes Go.WideShapes Go.ChangeAt Go.RowKit
set_option linter.unusedVariables false

set_option maxHeartbeats 8000000 in
theorem closed : joinedFacts Tryz.pinned.checked.prog 4 Tryz.f4 Rows.ruleBoundsSpec Rows.ruleBoundsRow = true := by
  unfold joinedFacts
  simp only [Bool.and_eq_true]
  repeat' apply And.intro
  all_goals as_aux_lemma => kernel_rfl
end Go.Proofs.YtbcoklbfebmpoaaGreatDoor.ruleBounds

