/-
  WHAT THE PROOF STANDS ON, a part of it: RuPartsFacts.
-/
import Derived.Test.YtbcoklbfebmpoaaGreatDoorV6
import Derived.JoinedOf
/-
  RuleParts: the closed facts of its row.
-/

namespace Go.Proofs.YtbcoklbfebmpoaaGreatDoor.ruleParts
open Go.ChangeShapes Go.WideShapes Go.ChangeAt Go.RowKit
set_option linter.unusedVariables false

set_option maxHeartbeats 8000000 in
theorem closed : joinedFacts Tryz.pinned.checked.prog 3 Tryz.f3 Rows.rulePartsSpec Rows.rulePartsRow = true := by
  unfold joinedFacts
  simp only [Bool.and_eq_true]
  repeat' apply And.intro
  all_goals as_aux_lemma => kernel_rfl
end Go.Proofs.YtbcoklbfebmpoaaGreatDoor.ruleParts

