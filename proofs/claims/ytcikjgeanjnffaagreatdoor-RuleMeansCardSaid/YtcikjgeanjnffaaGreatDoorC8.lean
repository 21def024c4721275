/-
  WHAT THE PROOF STANDS ON, a part of it: RuMeansFacts.
-/
import Derived.Test.YtcikjgeanjnffaaGreatDoorC7
import Derived.JoinedOf
/-
  RuleMeans: the closed facts of its row.
-/

namespace Go.Proofs.YtcikjgeanjnffaaGreatDoor.ruleMeans
open Go.ChangeShapes Go.WideShapes Go.ChangeAt Go.RowKit
set_option linter.unusedVariables false

set_option maxHeartbeats 8000000 in
theorem closed : joinedFacts Tryz.pinned.checked.prog 7 Tryz.f7 Rows.ruleMeansSpec Rows.ruleMeansRow = true := by
  unfold joinedFacts
  simp only [Bool.and_eq_true]
  repeat' apply And.intro
  all_goals as_aux_lemma => kernel_rfl
end Go.Proofs.YtcikjgeanjnffaaGreatDoor.ruleMeans

