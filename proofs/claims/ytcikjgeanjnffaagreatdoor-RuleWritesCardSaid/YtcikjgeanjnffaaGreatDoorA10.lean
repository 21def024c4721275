/-
  WHAT THE PROOF STANDS ON, a part of it: RuWritesFacts, RuMaysFacts.
-/
import Derived.Test.YtcikjgeanjnffaaGreatDoorA9
import Derived.JoinedOf
/-
  RuleWrites: the closed facts of its row.
-/

namespace Go.Proofs.YtcikjgeanjnffaaGreatDoor.ruleWrites
open Go.ChangeShapes Go.WideShapes Go.ChangeAt Go.RowKit
set_option linter.unusedVariables false

set_option maxHeartbeats 8000000 in
theorem closed : joinedFacts Tryz.pinned.checked.prog 6 Tryz.f6 Rows.ruleWritesSpec Rows.ruleWritesRow = true := by
  unfold joinedFacts
  simp only [Bool.and_eq_true]
  repeat' apply And.intro
  all_goals as_aux_lemma => kernel_rfl
end Go.Proofs.YtcikjgeanjnffaaGreatDoor.ruleWrites

/-
  RuleMays: the closed facts of its row.
-/

namespace Go.Proofs.YtcikjgeanjnffaaGreatDoor.ruleMays
open Go.ChangeShapes Go.WideShapes Go.ChangeAt Go.RowKit
set_option linter.unusedVariables false

set_option maxHeartbeats 8000000 in
theorem closed : joinedFacts Tryz.pinned.checked.prog 3 Tryz.f3 Rows.ruleMaysSpec Rows.ruleMaysRow = true := by
  unfold joinedFacts
  simp only [Bool.and_eq_true]
  repeat' apply And.intro
  all_goals as_aux_lemma => kernel_rfl
end Go.Proofs.YtcikjgeanjnffaaGreatDoor.ruleMays

