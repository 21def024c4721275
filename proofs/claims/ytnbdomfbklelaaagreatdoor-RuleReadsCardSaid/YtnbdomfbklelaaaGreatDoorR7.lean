import Derived.Test.YtnbdomfbklelaaaGreatDoorR6
import Derived.JoinedOf
set_option linter.unusedVariables false
namespace Go.Proofs.YtnbdomfbklelaaaGreatDoor.ruleReads
open Go.ChangeShapes Go.WideShapes Go.ChangeAt Go.RowKit
set_option maxHeartbeats 8000000 in
theorem closed : joinedFacts Tryz.pinned.checked.prog 3 Tryz.f3 Rows.ruleReadsSpec Rows.ruleReadsRow = true := by
 unfold joinedFacts
 simp only [Bool.and_eq_true]
 repeat' apply And.intro
 all_goals as_aux_lemma => kernel_rfl
end Go.Proofs.YtnbdomfbklelaaaGreatDoor.ruleReads
