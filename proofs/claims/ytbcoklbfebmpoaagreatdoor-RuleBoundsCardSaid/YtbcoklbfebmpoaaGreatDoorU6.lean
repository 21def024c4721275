/-
  WHAT THE PROOF STANDS ON, a part of it: Card.
-/
import Derived.Test.YtbcoklbfebmpoaaGreatDoorTie
import Derived.Test.YtbcoklbfebmpoaaGreatDoorCards
import Derived.ProofKit
import Derived.OpenShut
import Derived.ShutString
import Derived.LaidMore
import Derived.Lay
import Derived.SevenTiedAt
import Derived.Stop.Joined
import Derived.HandedShaped
import Derived.Shelf.Vars
import Derived.Below
/-
  WHAT THE FIVE CARDS SHARE: the wrap that keeps the world's shape and what the listed variables hold; the library's variable holds an integer; the witness's world.
-/

namespace Go.Proofs.YtbcoklbfebmpoaaGreatDoor
open Go.ChangeShapes Go.WideShapes Go.ChangeAt Go.RowKit

theorem own : ownKnob Tryz.prog.godebug = none := by kernel_rfl

/-- In a world that fits the library's own variable holds some integer. -/
theorem maxLen_cell {W : World} (h : W.ShapedOpen Tryz.prog) : ∃ m, W.cell? ⟨1, 0, none⟩ = some (.int .i64 m) :=
  cell_of_shapedOpen_int (zero := #[.int .i64 0]) (t := 3) h (of_decide_eq_true (by kernel_rfl)) (by kernel_rfl) rfl (by kernel_rfl) (by kernel_rfl) Tryz.underlying3

end Go.Proofs.YtbcoklbfebmpoaaGreatDoor

