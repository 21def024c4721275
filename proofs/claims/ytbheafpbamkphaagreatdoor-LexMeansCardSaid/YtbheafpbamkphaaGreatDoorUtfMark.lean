/-
  THE CONTRACT OF utf.mark.
-/
import Derived.Test.YtbheafpbamkphaaGreatDoorUtfLeaf
namespace Go.Proofs.YtbheafpbamkphaaGreatDoor
open Go.RowKit
open Utf

theorem mark_any (n : Int) (w : World) : Calls Tryz.prog 133 #[.int .i64 n] w fun e w' => e = .returned (.int .u8 (markOf n)) ∧ w = w' := by
  go_enter Tryz.func133, Tryz.ntmps133
  go_wp2
  all_goals
    go_ret
    refine ⟨ret_int ?_, rfl⟩
    simp_all [markOf]

end Go.Proofs.YtbheafpbamkphaaGreatDoor
