/-
  THE CONTRACT OF THE REFERENCE's Long.
-/
import Derived.Test.YtbheafpbamkphaaGreatDoorRefText
import Derived.Test.YtbheafpbamkphaaGreatDoorTermD
namespace Go.Proofs.YtbheafpbamkphaaGreatDoor
open Go.RowKit
open Utf Term
set_option linter.unusedVariables false
set_option linter.unusedSimpArgs false

def longD (a : TermD) : Bool := decide (9000 < a.2.1.size) || decide (9000 < a.2.2.size)
set_option maxRecDepth 100000 in
set_option maxHeartbeats 1000000 in
theorem long_any (a : TermD) (w : World) :
    Calls Tryz.prog 16 #[termD a] w fun e w' => e = .returned (.bool (longD a)) ∧ Below w.heap.size w w' := by
  have HB := Lib.hid (below_new w (.cells #[.int .i64 a.1, .string a.2.1, .string a.2.2] 31))
  by_cases h1 : 9000 < a.2.1.size
  · have e1 : decide (9000 < (a.2.1.size : Int)) = true := by simp; omega
    have HR : Hid (longD a = true) := Lib.hid (by unfold longD; simp [h1])
    generalize longD a = L at *
    clear h1
    go_enter Tryz.func16, Tryz.ntmps16
    go_wp2
    go_ret
    exact ⟨ret_bool HR.out.symm, HB.out⟩
  · have e1 : decide (9000 < (a.2.1.size : Int)) = false := by simp; omega
    by_cases h2 : 9000 < a.2.2.size
    · have e2 : decide (9000 < (a.2.2.size : Int)) = true := by simp; omega
      have HR : Hid (longD a = true) := Lib.hid (by unfold longD; simp [h2])
      generalize longD a = L at *
      clear h1 h2
      go_enter Tryz.func16, Tryz.ntmps16
      go_wp2
      go_ret
      exact ⟨ret_bool HR.out.symm, HB.out⟩
    · have e2 : decide (9000 < (a.2.2.size : Int)) = false := by simp; omega
      have HR : Hid (longD a = false) := Lib.hid (by unfold longD; simp [h1, h2])
      generalize longD a = L at *
      clear h1 h2
      go_enter Tryz.func16, Tryz.ntmps16
      go_wp2
      go_ret
      exact ⟨ret_bool HR.out.symm, HB.out⟩

end Go.Proofs.YtbheafpbamkphaaGreatDoor
