/-
  May OVER A TERM's DATA.
-/
import Derived.Test.YtlamdhklfibjmaaDoorTermMay2
import Derived.Test.YtlamdhklfibjmaaDoorTermD
namespace Go.Proofs.YtlamdhklfibjmaaDoor
open Go.RowKit
open Utf Term
set_option linter.unusedVariables false

def mayD (a : TermD) : Bool := mayS a.1 a.2.1 a.2.2
def Fits (a : TermD) : Prop := a.2.1.size ≤ 1000000000000 ∧ a.2.2.size ≤ 1000000000000

theorem mayD_any {a : TermD} {v : Bool} (hf : Fits a) (hv : mayD a = v) (m : Int) (W : World) (hm : W.cell? ⟨0, 0, none⟩ = some (.int .i64 m)) :
    Calls Tryd.prog 22 #[termD a] W fun e w' => e = .returned (.bool v) ∧ Below W.heap.size W w' := by
  rw [← hv]; exact may_term a.1 a.2.1 a.2.2 hf.1 hf.2 m W hm

end Go.Proofs.YtlamdhklfibjmaaDoor
