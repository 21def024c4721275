/-
  WHAT THE PROOF STANDS ON, a part of it: TripleD.
-/
import Derived.Test.YtachijkjcbajmaaGreatDoorQ15
import Derived.Test.YtachijkjcbajmaaGreatDoorQ1
/-
  May OVER A TERM's DATA.
-/

namespace Go.Proofs.YtachijkjcbajmaaGreatDoor
open Go.RowKit
open Utf Term
set_option linter.unusedVariables false

def mayD (a : TermD) : Bool := mayS a.1 a.2.1 a.2.2
def Fits (a : TermD) : Prop := a.2.1.size ≤ 1000000000000 ∧ a.2.2.size ≤ 1000000000000

theorem mayD_any {a : TermD} {v : Bool} (hf : Fits a) (hv : mayD a = v) (m : Int) (W : World) (hm : W.cell? ⟨1, 0, none⟩ = some (.int .i64 m)) :
    Calls Tryz.prog 61 #[termD a] W fun e w' => e = .returned (.bool v) ∧ Below W.heap.size W w' := by
  rw [← hv]; exact may_term a.1 a.2.1 a.2.2 hf.1 hf.2 m W hm

end Go.Proofs.YtachijkjcbajmaaGreatDoor
