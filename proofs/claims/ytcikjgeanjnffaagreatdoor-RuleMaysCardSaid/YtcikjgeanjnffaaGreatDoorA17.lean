/-
  WHAT THE PROOF STANDS ON, a part of it: SliceArg.
-/
import Derived.Test.YtcikjgeanjnffaaGreatDoorA16
import Derived.Test.YtcikjgeanjnffaaGreatDoorA11
import Derived.Deep.Slices
import Derived.ChangeOld
/-
  AN ARGUMENT THAT IS A SLICE OF TRIPLES: opened.
-/

namespace Go.Proofs.YtcikjgeanjnffaaGreatDoor
open Go.ChangeShapes Go.WideShapes Go.ChangeAt Go.RowKit Go.Deep
set_option linter.unusedVariables false
set_option maxRecDepth 100000

theorem list_of {α : Type} {p : Nat → α → Prop} : ∀ n : Nat, (∀ i, i < n → ∃ x, p i x) → ∃ l : List α, l.length = n ∧ ∀ i x, l[i]? = some x → p i x
  | 0, _ => ⟨[], rfl, fun i x h => by simp at h⟩
  | n + 1, h => by
    obtain ⟨l, hl, hp⟩ := list_of n (fun i hi => h i (by omega))
    obtain ⟨x, hx⟩ := h n (by omega)
    refine ⟨l ++ [x], by simp [hl], fun i y hy => ?_⟩
    by_cases hi : i < n
    · rw [List.getElem?_append_left (by omega)] at hy
      exact hp i y hy
    · have hi' : i < (l ++ [x]).length := (List.getElem?_eq_some_iff.1 hy).1
      have : i = n := by simp [hl] at hi'; omega
      subst this
      rw [List.getElem?_append_right (by omega), hl, Nat.sub_self] at hy
      simp at hy
      exact hy ▸ hx

theorem laidOut : laidOutB Tryz.prog = true := by kernel_rfl
end Go.Proofs.YtcikjgeanjnffaaGreatDoor

