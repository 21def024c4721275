/-
  A REGION THAT DRAWS ITS ORDER, WITHIN A ROUND OF A RANGE OVER A FUNCTION: a walk of the plain region's orders serves.
-/
import Derived.Test.YtnmimagcmmdolaaQuietR
import Derived.Deep.RegionHeld3
namespace Go.Proofs.Ytnmimagcmmdolaa
open Go.RowKit
set_option linter.unusedVariables false

section
variable {P : Program} {ops : Array Oper} {md : Region.Mode} {Q : Exit → Act → World → Prop} {l n : Nat}
theorem wpIn_of_wpR {o : Oper} {a : Act} {K : Act → World → Prop} {w : World} (hro : noDefer o = true) (hlet : ¬ LetsOut Q) (h : o.wp P a w K Q) : o.wpIn (Fence.wide.inRound l) n P a w K Q := by
  unfold Oper.wp at h
  unfold Oper.wpIn
  refine ⟨fun _ _ => trivial, ?_⟩
  rw [Oper.semAt_eq _ _ _ (noDefer_spec hro)]
  generalize (execOp a.eval o).run P w = r at *
  cases r with
  | ok x w' =>
    cases x <;> simp only [Oper.upon] at h <;> simp only [Oper.uponIn]
    case value u => exact h
    case skip => exact h
    case defer d => exact h
    case enter f args =>
      refine ⟨fun hd => (by cases hd), CallsIn.inRound l (callsIn_wide.2 (Calls.mono h fun e w'' he => ?_))⟩
      cases e with
      | returned u => exact he
      | panicked c => exact he
      | outgrown => exact absurd he hlet
    case row row args => exact ⟨fun hd => (by cases hd), fun c cs _ => let ⟨v, w'', r, s⟩ := h c cs; ⟨v, w'', r, stepsIn_wide.2 s⟩⟩
  | halt x w' =>
    cases x <;> simp only [Oper.upon] at h <;> simp only [Oper.uponIn]
    case panic u => exact h
theorem wpOpIn_of_wpOpR {i : Nat} {a : Act} {K K' : Act → World → Prop} {w : World} (hro : ∀ (j : Nat) (o : Oper), ops[j]? = some o → noDefer o = true) (hlet : ¬ LetsOut Q) (h : ∀ a w, K a w → K' a w)
    (hh : wpOp P ops Q i K a w) : wpOpIn (Fence.wide.inRound l) n P ops Q i K' a w := by
  unfold wpOp at hh
  unfold wpOpIn
  split
  · rename_i ho; simp only [ho] at hh; exact h _ _ hh
  · rename_i o ho
    simp only [ho] at hh
    split
    · rename_i hw
      simp only [hw, if_true] at hh
      rcases hh with hh | hh
      · exact Oper.wpIn_mono h (wpIn_of_wpR (hro i o ho) hlet hh)
      · exact absurd hh.2 hlet
    · rename_i hw
      simp only [hw] at hh
      exact ⟨fun _ _ => trivial, h _ _ hh⟩
theorem wpAnyIn_of_anyR (hro : ∀ (j : Nat) (o : Oper), ops[j]? = some o → noDefer o = true) (hlet : ¬ LetsOut Q) : ∀ (fuel : Nat) (listed : Array Bool) (a : Act) (w : World), wpAny P md ops Q fuel listed a w → wpAnyIn (Fence.wide.inRound l) n P md ops Q fuel listed a w
  | 0, _, _, _, h => h
  | fuel + 1, _, _, _, h => ⟨h.1, fun i hi => wpOpIn_of_wpOpR hro hlet (fun a' w' h' => wpAnyIn_of_anyR hro hlet fuel _ a' w' h') (h.2 i hi)⟩
theorem wpIn_region_heldR {id : Nat} {a : Act} {w : World} {ol : List Oper} {S : World → Prop} (hro : ol.all noDefer = true) (hlet : ¬ LetsOut Q) (hm : P.follows .mixedOrders = true) (hS : S w.drew)
    (h : S w.drew → wpAnyH P .any ol.toArray Q S ol.toArray.size (Array.replicate ol.toArray.size false) a w.drew) : (Code.region id ol.toArray true).wpIn (Fence.wide.inRound l) n P Q a w := by
  have hro' : ∀ (j : Nat) (o : Oper), ol.toArray[j]? = some o → noDefer o = true := fun j o ho => by
    rw [List.getElem?_toArray] at ho
    exact List.all_eq_true.1 hro o (List.mem_of_getElem? ho)
  exact wpIn_region_any hm (wpAnyIn_of_anyR hro' hlet _ _ _ _ (wpAny_of_held _ _ _ _ (h hS)))
end
end Go.Proofs.Ytnmimagcmmdolaa
