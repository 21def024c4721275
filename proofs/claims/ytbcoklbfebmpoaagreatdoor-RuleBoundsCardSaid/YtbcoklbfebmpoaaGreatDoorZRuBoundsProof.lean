/-
  RuleBounds: whatever the arguments. The card: its listed variables are tied to the program's text. No condition.
-/
import Derived.Test.YtbcoklbfebmpoaaGreatDoorU40
import Derived.Test.YtbcoklbfebmpoaaGreatDoorU35
import Derived.Test.YtbcoklbfebmpoaaGreatDoorU6
import Derived.Test.YtbcoklbfebmpoaaGreatDoorU5
import Derived.Test.YtbcoklbfebmpoaaGreatDoorU8
import Derived.Test.YtbcoklbfebmpoaaGreatDoorU28
import Derived.Test.YtbcoklbfebmpoaaGreatDoorU7
import Derived.Deep.Slices
import Derived.ChangeOld

namespace Go.Proofs.YtbcoklbfebmpoaaGreatDoor.ruleBounds
open Go.ChangeShapes Go.WideShapes Go.ChangeAt Go.RowKit
open Go.ChangeMaps (open_string shut_string)
set_option linter.unusedVariables false

set_option maxRecDepth 100000 in
theorem lifted (os : Os) (started : os.Started) (H : Type) (enc : TypeId × Value → H) :
    ReturnsInHanded {} Tryz.checked os 4 .any (fun w args => (Rows.ruleBoundsSpec.pre enc Tryz.prog Tryz.f4 Rows.ruleBoundsRow.domain false w args ∧ laidMetH Tryz.prog Rows.ruleBoundsRow.laid w) ∧ sizedMet enc Tryz.prog Tryz.f4 (OpenSpec.ofChange Rows.ruleBoundsSpec) false w args)
      (Rows.ruleBoundsSpec.post enc Tryz.prog Tryz.f4 false true false false) := by
  refine lift_lex (laid := Rows.ruleBoundsRow.laid) (by simp [Rows.ruleBoundsRow]) (by simp [Rows.ruleBoundsRow]) (fun w h => by rwa [MakeChecks.laidMetH_plain _ _ _ (by kernel_rfl)] at h) started (by kernel_rfl) Tryz.func4
    (ChangeSpec.witness_shaped (enc := enc) (C := Tryz.checked) (os := os) (X := fun w _ => laidMetH Tryz.prog Rows.ruleBoundsRow.laid w) false (World.laidAll Tryz.prog os Rows.ruleBoundsRow.laid) #[] 8 (World.laidAll_os _ _ _)
      (World.shaped_of_ZipB (by kernel_rfl) (by kernel_rfl)) (by kernel_rfl) (by kernel_rfl) (by kernel_rfl)
      (by rw [MakeChecks.laidMetH_plain _ _ _ (by kernel_rfl)]; exact laidMet_laidAll _ (by kernel_rfl) (by kernel_rfl))) ?_
  intro W base args ds gs before hval0 hW henv hsz
  have hval : ∀ (j : Nat) t v, Tryz.f4.params[j]? = some t → args[j]? = some v → Value.okWide Tryz.prog W .any base t v := hval0
  have hW' := hW
  obtain ⟨p, q, hA0, hV, rfl, _, _⟩ := hW
  have hA : DataW.TrodAll enc Tryz.prog W 0 (fun _ => true) true Tryz.f4.params.toList args.toList ds p := hA0
  rw [Tryz.params4] at hA hval
  obtain ⟨hargs, rfl, rfl⟩ := trodAll_nil hA
  obtain rfl : args = #[] := by cases args; simp_all
  obtain ⟨rfl, rfl⟩ := trodVars_none hV
  clear hA0 hval0
  refine (ruleBounds_walk W henv hsz).mono fun e W' ⟨he, bel⟩ => ?_
  subst he
  exact ⟨_, rfl, _, _, _, [], _, [], hW', trodAll_mk1 (shut_bool Tryz.underlying4 _), trodAll_mk0, rfl, bel.frame _, fun h => by cases h⟩

theorem over : Rows.ruleBoundsRow.holds Tryz.pinned (OpenSpec.ofChange Rows.ruleBoundsSpec) :=
  OpenClaim.holds_of_wide 4 Tryz.f4 rfl rfl rfl rfl rfl rfl rfl ⟨rfl, rfl, rfl, rfl, rfl⟩ rfl rfl rfl rfl rfl (by kernel_rfl) Tryz.func4 closed
    (of_decide_eq_true (by kernel_rfl)) (by unfold Func.isWrapper; first | (rw [if_pos (by decide +kernel)]; kernel_rfl) | (rw [if_neg (by decide +kernel)]; exact ⟨rfl, rfl⟩))
    (fun os started H enc _ => lifted os started H enc)

theorem proved : Rows.RuleBoundsCardSaid :=
  Claim7.holds_tied_plain_at .later [] Rows.ruleBoundsCard.laidKinds true Rows.ruleBoundsCard.stood.harness Rows.ruleBoundsCard.stood.looks over (fun _ h => by cases h) (by kernel_rfl) (fun _ h => by cases h) ruleBounds_row_tie rfl ⟨rfl, rfl⟩ (by kernel_rfl) rfl
    (fun f fn hf hfn => by
      obtain rfl : f = 4 := Option.some.inj ((show Tryz.prog.funcNamed "rhizome/rhizomelaw06.RuleBounds" = some 4 by kernel_rfl).symm.trans hf) |>.symm
      obtain rfl : fn = Tryz.f4 := (Option.some.inj (Tryz.func4.symm.trans hfn)).symm
      exact ⟨by kernel_rfl, fun j t ht => by
        rw [Tryz.params4] at ht
        have hm : t ∈ [] := by simpa using Array.mem_of_getElem? ht
        have hall : ([].all fun u => !Tryz.prog.wantsStandIn u) = true := by kernel_rfl
        exact (show Tryz.prog.wantsStandIn t = false by simpa using List.all_eq_true.1 hall t hm)⟩)
    (by kernel_rfl)
#print axioms proved
end Go.Proofs.YtbcoklbfebmpoaaGreatDoor.ruleBounds
