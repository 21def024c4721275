/-
  RuleReads: whatever the arguments. The card: its listed variables are tied to the program's text. No condition.
-/
import Derived.Test.YtnbdomfbklelaaaGreatDoorR43
import Derived.Test.YtnbdomfbklelaaaGreatDoorR39
import Derived.Test.YtnbdomfbklelaaaGreatDoorR6
import Derived.Test.YtnbdomfbklelaaaGreatDoorR5
import Derived.Test.YtnbdomfbklelaaaGreatDoorR8
import Derived.Test.YtnbdomfbklelaaaGreatDoorR30
import Derived.Test.YtnbdomfbklelaaaGreatDoorR7
import Derived.Deep.Slices
import Derived.ChangeOld
set_option linter.unusedVariables false
namespace Go.Proofs.YtnbdomfbklelaaaGreatDoor.ruleReads
open Go.ChangeShapes Go.WideShapes Go.ChangeAt Go.RowKit
open Go.ChangeMaps (open_string shut_string)
set_option maxRecDepth 100000 in
theorem lifted (os : Os) (started : os.Started) (H : Type) (enc : TypeId × Value → H) :
 ReturnsInHanded {} Tryz.checked os 3 .any (fun w args => (Rows.ruleReadsSpec.pre enc Tryz.prog Tryz.f3 Rows.ruleReadsRow.domain false w args ∧ laidMetH Tryz.prog Rows.ruleReadsRow.laid w) ∧ sizedMet enc Tryz.prog Tryz.f3 (OpenSpec.ofChange Rows.ruleReadsSpec) false w args)
  (Rows.ruleReadsSpec.post enc Tryz.prog Tryz.f3 false true false false) := by
 refine lift_lex (laid := Rows.ruleReadsRow.laid) (by simp [Rows.ruleReadsRow]) (by simp [Rows.ruleReadsRow]) (fun w h => by rwa [MakeChecks.laidMetH_plain _ _ _ (by kernel_rfl)] at h) started (by kernel_rfl) Tryz.func3
  (ChangeSpec.witness_shaped (enc := enc) (C := Tryz.checked) (os := os) (X := fun w _ => laidMetH Tryz.prog Rows.ruleReadsRow.laid w) false (World.laidAll Tryz.prog os Rows.ruleReadsRow.laid) #[.string ⟨#[]⟩] 8 (World.laidAll_os _ _ _)
   (World.shaped_of_ZipB (by kernel_rfl) (by kernel_rfl)) (by kernel_rfl) (by kernel_rfl) (by kernel_rfl)
   (by rw [MakeChecks.laidMetH_plain _ _ _ (by kernel_rfl)]; exact laidMet_laidAll _ (by kernel_rfl) (by kernel_rfl))) ?_
 intro W base args ds gs before hval0 hW henv hsz
 have hval : ∀ (j : Nat) t v, Tryz.f3.params[j]? = some t → args[j]? = some v → Value.okWide Tryz.prog W .any base t v := hval0
 have hW' := hW
 obtain ⟨p, q, hA0, hV, rfl, _, _⟩ := hW
 have hA : DataW.TrodAll enc Tryz.prog W 0 (fun _ => true) true Tryz.f3.params.toList args.toList ds p := hA0
 rw [Tryz.params3] at hA hval
 obtain ⟨v0, d0, rfl, rfl, h0⟩ := trodAll_one hA
 obtain ⟨s0, rfl, rfl, rfl, ws0⟩ := open_string Tryz.underlying9 (hval 0 9 v0 rfl rfl) h0
 obtain ⟨rfl, rfl⟩ := trodVars_none hV
 clear hA0 hval0
 refine (ruleReads_walk s0 W  henv hsz).mono fun e W' ⟨he, bel⟩ => ?_
 subst he
 exact ⟨_, rfl, _, _, _, [], _, [], hW', trodAll_mk1 (shut_bool Tryz.underlying4 _), trodAll_mk1 (shut_string Tryz.underlying9 ws0), rfl, bel.frame _, fun h => by cases h⟩
theorem over : Rows.ruleReadsRow.holds Tryz.pinned (OpenSpec.ofChange Rows.ruleReadsSpec) :=
 OpenClaim.holds_of_wide 3 Tryz.f3 rfl rfl rfl rfl rfl rfl rfl ⟨rfl, rfl, rfl, rfl, rfl⟩ rfl rfl rfl rfl rfl (by kernel_rfl) Tryz.func3 closed
  (of_decide_eq_true (by kernel_rfl)) (by unfold Func.isWrapper; first | (rw [if_pos (by decide +kernel)]; kernel_rfl) | (rw [if_neg (by decide +kernel)]; exact ⟨rfl, rfl⟩))
  (fun os started H enc _ => lifted os started H enc)
theorem proved : Rows.RuleReadsCardSaid :=
 Claim7.holds_tied_plain_at .later [] Rows.ruleReadsCard.laidKinds true Rows.ruleReadsCard.stood.harness Rows.ruleReadsCard.stood.looks over (fun _ h => by cases h) (by kernel_rfl) (fun _ h => by cases h) ruleReads_row_tie rfl ⟨rfl, rfl⟩ (by kernel_rfl) rfl
  (fun f fn hf hfn => by
   obtain rfl : f = 3 := Option.some.inj ((show Tryz.prog.funcNamed "rhizome/rhizomelaw06.RuleReads" = some 3 by kernel_rfl).symm.trans hf) |>.symm
   obtain rfl : fn = Tryz.f3 := (Option.some.inj (Tryz.func3.symm.trans hfn)).symm
   exact ⟨by kernel_rfl, fun j t ht => by
    rw [Tryz.params3] at ht
    have hm : t ∈ [9] := by simpa using Array.mem_of_getElem? ht
    have hall : ([9].all fun u => !Tryz.prog.wantsStandIn u) = true := by kernel_rfl
    exact (show Tryz.prog.wantsStandIn t = false by simpa using List.all_eq_true.1 hall t hm)⟩)
  (by kernel_rfl)
#print axioms proved
end Go.Proofs.YtnbdomfbklelaaaGreatDoor.ruleReads
