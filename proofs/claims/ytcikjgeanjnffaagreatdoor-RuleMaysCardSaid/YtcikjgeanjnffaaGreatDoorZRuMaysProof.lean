/-
  RuleMays: whatever the arguments. The card: its listed variables are tied to the program's text. No condition.
-/
import Derived.Test.YtcikjgeanjnffaaGreatDoorA51
import Derived.Test.YtcikjgeanjnffaaGreatDoorA47
import Derived.Test.YtcikjgeanjnffaaGreatDoorA49
import Derived.Test.YtcikjgeanjnffaaGreatDoorA10

namespace Go.Proofs.YtcikjgeanjnffaaGreatDoor.ruleMays
open Go.ChangeShapes Go.WideShapes Go.ChangeAt Go.RowKit
open Go.ChangeMaps (open_string shut_string)
set_option linter.unusedVariables false

set_option maxRecDepth 100000 in
theorem lifted (os : Os) (started : os.Started) (H : Type) (enc : TypeId × Value → H) :
    ReturnsInHanded {} Tryz.checked os 3 .any (fun w args => (Rows.ruleMaysSpec.pre enc Tryz.prog Tryz.f3 Rows.ruleMaysRow.domain false w args ∧ laidMetH Tryz.prog Rows.ruleMaysRow.laid w) ∧ sizedMet enc Tryz.prog Tryz.f3 (OpenSpec.ofChange Rows.ruleMaysSpec) false w args)
      (Rows.ruleMaysSpec.post enc Tryz.prog Tryz.f3 false true false false) := by
  refine lift_lex (laid := Rows.ruleMaysRow.laid) (by simp [Rows.ruleMaysRow]) (by simp [Rows.ruleMaysRow]) (fun w h => by rwa [MakeChecks.laidMetH_plain _ _ _ (by kernel_rfl)] at h) started (by kernel_rfl) Tryz.func3
    (ChangeSpec.witness_shaped (enc := enc) (C := Tryz.checked) (os := os) (X := fun w _ => laidMetH Tryz.prog Rows.ruleMaysRow.laid w) false (World.laidAll Tryz.prog os Rows.ruleMaysRow.laid) #[.agg (ruleC zPa (.slice none 0 0)), .agg (litC zLi)] 8 (World.laidAll_os _ _ _)
      (World.shaped_of_ZipB (by kernel_rfl) (by kernel_rfl)) (by kernel_rfl) (by kernel_rfl) (by kernel_rfl)
      (by rw [MakeChecks.laidMetH_plain _ _ _ (by kernel_rfl)]; exact laidMet_laidAll _ (by kernel_rfl) (by kernel_rfl))) ?_
  intro W base args ds gs before hval0 hW henv hsz
  have hval : ∀ (j : Nat) t v, Tryz.f3.params[j]? = some t → args[j]? = some v → Value.okWide Tryz.prog W .any base t v := hval0
  have hW' := hW
  obtain ⟨p, q, hA0, hV, rfl, _, _⟩ := hW
  have hA : DataW.TrodAll enc Tryz.prog W 0 (fun _ => true) true Tryz.f3.params.toList args.toList ds p := hA0
  rw [Tryz.params3] at hA hval
  obtain ⟨v0, v1, d0, d1, e0, e1, rfl, rfl, rfl, h0, h1⟩ := trodAll_two hA
  have k0 := h0
  have lt0 : ∀ x ∈ e0, x.block < W.heap.size := by obtain ⟨fm, hfm⟩ := k0; exact DataW.trod_lt fm _ _ _ hfm
  obtain ⟨r0, u0, rfl, hst0, hvs0⟩ := open_rule (hval 0 31 v0 rfl rfl) h0
  have k1 := h1
  have lt1 : ∀ x ∈ e1, x.block < W.heap.size := by obtain ⟨fm, hfm⟩ := k1; exact DataW.trod_lt fm _ _ _ hfm
  obtain ⟨l1, rfl, hvs1⟩ := open_lit (hval 1 34 v1 rfl rfl) h1
  obtain ⟨rfl, rfl⟩ := trodVars_none hV
  clear hA0 hval0
  refine (ruleMays_walk r0.1 u0 r0.2 l1 hvs0 hvs1 W hst0 henv hsz).mono fun e W' ⟨he, bel⟩ => ?_
  subst he
  exact ⟨_, rfl, _, _, _, [], _, [], hW', trodAll_mk1 (shut_bool Tryz.underlying4 _), trodAll_mk2 (Below.trod laidOut (by as_aux_lemma => kernel_rfl) (of_decide_eq_true (by as_aux_lemma => kernel_rfl)) k0 bel lt0) (Below.trod laidOut (by as_aux_lemma => kernel_rfl) (of_decide_eq_true (by as_aux_lemma => kernel_rfl)) k1 bel lt1), rfl, bel.frame _, fun h => by cases h⟩

theorem over : Rows.ruleMaysRow.holds Tryz.pinned (OpenSpec.ofChange Rows.ruleMaysSpec) :=
  OpenClaim.holds_of_wide 3 Tryz.f3 rfl rfl rfl rfl rfl rfl rfl ⟨rfl, rfl, rfl, rfl, rfl⟩ rfl rfl rfl rfl rfl (by kernel_rfl) Tryz.func3 closed
    (of_decide_eq_true (by kernel_rfl)) (by unfold Func.isWrapper; first | (rw [if_pos (by decide +kernel)]; kernel_rfl) | (rw [if_neg (by decide +kernel)]; exact ⟨rfl, rfl⟩))
    (fun os started H enc _ => lifted os started H enc)

theorem proved : Rows.RuleMaysCardSaid :=
  Claim7.holds_tied_plain_at .later [] Rows.ruleMaysCard.laidKinds true Rows.ruleMaysCard.stood.harness Rows.ruleMaysCard.stood.looks over (fun _ h => by cases h) (by kernel_rfl) (fun _ h => by cases h) ruleMays_row_tie rfl ⟨rfl, rfl⟩ (by kernel_rfl) rfl
    (fun f fn hf hfn => by
      obtain rfl : f = 3 := Option.some.inj ((show Tryz.prog.funcNamed "rhizome/rhizomelaw06.RuleMays" = some 3 by kernel_rfl).symm.trans hf) |>.symm
      obtain rfl : fn = Tryz.f3 := (Option.some.inj (Tryz.func3.symm.trans hfn)).symm
      exact ⟨by kernel_rfl, fun j t ht => by
        rw [Tryz.params3] at ht
        have hm : t ∈ [31, 34] := by simpa using Array.mem_of_getElem? ht
        have hall : ([31, 34].all fun u => !Tryz.prog.wantsStandIn u) = true := by kernel_rfl
        exact (show Tryz.prog.wantsStandIn t = false by simpa using List.all_eq_true.1 hall t hm)⟩)
    (by kernel_rfl)
#print axioms proved
end Go.Proofs.YtcikjgeanjnffaaGreatDoor.ruleMays
