/-
  RuleMeans: whatever the arguments. The card: its listed variables are tied to the program's text. No condition.
-/
import Derived.Test.YtcikjgeanjnffaaGreatDoorC46
import Derived.Test.YtcikjgeanjnffaaGreatDoorC39
import Derived.Test.YtcikjgeanjnffaaGreatDoorC41
import Derived.Test.YtcikjgeanjnffaaGreatDoorC8

namespace Go.Proofs.YtcikjgeanjnffaaGreatDoor.ruleMeans
open Go.ChangeShapes Go.WideShapes Go.ChangeAt Go.RowKit
open Go.ChangeMaps (open_string shut_string)
set_option linter.unusedVariables false

set_option maxRecDepth 100000 in
theorem lifted (os : Os) (started : os.Started) (H : Type) (enc : TypeId × Value → H) :
    ReturnsInHanded {} Tryz.checked os 7 .any (fun w args => (Rows.ruleMeansSpec.pre enc Tryz.prog Tryz.f7 Rows.ruleMeansRow.domain false w args ∧ laidMetH Tryz.prog Rows.ruleMeansRow.laid w) ∧ sizedMet enc Tryz.prog Tryz.f7 (OpenSpec.ofChange Rows.ruleMeansSpec) false w args)
      (Rows.ruleMeansSpec.post enc Tryz.prog Tryz.f7 false true false false) := by
  refine lift_lex (laid := Rows.ruleMeansRow.laid) (by simp [Rows.ruleMeansRow]) (by simp [Rows.ruleMeansRow]) (fun w h => by rwa [MakeChecks.laidMetH_plain _ _ _ (by kernel_rfl)] at h) started (by kernel_rfl) Tryz.func7
    (ChangeSpec.witness_shaped (enc := enc) (C := Tryz.checked) (os := os) (X := fun w _ => laidMetH Tryz.prog Rows.ruleMeansRow.laid w) false (World.laidAll Tryz.prog os Rows.ruleMeansRow.laid) #[.slice none 0 0, .string ⟨#[]⟩, .string ⟨#[]⟩] 8 (World.laidAll_os _ _ _)
      (World.shaped_of_ZipB (by kernel_rfl) (by kernel_rfl)) (by kernel_rfl) (by kernel_rfl) (by kernel_rfl)
      (by rw [MakeChecks.laidMetH_plain _ _ _ (by kernel_rfl)]; exact laidMet_laidAll _ (by kernel_rfl) (by kernel_rfl))) ?_
  intro W base args ds gs before hval0 hW henv hsz
  have hval : ∀ (j : Nat) t v, Tryz.f7.params[j]? = some t → args[j]? = some v → Value.okWide Tryz.prog W .any base t v := hval0
  have hW' := hW
  obtain ⟨p, q, hA0, hV, rfl, _, _⟩ := hW
  have hA : DataW.TrodAll enc Tryz.prog W 0 (fun _ => true) true Tryz.f7.params.toList args.toList ds p := hA0
  rw [Tryz.params7] at hA hval
  obtain ⟨v0, v1, v2, d0, d1, d2, e0, e1, e2, rfl, rfl, rfl, h0, h1, h2⟩ := trodAll_three hA
  have k0 := h0
  have lt0 : ∀ x ∈ e0, x.block < W.heap.size := by obtain ⟨fm, hfm⟩ := k0; exact DataW.trod_lt fm _ _ _ hfm
  obtain ⟨r0, hst0, hvs0⟩ := open_rules (hval 0 36 v0 rfl rfl) h0
  obtain ⟨s1, rfl, rfl, rfl, ws1⟩ := open_string Tryz.underlying9 (hval 1 9 v1 rfl rfl) h1
  obtain ⟨s2, rfl, rfl, rfl, ws2⟩ := open_string Tryz.underlying9 (hval 2 9 v2 rfl rfl) h2
  obtain ⟨rfl, rfl⟩ := trodVars_none hV
  clear hA0 hval0
  refine (ruleMeans_walk v0 r0 hvs0 s1 s2 W hst0 henv hsz).mono fun e W' ⟨he, bel⟩ => ?_
  subst he
  exact ⟨_, rfl, _, _, _, [], _, [], hW', trodAll_mk1 (shut_bool Tryz.underlying4 _), trodAll_mk3 (Below.trod laidOut (by as_aux_lemma => kernel_rfl) (of_decide_eq_true (by as_aux_lemma => kernel_rfl)) k0 bel lt0) (shut_string Tryz.underlying9 ws1) (shut_string Tryz.underlying9 ws2), rfl, bel.frame _, fun h => by cases h⟩

theorem over : Rows.ruleMeansRow.holds Tryz.pinned (OpenSpec.ofChange Rows.ruleMeansSpec) :=
  OpenClaim.holds_of_wide 7 Tryz.f7 rfl rfl rfl rfl rfl rfl rfl ⟨rfl, rfl, rfl, rfl, rfl⟩ rfl rfl rfl rfl rfl (by kernel_rfl) Tryz.func7 closed
    (of_decide_eq_true (by kernel_rfl)) (by unfold Func.isWrapper; first | (rw [if_pos (by decide +kernel)]; kernel_rfl) | (rw [if_neg (by decide +kernel)]; exact ⟨rfl, rfl⟩))
    (fun os started H enc _ => lifted os started H enc)

theorem proved : Rows.RuleMeansCardSaid :=
  Claim7.holds_tied_plain_at .later [] Rows.ruleMeansCard.laidKinds true Rows.ruleMeansCard.stood.harness Rows.ruleMeansCard.stood.looks over (fun _ h => by cases h) (by kernel_rfl) (fun _ h => by cases h) ruleMeans_row_tie rfl ⟨rfl, rfl⟩ (by kernel_rfl) rfl
    (fun f fn hf hfn => by
      obtain rfl : f = 7 := Option.some.inj ((show Tryz.prog.funcNamed "rhizome/rhizomelaw06.RuleMeans" = some 7 by kernel_rfl).symm.trans hf) |>.symm
      obtain rfl : fn = Tryz.f7 := (Option.some.inj (Tryz.func7.symm.trans hfn)).symm
      exact ⟨by kernel_rfl, fun j t ht => by
        rw [Tryz.params7] at ht
        have hm : t ∈ [36, 9, 9] := by simpa using Array.mem_of_getElem? ht
        have hall : ([36, 9, 9].all fun u => !Tryz.prog.wantsStandIn u) = true := by kernel_rfl
        exact (show Tryz.prog.wantsStandIn t = false by simpa using List.all_eq_true.1 hall t hm)⟩)
    (by kernel_rfl)
#print axioms proved
end Go.Proofs.YtcikjgeanjnffaaGreatDoor.ruleMeans
