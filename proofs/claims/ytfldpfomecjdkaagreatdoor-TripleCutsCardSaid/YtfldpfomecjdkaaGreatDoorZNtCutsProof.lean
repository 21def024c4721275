/-
  TripleCuts: whatever the triples and the place. The card: its listed variables are tied to the program's text. No condition.
-/
import Derived.Test.YtfldpfomecjdkaaGreatDoorR41
import Derived.Test.YtfldpfomecjdkaaGreatDoorR38
import Derived.Test.YtfldpfomecjdkaaGreatDoorR17

namespace Go.Proofs.YtfldpfomecjdkaaGreatDoor.tripleCuts
open Go.ChangeShapes Go.WideShapes Go.ChangeAt Go.RowKit
open Go.ChangeMaps (open_string shut_string)
set_option linter.unusedVariables false

theorem fits_wf {t : TripD} (h : wfTerm t.1 ∧ wfTerm t.2.1 ∧ wfTerm t.2.2) : FitsT t := by
  have f : ∀ a : TermD, wfTerm a → Vast a := fun a h => ⟨h.2.1, h.2.2⟩
  exact ⟨f _ h.1, f _ h.2.1, f _ h.2.2⟩

set_option maxRecDepth 100000 in
theorem lifted (os : Os) (started : os.Started) (H : Type) (enc : TypeId × Value → H) :
    ReturnsInHanded {} Tryz.checked os 5 .any (fun w args => (Rows.tripleCutsSpec.pre enc Tryz.prog Tryz.f5 Rows.tripleCutsRow.domain false w args ∧ laidMetH Tryz.prog Rows.tripleCutsRow.laid w) ∧ sizedMet enc Tryz.prog Tryz.f5 (OpenSpec.ofChange Rows.tripleCutsSpec) false w args)
      (Rows.tripleCutsSpec.post enc Tryz.prog Tryz.f5 false true false false) := by
  refine lift_lex (laid := Rows.tripleCutsRow.laid) (by simp [Rows.tripleCutsRow]) (by simp [Rows.tripleCutsRow]) (fun w h => by rwa [MakeChecks.laidMetH_plain _ _ _ (by kernel_rfl)] at h) started (by kernel_rfl) Tryz.func5
    (ChangeSpec.witness_shaped (enc := enc) (C := Tryz.checked) (os := os) (X := fun w _ => laidMetH Tryz.prog Rows.tripleCutsRow.laid w) false (World.laidAll Tryz.prog os Rows.tripleCutsRow.laid) #[.slice none 0 0, .int .i64 0] 8 (World.laidAll_os _ _ _)
      (World.shaped_of_ZipB (by kernel_rfl) (by kernel_rfl)) (by kernel_rfl) (by kernel_rfl) (by kernel_rfl)
      (by rw [MakeChecks.laidMetH_plain _ _ _ (by kernel_rfl)]; exact laidMet_laidAll _ (by kernel_rfl) (by kernel_rfl))) ?_
  intro W base args ds gs before hval0 hW henv hsz
  have hval : ∀ (j : Nat) t v, Tryz.f5.params[j]? = some t → args[j]? = some v → Value.okWide Tryz.prog W .any base t v := hval0
  have hW' := hW
  obtain ⟨p, q, hA0, hV, rfl, _, _⟩ := hW
  have hA : DataW.TrodAll enc Tryz.prog W 0 (fun _ => true) true Tryz.f5.params.toList args.toList ds p := hA0
  rw [Tryz.params5] at hA hval
  obtain ⟨v0, v1, d0, d1, e0, e1, rfl, rfl, rfl, h0, h1⟩ := trodAll_two hA
  have k0 := h0
  have lt0 : ∀ x ∈ e0, x.block < W.heap.size := by obtain ⟨fm, hfm⟩ := k0; exact DataW.trod_lt fm _ _ _ hfm
  obtain ⟨tl, hst, hwf⟩ := open_triples_wf (hval 0 45 v0 rfl rfl) h0
  have k1 := h1
  have lt1 : ∀ x ∈ e1, x.block < W.heap.size := by obtain ⟨fm, hfm⟩ := k1; exact DataW.trod_lt fm _ _ _ hfm
  obtain ⟨q, rfl⟩ : ∃ q, v1 = .int .i64 q := okWide_int Tryz.underlying3 (hval 1 3 v1 rfl rfl)
  obtain ⟨rfl, rfl⟩ := trodVars_none hV
  clear hA0 hval0
  refine (tripleCuts_walk v0 tl q W hst (fun t ht => fits_wf (hwf t ht)) henv hsz).mono fun e W' ⟨he, bel⟩ => ?_
  subst he
  exact ⟨_, rfl, _, _, _, [], _, [], hW', trodAll_mk1 (shut_bool Tryz.underlying4 _), (trodAll_cons_mk (Below.trod laidOut (by kernel_rfl) (of_decide_eq_true (by kernel_rfl)) k0 bel lt0) (trodAll_cons_mk (Below.trod laidOut (by kernel_rfl) (of_decide_eq_true (by kernel_rfl)) k1 bel lt1) trodAll_mk0)), rfl, bel.frame _, fun h => by cases h⟩

theorem over : Rows.tripleCutsRow.holds Tryz.pinned (OpenSpec.ofChange Rows.tripleCutsSpec) :=
  OpenClaim.holds_of_wide 5 Tryz.f5 rfl rfl rfl rfl rfl rfl rfl ⟨rfl, rfl, rfl, rfl, rfl⟩ rfl rfl rfl rfl rfl (by kernel_rfl) Tryz.func5 (by kernel_rfl)
    (of_decide_eq_true (by kernel_rfl)) (by unfold Func.isWrapper; first | (rw [if_pos (by decide +kernel)]; kernel_rfl) | (rw [if_neg (by decide +kernel)]; exact ⟨rfl, rfl⟩))
    (fun os started H enc _ => lifted os started H enc)

theorem proved : Rows.TripleCutsCardSaid :=
  Claim7.holds_tied_plain_at .later [] Rows.tripleCutsCard.laidKinds true Rows.tripleCutsCard.stood.harness Rows.tripleCutsCard.stood.looks over (fun _ h => by cases h) (by kernel_rfl) (fun _ h => by cases h) tripleCuts_row_tie rfl ⟨rfl, rfl⟩ (by kernel_rfl) rfl
    (fun f fn hf hfn => by
      obtain rfl : f = 5 := Option.some.inj ((show Tryz.prog.funcNamed "rhizome/rhizomelaw05.TripleCuts" = some 5 by kernel_rfl).symm.trans hf) |>.symm
      obtain rfl : fn = Tryz.f5 := (Option.some.inj (Tryz.func5.symm.trans hfn)).symm
      exact ⟨by kernel_rfl, fun j t ht => by
        rw [Tryz.params5] at ht
        have hm : t ∈ [45, 3] := by simpa using Array.mem_of_getElem? ht
        have hall : ([45, 3].all fun u => !Tryz.prog.wantsStandIn u) = true := by kernel_rfl
        exact (show Tryz.prog.wantsStandIn t = false by simpa using List.all_eq_true.1 hall t hm)⟩)
    (by kernel_rfl)
#print axioms proved
end Go.Proofs.YtfldpfomecjdkaaGreatDoor.tripleCuts
