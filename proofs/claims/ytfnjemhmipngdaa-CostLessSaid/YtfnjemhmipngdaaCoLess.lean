/-
  THE WALK OF CostLess.
-/
import Derived.Test.YtfnjemhmipngdaaCoOrder
import Derived.Test.YtfnjemhmipngdaaCoArg
namespace Go.Proofs.Ytfnjemhmipngdaa
open Go.RowKit
set_option linter.unusedVariables false
set_option linter.unusedSimpArgs false

set_option maxRecDepth 100000 in
set_option maxHeartbeats 16000000 in
theorem costLess_walk (a b c : Nat) (w : World) : Calls Try.prog 4 #[fV a, fV b, fV c] w fun e w' => e = .returned (.bool true) ∧ Below w.heap.size w w' := by
  have HL := Lib.hid less_any
  have HP := Lib.hid plain_any
  have HKn := Lib.hid known_any
  have haa := lessF_irrefl a
  obtain ⟨p, hp⟩ : ∃ p, p = lessF a b := ⟨_, rfl⟩
  have hp2 : (FloatKind.f64.format.order (numF a) (numF b) == some Ordering.lt) = p := by rw [hp]; rfl
  have hba : p = true → lessF b a = false := fun h => lessF_asymm (hp ▸ h)
  obtain ⟨q, hq⟩ : ∃ q, q = lessF b c := ⟨_, rfl⟩
  have hac : p = true → q = true → lessF a c = true := fun h1 h2 => lessF_trans (hp ▸ h1) (hq ▸ h2)
  replace hp := hp.symm
  replace hq := hq.symm
  have HL2 := Lib.hid hba
  have HL3 := Lib.hid hac
  clear hba hac
  obtain ⟨r, w1, hr, hsr, hev⟩ := sub_run 22 a a Try.prog w
  have HSr := Lib.hid (fun h : isN a = true => sub_isN h hsr)
  have HEv := Lib.hid hev
  clear hsr hev
  have hoa : (FloatKind.f64.format.order a a != some Ordering.eq) = isN a := order_self a
  have hor : (FloatKind.f64.format.order r r != some Ordering.eq) = isN r := order_self r
  have HLast : Hid (isN r = true → lessF r b = (FloatKind.f64.format.order 0 (numF b) == some Ordering.lt)) := Lib.hid (fun h => by unfold lessF lssF; rw [show numF r = 0 by simp [numF, h]])
  obtain ⟨z, hz⟩ : ∃ z, z = (FloatKind.f64.format.order 0 (numF b) == some Ordering.lt) := ⟨_, rfl⟩
  rw [← hz] at HLast
  replace hz := hz.symm
  have key : ∀ (u v : Bool), isN a = u → isN r = v → (u = true → v = true) → (v = true → lessF r b = z) → Calls Try.prog 4 #[fV a, fV b, fV c] w fun e w' => e = .returned (.bool true) ∧ Below w.heap.size w w' := by
    intro u v hu hv huv hlast
    rw [hu] at hoa
    rw [hv] at hor
    cases u with
    | true =>
      obtain rfl := huv rfl
      have hl := hlast rfl
      clear hu hv huv hlast
      cases p with
      | true =>
        have hba := HL2.out rfl
        cases q with
        | true =>
          have hac := HL3.out rfl rfl
          go_enter Try.func4, Try.ntmps4
          go_wp2_with (first
                | (go_at_call 12; (with_reducible refine (HL.out _ _ _).mono ?_); rintro e w2 ⟨rfl, rfl⟩)
                | (go_at_call 11; (with_reducible refine (HP.out _ _).mono ?_); rintro e w3 ⟨rfl, rfl⟩)
                | (go_at_call 6; (with_reducible refine (HKn.out _).mono ?_); rintro e w4 ⟨rfl, hY⟩; replace hY := Lib.hid hY))
          go_ret
          exact ⟨rfl, (HEv.out.below _).trans (hY.out.mono (HEv.out.below 0).size)⟩
        | false =>
          go_enter Try.func4, Try.ntmps4
          go_wp2_with (first
                | (go_at_call 12; (with_reducible refine (HL.out _ _ _).mono ?_); rintro e w2 ⟨rfl, rfl⟩)
                | (go_at_call 11; (with_reducible refine (HP.out _ _).mono ?_); rintro e w3 ⟨rfl, rfl⟩)
                | (go_at_call 6; (with_reducible refine (HKn.out _).mono ?_); rintro e w4 ⟨rfl, hY⟩; replace hY := Lib.hid hY))
          go_ret
          exact ⟨rfl, (HEv.out.below _).trans (hY.out.mono (HEv.out.below 0).size)⟩
      | false =>
        go_enter Try.func4, Try.ntmps4
        go_wp2_with (first
              | (go_at_call 12; (with_reducible refine (HL.out _ _ _).mono ?_); rintro e w2 ⟨rfl, rfl⟩)
              | (go_at_call 11; (with_reducible refine (HP.out _ _).mono ?_); rintro e w3 ⟨rfl, rfl⟩)
              | (go_at_call 6; (with_reducible refine (HKn.out _).mono ?_); rintro e w4 ⟨rfl, hY⟩; replace hY := Lib.hid hY))
        go_ret
        exact ⟨rfl, (HEv.out.below _).trans (hY.out.mono (HEv.out.below 0).size)⟩
    | false =>
      cases v with
      | true =>
        have hl := hlast rfl
        clear hu hv huv hlast
        cases p with
        | true =>
          have hba := HL2.out rfl
          cases q with
          | true =>
            have hac := HL3.out rfl rfl
            go_enter Try.func4, Try.ntmps4
            go_wp2_with (first
                  | (go_at_call 12; (with_reducible refine (HL.out _ _ _).mono ?_); rintro e w2 ⟨rfl, rfl⟩)
                  | (go_at_call 11; (with_reducible refine (HP.out _ _).mono ?_); rintro e w3 ⟨rfl, rfl⟩)
                  | (go_at_call 6; (with_reducible refine (HKn.out _).mono ?_); rintro e w4 ⟨rfl, hY⟩; replace hY := Lib.hid hY))
            go_ret
            exact ⟨rfl, (HEv.out.below _).trans (hY.out.mono (HEv.out.below 0).size)⟩
          | false =>
            go_enter Try.func4, Try.ntmps4
            go_wp2_with (first
                  | (go_at_call 12; (with_reducible refine (HL.out _ _ _).mono ?_); rintro e w2 ⟨rfl, rfl⟩)
                  | (go_at_call 11; (with_reducible refine (HP.out _ _).mono ?_); rintro e w3 ⟨rfl, rfl⟩)
                  | (go_at_call 6; (with_reducible refine (HKn.out _).mono ?_); rintro e w4 ⟨rfl, hY⟩; replace hY := Lib.hid hY))
            go_ret
            exact ⟨rfl, (HEv.out.below _).trans (hY.out.mono (HEv.out.below 0).size)⟩
        | false =>
          go_enter Try.func4, Try.ntmps4
          go_wp2_with (first
                | (go_at_call 12; (with_reducible refine (HL.out _ _ _).mono ?_); rintro e w2 ⟨rfl, rfl⟩)
                | (go_at_call 11; (with_reducible refine (HP.out _ _).mono ?_); rintro e w3 ⟨rfl, rfl⟩)
                | (go_at_call 6; (with_reducible refine (HKn.out _).mono ?_); rintro e w4 ⟨rfl, hY⟩; replace hY := Lib.hid hY))
          go_ret
          exact ⟨rfl, (HEv.out.below _).trans (hY.out.mono (HEv.out.below 0).size)⟩
      | false =>
        clear hu hv huv hlast
        cases p with
        | true =>
          have hba := HL2.out rfl
          cases q with
          | true =>
            have hac := HL3.out rfl rfl
            go_enter Try.func4, Try.ntmps4
            go_wp2_with (first
                  | (go_at_call 12; (with_reducible refine (HL.out _ _ _).mono ?_); rintro e w2 ⟨rfl, rfl⟩)
                  | (go_at_call 11; (with_reducible refine (HP.out _ _).mono ?_); rintro e w3 ⟨rfl, rfl⟩)
                  | (go_at_call 6; (with_reducible refine (HKn.out _).mono ?_); rintro e w4 ⟨rfl, hY⟩; replace hY := Lib.hid hY))
            go_ret
            exact ⟨rfl, (HEv.out.below _).trans (hY.out.mono (HEv.out.below 0).size)⟩
          | false =>
            go_enter Try.func4, Try.ntmps4
            go_wp2_with (first
                  | (go_at_call 12; (with_reducible refine (HL.out _ _ _).mono ?_); rintro e w2 ⟨rfl, rfl⟩)
                  | (go_at_call 11; (with_reducible refine (HP.out _ _).mono ?_); rintro e w3 ⟨rfl, rfl⟩)
                  | (go_at_call 6; (with_reducible refine (HKn.out _).mono ?_); rintro e w4 ⟨rfl, hY⟩; replace hY := Lib.hid hY))
            go_ret
            exact ⟨rfl, (HEv.out.below _).trans (hY.out.mono (HEv.out.below 0).size)⟩
        | false =>
          go_enter Try.func4, Try.ntmps4
          go_wp2_with (first
                | (go_at_call 12; (with_reducible refine (HL.out _ _ _).mono ?_); rintro e w2 ⟨rfl, rfl⟩)
                | (go_at_call 11; (with_reducible refine (HP.out _ _).mono ?_); rintro e w3 ⟨rfl, rfl⟩)
                | (go_at_call 6; (with_reducible refine (HKn.out _).mono ?_); rintro e w4 ⟨rfl, hY⟩; replace hY := Lib.hid hY))
          go_ret
          exact ⟨rfl, (HEv.out.below _).trans (hY.out.mono (HEv.out.below 0).size)⟩
  exact key _ _ rfl rfl HSr.out HLast.out
end Go.Proofs.Ytfnjemhmipngdaa
