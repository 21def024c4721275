/-
  CONTRACT OF the law's known (table).
-/
import Derived.Test.YtnmimagcmmdolaaTbAdd
namespace Go.Proofs.Ytnmimagcmmdolaa
open Go.RowKit
set_option linter.unusedVariables false
set_option linter.unusedSimpArgs false

theorem known8_v1 : addV [] (1, 2, 3) 1 = #[.int .i64 0, .bool true] := by kernel_rfl
theorem known8_r1 : addR [] (1, 2, 3) 1 = [((1, 2, 3), 1)] := by decide +kernel
theorem known8_v2 : addV [((1, 2, 3), 1)] (1, 2, 3) 2 = #[.int .i64 0, .bool false] := by kernel_rfl
theorem known8_c : ∀ R, R = addR [((1, 2, 3), 1)] (1, 2, 3) 2 → cntQ (0, 2, 0) R = 1 := by
  intro R h
  subst h
  decide +kernel
set_option maxRecDepth 100000 in
set_option maxHeartbeats 4000000 in
theorem known8_any (w : World) : Calls Try.prog 7 #[] w fun e w' => e = .returned (.bool true) ∧ Below w.heap.size w w' := by
  have HNew := Lib.hid (tbNew_any w)
  have HA1 : Hid (∀ U B S tb, TabI B gz0 U S tb [] → Calls Try.prog 14 #[tabP tb, .agg #[.int .u32 1, .int .u32 2, .int .u32 3], .int .u8 1] U fun e w' => e = .returned (.tuple #[.int .i64 0, .bool true]) ∧ Turned S U w' ∧ TabI B gz0 w' (growS S U w') tb [((1, 2, 3), 1)]) :=
    Lib.hid (fun U B S tb h => by
      have := h.add (1, 2, 3) (by unfold okN; decide) 1 (by omega) (by simp)
      rw [known8_v1, known8_r1] at this
      exact this)
  have HA2 : Hid (∀ U B S tb, TabI B gz0 U S tb [((1, 2, 3), 1)] → Calls Try.prog 14 #[tabP tb, .agg #[.int .u32 1, .int .u32 2, .int .u32 3], .int .u8 2] U fun e w' => e = .returned (.tuple #[.int .i64 0, .bool false]) ∧ Turned S U w' ∧ TabI B gz0 w' (growS S U w') tb (addR [((1, 2, 3), 1)] (1, 2, 3) 2)) :=
    Lib.hid (fun U B S tb h => by
      have := h.add (1, 2, 3) (by unfold okN; decide) 2 (by omega) (by simp)
      rw [known8_v2] at this
      exact this)
  have HC : Hid (∀ U B S tb, TabI B gz0 U S tb (addR [((1, 2, 3), 1)] (1, 2, 3) 2) → Calls Try.prog 12 #[tabP tb, .agg #[.int .u32 0, .int .u32 2, .int .u32 0]] U fun e w' => e = .returned (.int .i64 1) ∧ Below U.heap.size U w') :=
    Lib.hid (fun U B S tb h => by
      have := h.count (0, 2, 0) (by unfold okN; decide)
      rw [known8_c _ rfl] at this
      exact this)
  go_enter Try.func7, Try.ntmps7
  go_upto_region 2 with (go_at_call 8; refine HNew.out.mono ?_; rintro e w1 ⟨rfl, hb1, hs1, hT1⟩; replace hb1 := Lib.hid hb1; replace hT1 := Lib.hid hT1)
  go_upto_region 3 with (go_at_call 14; refine (HA1.out _ _ _ _ hT1.out).mono ?_; rintro e w2 ⟨rfl, ht2, hT2⟩; replace ht2 := Lib.hid ht2; replace hT2 := Lib.hid hT2)
  go_upto_region 4 with (go_at_call 14; refine (HA2.out _ _ _ _ hT2.out).mono ?_; rintro e w3 ⟨rfl, ht3, hT3⟩; replace ht3 := Lib.hid ht3; replace hT3 := Lib.hid hT3)
  go_wp2_with (go_at_call 12; refine (HC.out _ _ _ _ hT3.out).mono ?_; rintro e w4 ⟨rfl, hb4⟩; replace hb4 := Lib.hid hb4)
  go_ret
  refine ⟨rfl, ?_⟩
  have b2 : Below w.heap.size w1 w2 := ht2.out.below (by have := hb1.out.size; omega) (fun j hj => hj.1)
  have b3 : Below w.heap.size w2 w3 := ht3.out.below (by have := hb1.out.size; have := b2.size; omega) (fun j hj => by
    rcases hj with hj | hj
    · exact hj.1
    · have := hb1.out.size; omega)
  exact ((hb1.out.trans b2).trans b3).trans (hb4.out.mono (by have := hb1.out.size; have := b2.size; have := b3.size; omega))
end Go.Proofs.Ytnmimagcmmdolaa
