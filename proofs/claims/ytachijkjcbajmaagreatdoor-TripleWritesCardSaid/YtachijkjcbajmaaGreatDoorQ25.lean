/-
  WHAT THE PROOF STANDS ON, a part of it: LexSkip2.
-/
import Derived.Test.YtachijkjcbajmaaGreatDoorQ23
/-
  THE CONTRACT OF (*reader).skip.
-/

namespace Go.Proofs.YtachijkjcbajmaaGreatDoor
open Go.RowKit
open Utf Term Lex
set_option linter.unusedVariables false
set_option linter.unusedSimpArgs false

theorem Rd.setI {W : World} {rp : Nat} {s : ByteArray} {a : Nat} {tv : Value} (h : Rd W rp s a tv) {b : Nat} (hb : b ≤ s.size) {i : Int} (hi : i = b) : Rd (W.setCell ⟨rp, 1, none⟩ (.int .i64 i)) rp s b tv := by
  subst hi
  exact h.set hb
theorem Rd.drew {W : World} {rp : Nat} {s : ByteArray} {a : Nat} {tv : Value} (h : Rd W rp s a tv) (n : Nat) : Rd (W.drewN n) rp s a tv := ⟨h.blk.drew n, h.le, h.sz⟩

set_option maxRecDepth 100000 in
set_option maxHeartbeats 8000000 in
theorem skip_any (rp : Nat) (s : ByteArray) (a : Nat) (tv : Value) (w : World) (h : Rd w rp s a tv) :
    Calls Tryz.prog 86 #[.pointer (some ⟨rp, 0, none⟩)] w fun e w' => e = .returned (.tuple #[]) ∧ Rd w' rp s (a + sk false ((bs s).drop a)) tv ∧ Moves rp w w' := by
  obtain ⟨R, hR⟩ : ∃ R, R = a + sk false ((bs s).drop a) := ⟨_, rfl⟩
  rw [← hR]
  have HR := Lib.hid hR
  have H0 := Lib.hid h
  have hsz := h.sz
  have hle := h.le
  clear hR h
  go_enter Tryz.func86, Tryz.ntmps86
  go_wp2
  go_loopg [] s.size (fun g wr => ∃ k : Nat, k ≤ s.size ∧ s.size - k ≤ g ∧ R = k + sk false ((bs s).drop k) ∧ Rd wr rp s k tv ∧ Moves rp w wr)
  case atStart => exact ⟨a, hle, by omega, HR.out, H0.out, Moves.refl⟩
  case round =>
    obtain ⟨k, hk, hkg, hRk, hrd, hmv⟩ := hrel
    have HRk := Lib.hid hRk
    have HRd := Lib.hid hrd
    have HMv := Lib.hid hmv
    have c0 := hrd.at_.c0
    have c1 := hrd.at_.c1
    have kf : ∀ j, wr.frozen? ⟨rp, j, none⟩ = false := fun j => hrd.blk.free j
    clear hRk hrd hmv HR H0
    have b0 : (0 : Int) ≤ (k : Int) := by omega
    by_cases hlt : k < s.size
    · have b1 : (k : Int) < (s.size : Int) := by omega
      have HG := Lib.hid (bs_get s k hlt)
      cases e9 : ((s[k].toNat : Int) == 9) with
      | true =>
        have HS := Lib.hid (sk_ws HG.out (by unfold isWS; simp only [beq_iff_eq, beq_eq_false_iff_ne] at *; simp [*]))
        go_wp2_with fail
        go_quiet (fail)
        go_wp2_with fail
        go_quiet (fail)
        have W1 : IntKind.i64.wrap ((k : Int) + 1) = (k : Int) + 1 := IntWalk.i64_in _ (by omega)
        go_wp2
        go_roundg (s.size - (k + 1))
        case rel => exact ⟨k + 1, hlt, Nat.le_refl _, by rw [HRk.out, HS.out]; omega, (HRd.out.drew _).setI hlt (by omega), (HMv.out.drew _).set 1 _⟩
        case measure => omega
      | false =>
        cases e10 : ((s[k].toNat : Int) == 10) with
        | true =>
          have HS := Lib.hid (sk_ws HG.out (by unfold isWS; simp only [beq_iff_eq, beq_eq_false_iff_ne] at *; simp [*]))
          go_wp2_with fail
          go_quiet (fail)
          go_wp2_with fail
          go_quiet (fail)
          have W1 : IntKind.i64.wrap ((k : Int) + 1) = (k : Int) + 1 := IntWalk.i64_in _ (by omega)
          go_wp2
          go_roundg (s.size - (k + 1))
          case rel => exact ⟨k + 1, hlt, Nat.le_refl _, by rw [HRk.out, HS.out]; omega, (HRd.out.drew _).setI hlt (by omega), (HMv.out.drew _).set 1 _⟩
          case measure => omega
        | false =>
          cases e13 : ((s[k].toNat : Int) == 13) with
          | true =>
            have HS := Lib.hid (sk_ws HG.out (by unfold isWS; simp only [beq_iff_eq, beq_eq_false_iff_ne] at *; simp [*]))
            go_wp2_with fail
            go_quiet (fail)
            go_wp2_with fail
            go_quiet (fail)
            have W1 : IntKind.i64.wrap ((k : Int) + 1) = (k : Int) + 1 := IntWalk.i64_in _ (by omega)
            go_wp2
            go_roundg (s.size - (k + 1))
            case rel => exact ⟨k + 1, hlt, Nat.le_refl _, by rw [HRk.out, HS.out]; omega, (HRd.out.drew _).setI hlt (by omega), (HMv.out.drew _).set 1 _⟩
            case measure => omega
          | false =>
            cases e32 : ((s[k].toNat : Int) == 32) with
            | true =>
              have HS := Lib.hid (sk_ws HG.out (by unfold isWS; simp only [beq_iff_eq, beq_eq_false_iff_ne] at *; simp [*]))
              go_wp2_with fail
              go_quiet (fail)
              go_wp2_with fail
              go_quiet (fail)
              have W1 : IntKind.i64.wrap ((k : Int) + 1) = (k : Int) + 1 := IntWalk.i64_in _ (by omega)
              go_wp2
              go_roundg (s.size - (k + 1))
              case rel => exact ⟨k + 1, hlt, Nat.le_refl _, by rw [HRk.out, HS.out]; omega, (HRd.out.drew _).setI hlt (by omega), (HMv.out.drew _).set 1 _⟩
              case measure => omega
            | false =>
              cases e35 : ((s[k].toNat : Int) == 35) with
              | true =>
                have h35 : (s[k].toNat : Int) = 35 := by simpa using e35
                have HG35 : Hid ((bs s)[k]? = some 35) := Lib.hid (by rw [HG.out, h35])
                have HS := Lib.hid (sk_comment HG35.out)
                have hl1 := HS.out.2.1
                have hl2 := HS.out.2.2
                rw [bs_length] at hl2
                have HRest := fun (n : Nat) => Lib.hid (lexRest_quiet rp s k hk (by omega) (wr.drewN n) (HRd.out.drew n).at_.c0 (HRd.out.drew n).at_.c1)
                have HLine := fun (W : World) => Lib.hid (by have := lineLen_any (s.extract k s.size) W; rwa [bs_from] at this)
                clear HG h35
                generalize lineL ((bs s).drop k) = N at *
                have W1 : IntKind.i64.wrap ((k : Int) + (N : Int)) = (k : Int) + (N : Int) := IntWalk.i64_in _ (by omega)
                go_wp2_with fail
                go_quiet (fail)
                go_wp2_with fail
                go_quiet (fail)
                go_wp2_with fail
                go_region_with (first | (go_at_call 98; refine (HRest _).out.mono ?_; rintro e w1 ⟨rfl, nq, rfl⟩) | (go_at_call 106; refine (HLine _).out.mono ?_; rintro e w1 ⟨rfl, rfl⟩))
                all_goals
                  go_wp2
                  go_roundg (s.size - (k + N))
                  case rel => exact ⟨k + N, hl2, Nat.le_refl _, by rw [HRk.out, HS.out.1]; omega, (HRd.out.drew _).setI hl2 (by omega), (HMv.out.drew _).set 1 _⟩
                  case measure => omega
              | false =>
                have HS := Lib.hid (sk_stop HG.out (by unfold isWS; simp only [beq_eq_false_iff_ne] at *; simp [*]) (by simpa using e35))
                have HE : Hid (R = k) := Lib.hid (by rw [HRk.out, HS.out]; rfl)
                go_wp2_with fail
                go_quiet (fail)
                go_wp2_with fail
                go_quiet (fail)
                go_wp2
                first | go_end0 | refine bodyPost_ret (results_none rfl _ _ _) rfl ?_
                exact ⟨rfl, HE.out ▸ HRd.out.drew _, HMv.out.drew _⟩
    · obtain rfl : k = s.size := by omega
      have HE : Hid (R = s.size) := Lib.hid (by rw [HRk.out, List.drop_eq_nil_of_le (by rw [bs_length]; exact Nat.le_refl _)]; rfl)
      go_wp2_with fail
      go_quiet (fail)
      go_wp2
      go_end0
      exact ⟨rfl, HE.out ▸ HRd.out.drew _, HMv.out.drew _⟩
end Go.Proofs.YtachijkjcbajmaaGreatDoor
