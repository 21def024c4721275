/-
  WHAT THE PROOF STANDS ON, a part of it: LexRefIs.
-/
import Derived.Test.YtbcoklbfebmpoaaGreatDoorV36
import Derived.Deep.Draws
/-
  CONTRACTS OF THE REFERENCE's Mark, Word. Written by tools/genrefwordis.py.
-/

namespace Go.Proofs.YtbcoklbfebmpoaaGreatDoor
open Go.RowKit
open Utf Term Lex
set_option linter.unusedVariables false
set_option linter.unusedSimpArgs false

theorem refMarkIs_any (k : Int) (t : ByteArray) (tk : Int) (tt te : ByteArray) (p : Int) (m : ByteArray) (w : World) :
    Calls Tryz.prog 62 #[.agg (symC k t tk tt te p), .string m] w fun e w' => e = .returned (.bool (markB k (bs t) (bs m))) ∧ Below w.heap.size w w' := by
  have HS := Lib.hid (str_beq t m)
  have HB := Lib.hid (below_lex w (.cells (symC k t tk tt te p) 64))
  cases e8 : (k == 8) with
  | true =>
    have HV : Hid (markB k (bs t) (bs m) = (t.toList == m.toList)) := Lib.hid (by unfold markB; rw [e8, HS.out, Bool.true_and])
    rw [HV.out]
    go_enter Tryz.func62, Tryz.ntmps62
    go_wp2
    go_ret
    exact ⟨rfl, HB.out⟩
  | false =>
    have HV : Hid (markB k (bs t) (bs m) = false) := Lib.hid (by unfold markB; rw [e8, Bool.false_and])
    rw [HV.out]
    go_enter Tryz.func62, Tryz.ntmps62
    go_wp2
    go_ret
    exact ⟨rfl, HB.out⟩

theorem up_cases (c : Int) : (65 ≤ c ∧ c ≤ 90 ∧ toS c = c + 32) ∨ (¬ 65 ≤ c ∧ toS c = c) ∨ (65 ≤ c ∧ ¬ c ≤ 90 ∧ toS c = c) := by
  unfold toS
  by_cases h1 : 65 ≤ c
  · by_cases h2 : c ≤ 90
    · exact .inl ⟨h1, h2, if_pos ⟨h1, h2⟩⟩
    · exact .inr (.inr ⟨h1, h2, if_neg fun h => h2 h.2⟩)
  · exact .inr (.inl ⟨h1, if_neg fun h => h1 h.1⟩)

set_option maxRecDepth 100000 in
set_option maxHeartbeats 8000000 in
theorem refWordIs_any (k : Int) (t : ByteArray) (ht : t.size ≤ 1000000000) (tk : Int) (tt te : ByteArray) (p : Int) (m : ByteArray) (w : World) :
    Calls Tryz.prog 24 #[.agg (symC k t tk tt te p), .string m] w fun e w' => e = .returned (.bool (wordB k (bs t) (bs m))) ∧ Below w.heap.size w w' := by
  have HB := Lib.hid (below_lex w (.cells (symC k t tk tt te p) 64))
  have HZ := Lib.hid (block_new w (symC k t tk tt te p) 64)
  cases e6 : (k == 6) with
  | false =>
    have HV : Hid (wordB k (bs t) (bs m) = false) := Lib.hid (by unfold wordB; rw [e6, Bool.false_and])
    have n6 : (k != 6) = true := by rw [bne, e6]; rfl
    rw [HV.out]
    go_enter Tryz.func24, Tryz.ntmps24
    go_wp2
    go_ret
    exact ⟨rfl, HB.out⟩
  | true =>
    have n6 : (k != 6) = false := by rw [bne, e6]; rfl
    have HV : Hid (wordB k (bs t) (bs m) = sameL (bs t) (bs m)) := Lib.hid (by unfold wordB; rw [e6, Bool.true_and])
    rw [HV.out]
    clear HV e6
    obtain ⟨V, hV⟩ : ∃ V, V = sameL (bs t) (bs m) := ⟨_, rfl⟩
    rw [← hV]
    have HV := Lib.hid hV
    clear hV
    by_cases hl : t.size = m.size
    · have e0 : ((t.size : Int) != (m.size : Int)) = false := by simp [hl]
      have HL := Lib.hid hl
      have hle : m.size ≤ 1000000000 := by omega
      clear hl
      go_enter Tryz.func24, Tryz.ntmps24
      go_wp2
      generalize w.alloc (.cells (symC k t tk tt te p) 64) = w0 at *
      obtain ⟨n, hn⟩ : ∃ n, n = m.size := ⟨_, rfl⟩
      have c1 := HZ.out.cell (j := 1) rfl
      go_loopg [5, 6, 7] n (fun g i a b wr => ∃ j q : Nat, j ≤ n ∧ n - j ≤ g ∧ i = .int .i64 j ∧ ((bs t).take j).map toS = ((bs m).take j).map toS ∧ wr = w0.drewN q)
      case atStart => exact ⟨0, 0, Nat.zero_le _, by omega, rfl, rfl, rfl⟩
      case round =>
        obtain ⟨j, q, hj, hg, rfl, hso, rfl⟩ := hrel
        have HSo := Lib.hid hso
        clear hso
        by_cases hlt : j < m.size
        · have hlb : j < t.size := by have := HL.out; omega
          have HA := Lib.hid (bs_get t j hlb)
          have HBb := Lib.hid (bs_get m j hlt)
          have d1 : decide ((j : Int) < (m.size : Int)) = true := by simpa using hlt
          have i0 : (0 : Int) ≤ (j : Int) := by omega
          have i1 : (j : Int) < (m.size : Int) := by omega
          have i2 : (j : Int) < (t.size : Int) := by omega
          have ba := byte_bd t[j]
          have bb := byte_bd m[j]
          have HS1 : Hid (toS (t[j].toNat : Int) = toS (m[j].toNat : Int) → ((bs t).take (j + 1)).map toS = ((bs m).take (j + 1)).map toS) := Lib.hid (fun he => sameL_step HA.out HBb.out HSo.out he)
          have HS2 : Hid (toS (t[j].toNat : Int) ≠ toS (m[j].toNat : Int) → V = false) := Lib.hid (fun he => by rw [HV.out]; exact sameL_no HA.out HBb.out he)
          clear HA HBb HSo HV
          go_wp2_with fail
          go_quiet (fail)
          generalize (t[j].toNat : Int) = x at *
          generalize (m[j].toNat : Int) = y at *
          rcases up_cases x with ⟨x1, x2, x3⟩ | ⟨x1, x3⟩ | ⟨x1, x2, x3⟩ <;> rcases up_cases y with ⟨y1, y2, y3⟩ | ⟨y1, y3⟩ | ⟨y1, y2, y3⟩
          · rw [x3, y3] at HS1 HS2
            have tx1 : decide ((65 : Int) ≤ x) = true := by simpa using x1
            have tx2 : decide (x ≤ (90 : Int)) = true := by simpa using x2
            have ty1 : decide ((65 : Int) ≤ y) = true := by simpa using y1
            have ty2 : decide (y ≤ (90 : Int)) = true := by simpa using y2
            by_cases he : x + 32 = y + 32
            · have ee : ((x + 32) != (y + 32)) = false := by simp [he]
              have HN := Lib.hid (HS1.out he)
              clear he x3 y3 HS1 HS2
              go_wp2_with fail
              go_roundg (n - (j + 1))
              case measure => omega
              case rel => exact ⟨j + 1, _, by omega, Nat.le_refl _, by go_num, HN.out, rfl⟩
            · have ee : ((x + 32) != (y + 32)) = true := by simpa using he
              have HN := Lib.hid (HS2.out he)
              clear he x3 y3 HS1 HS2
              go_wp2_with fail
              go_ret
              exact ⟨ret_bool HN.out.symm, HB.out.trans (lex_drewN _ _ _)⟩
          · rw [x3, y3] at HS1 HS2
            have tx1 : decide ((65 : Int) ≤ x) = true := by simpa using x1
            have tx2 : decide (x ≤ (90 : Int)) = true := by simpa using x2
            have ty1 : decide ((65 : Int) ≤ y) = false := by simpa using y1
            by_cases he : x + 32 = y
            · have ee : ((x + 32) != (y)) = false := by simp [he]
              have HN := Lib.hid (HS1.out he)
              clear he x3 y3 HS1 HS2
              go_wp2_with fail
              go_roundg (n - (j + 1))
              case measure => omega
              case rel => exact ⟨j + 1, _, by omega, Nat.le_refl _, by go_num, HN.out, rfl⟩
            · have ee : ((x + 32) != (y)) = true := by simpa using he
              have HN := Lib.hid (HS2.out he)
              clear he x3 y3 HS1 HS2
              go_wp2_with fail
              go_ret
              exact ⟨ret_bool HN.out.symm, HB.out.trans (lex_drewN _ _ _)⟩
          · rw [x3, y3] at HS1 HS2
            have tx1 : decide ((65 : Int) ≤ x) = true := by simpa using x1
            have tx2 : decide (x ≤ (90 : Int)) = true := by simpa using x2
            have ty1 : decide ((65 : Int) ≤ y) = true := by simpa using y1
            have ty2 : decide (y ≤ (90 : Int)) = false := by simpa using y2
            by_cases he : x + 32 = y
            · have ee : ((x + 32) != (y)) = false := by simp [he]
              have HN := Lib.hid (HS1.out he)
              clear he x3 y3 HS1 HS2
              go_wp2_with fail
              go_roundg (n - (j + 1))
              case measure => omega
              case rel => exact ⟨j + 1, _, by omega, Nat.le_refl _, by go_num, HN.out, rfl⟩
            · have ee : ((x + 32) != (y)) = true := by simpa using he
              have HN := Lib.hid (HS2.out he)
              clear he x3 y3 HS1 HS2
              go_wp2_with fail
              go_ret
              exact ⟨ret_bool HN.out.symm, HB.out.trans (lex_drewN _ _ _)⟩
          · rw [x3, y3] at HS1 HS2
            have tx1 : decide ((65 : Int) ≤ x) = false := by simpa using x1
            have ty1 : decide ((65 : Int) ≤ y) = true := by simpa using y1
            have ty2 : decide (y ≤ (90 : Int)) = true := by simpa using y2
            by_cases he : x = y + 32
            · have ee : ((x) != (y + 32)) = false := by simp [he]
              have HN := Lib.hid (HS1.out he)
              clear he x3 y3 HS1 HS2
              go_wp2_with fail
              go_roundg (n - (j + 1))
              case measure => omega
              case rel => exact ⟨j + 1, _, by omega, Nat.le_refl _, by go_num, HN.out, rfl⟩
            · have ee : ((x) != (y + 32)) = true := by simpa using he
              have HN := Lib.hid (HS2.out he)
              clear he x3 y3 HS1 HS2
              go_wp2_with fail
              go_ret
              exact ⟨ret_bool HN.out.symm, HB.out.trans (lex_drewN _ _ _)⟩
          · rw [x3, y3] at HS1 HS2
            have tx1 : decide ((65 : Int) ≤ x) = false := by simpa using x1
            have ty1 : decide ((65 : Int) ≤ y) = false := by simpa using y1
            by_cases he : x = y
            · have ee : ((x) != (y)) = false := by simp [he]
              have HN := Lib.hid (HS1.out he)
              clear he x3 y3 HS1 HS2
              go_wp2_with fail
              go_roundg (n - (j + 1))
              case measure => omega
              case rel => exact ⟨j + 1, _, by omega, Nat.le_refl _, by go_num, HN.out, rfl⟩
            · have ee : ((x) != (y)) = true := by simpa using he
              have HN := Lib.hid (HS2.out he)
              clear he x3 y3 HS1 HS2
              go_wp2_with fail
              go_ret
              exact ⟨ret_bool HN.out.symm, HB.out.trans (lex_drewN _ _ _)⟩
          · rw [x3, y3] at HS1 HS2
            have tx1 : decide ((65 : Int) ≤ x) = false := by simpa using x1
            have ty1 : decide ((65 : Int) ≤ y) = true := by simpa using y1
            have ty2 : decide (y ≤ (90 : Int)) = false := by simpa using y2
            by_cases he : x = y
            · have ee : ((x) != (y)) = false := by simp [he]
              have HN := Lib.hid (HS1.out he)
              clear he x3 y3 HS1 HS2
              go_wp2_with fail
              go_roundg (n - (j + 1))
              case measure => omega
              case rel => exact ⟨j + 1, _, by omega, Nat.le_refl _, by go_num, HN.out, rfl⟩
            · have ee : ((x) != (y)) = true := by simpa using he
              have HN := Lib.hid (HS2.out he)
              clear he x3 y3 HS1 HS2
              go_wp2_with fail
              go_ret
              exact ⟨ret_bool HN.out.symm, HB.out.trans (lex_drewN _ _ _)⟩
          · rw [x3, y3] at HS1 HS2
            have tx1 : decide ((65 : Int) ≤ x) = true := by simpa using x1
            have tx2 : decide (x ≤ (90 : Int)) = false := by simpa using x2
            have ty1 : decide ((65 : Int) ≤ y) = true := by simpa using y1
            have ty2 : decide (y ≤ (90 : Int)) = true := by simpa using y2
            by_cases he : x = y + 32
            · have ee : ((x) != (y + 32)) = false := by simp [he]
              have HN := Lib.hid (HS1.out he)
              clear he x3 y3 HS1 HS2
              go_wp2_with fail
              go_roundg (n - (j + 1))
              case measure => omega
              case rel => exact ⟨j + 1, _, by omega, Nat.le_refl _, by go_num, HN.out, rfl⟩
            · have ee : ((x) != (y + 32)) = true := by simpa using he
              have HN := Lib.hid (HS2.out he)
              clear he x3 y3 HS1 HS2
              go_wp2_with fail
              go_ret
              exact ⟨ret_bool HN.out.symm, HB.out.trans (lex_drewN _ _ _)⟩
          · rw [x3, y3] at HS1 HS2
            have tx1 : decide ((65 : Int) ≤ x) = true := by simpa using x1
            have tx2 : decide (x ≤ (90 : Int)) = false := by simpa using x2
            have ty1 : decide ((65 : Int) ≤ y) = false := by simpa using y1
            by_cases he : x = y
            · have ee : ((x) != (y)) = false := by simp [he]
              have HN := Lib.hid (HS1.out he)
              clear he x3 y3 HS1 HS2
              go_wp2_with fail
              go_roundg (n - (j + 1))
              case measure => omega
              case rel => exact ⟨j + 1, _, by omega, Nat.le_refl _, by go_num, HN.out, rfl⟩
            · have ee : ((x) != (y)) = true := by simpa using he
              have HN := Lib.hid (HS2.out he)
              clear he x3 y3 HS1 HS2
              go_wp2_with fail
              go_ret
              exact ⟨ret_bool HN.out.symm, HB.out.trans (lex_drewN _ _ _)⟩
          · rw [x3, y3] at HS1 HS2
            have tx1 : decide ((65 : Int) ≤ x) = true := by simpa using x1
            have tx2 : decide (x ≤ (90 : Int)) = false := by simpa using x2
            have ty1 : decide ((65 : Int) ≤ y) = true := by simpa using y1
            have ty2 : decide (y ≤ (90 : Int)) = false := by simpa using y2
            by_cases he : x = y
            · have ee : ((x) != (y)) = false := by simp [he]
              have HN := Lib.hid (HS1.out he)
              clear he x3 y3 HS1 HS2
              go_wp2_with fail
              go_roundg (n - (j + 1))
              case measure => omega
              case rel => exact ⟨j + 1, _, by omega, Nat.le_refl _, by go_num, HN.out, rfl⟩
            · have ee : ((x) != (y)) = true := by simpa using he
              have HN := Lib.hid (HS2.out he)
              clear he x3 y3 HS1 HS2
              go_wp2_with fail
              go_ret
              exact ⟨ret_bool HN.out.symm, HB.out.trans (lex_drewN _ _ _)⟩
        · have d1 : decide ((j : Int) < (m.size : Int)) = false := by simp; omega
          have HN : Hid (V = true) := Lib.hid (by
            rw [HV.out]
            unfold sameL
            have h := HSo.out
            rw [List.take_of_length_le (by rw [bs_length]; have := HL.out; omega), List.take_of_length_le (by rw [bs_length]; omega)] at h
            exact decide_eq_true h)
          go_wp2_with fail
          go_ret
          exact ⟨ret_bool HN.out.symm, HB.out.trans (lex_drewN _ _ _)⟩
    · have e0 : ((t.size : Int) != (m.size : Int)) = true := by simp; omega
      have HN : Hid (V = false) := Lib.hid (by
        rw [HV.out]
        unfold sameL
        refine decide_eq_false (fun h => hl ?_)
        have := congrArg List.length h
        simpa [bs_length] using this)
      clear hl
      go_enter Tryz.func24, Tryz.ntmps24
      go_wp2
      go_ret
      exact ⟨ret_bool HN.out.symm, HB.out⟩
end Go.Proofs.YtbcoklbfebmpoaaGreatDoor

