/-
  WHAT THE PROOF STANDS ON, a part of it: CkOr.
-/
import Derived.Test.YtlkiigoblkfkpaaGreatDoorC2
import Derived.Test.YtlkiigoblkfkpaaGreatDoorProg
import Derived.Below
import Derived.Great.Walk
import Derived.Deep.LoopGhost
import Derived.Lib.Hide
import Derived.WalkKit
import Derived.Laws.Cover1
/-
  CONTRACTS OF cmp.Or AT INTS, cmp.Compare AT STRINGS AND AT KINDS OF PARTS.
-/

namespace Go.Proofs.YtlkiigoblkfkpaaGreatDoor
open Go.RowKit
open Term
set_option linter.unusedVariables false
set_option linter.unusedSimpArgs false

def orI (x y : Int) : Int := if x = 0 then y else x
set_option maxRecDepth 100000 in
theorem ckOr_any (x y : Int) (g cap : Nat) (w : World) (h0 : w.cell? ⟨g, 0, none⟩ = some (.int .i64 x)) (h1 : w.cell? ⟨g, 1, none⟩ = some (.int .i64 y)) :
    Calls Tryz.prog 55 #[.slice (some ⟨g, 0, none⟩) 2 cap] w fun e w' => e = .returned (.int .i64 (orI x y)) ∧ w = w' := by
  by_cases hx : x = 0
  · have HR : Hid (orI x y = y) := Lib.hid (if_pos hx)
    have e1 : (x != 0) = false := by simp [hx]
    generalize orI x y = R at *
    clear hx
    by_cases hy : y = 0
    · have e2 : (y != 0) = false := by simp [hy]
      have HY := Lib.hid hy
      clear hy
      go_enter Tryz.func55, Tryz.ntmps55
      go_wp2
      refine wp_loop_rounds 3 ?_
      rw [rounds_succ]
      go_wp2
      rw [rounds_succ]
      go_wp2
      rw [rounds_succ]
      go_wp2
      go_ret
      exact ⟨by rw [HR.out, HY.out] <;> rfl, rfl⟩
    · have e2 : (y != 0) = true := by simp [hy]
      clear hy
      go_enter Tryz.func55, Tryz.ntmps55
      go_wp2
      refine wp_loop_rounds 3 ?_
      rw [rounds_succ]
      go_wp2
      rw [rounds_succ]
      go_wp2
      go_ret
      exact ⟨by rw [HR.out] <;> rfl, rfl⟩
  · have HR : Hid (orI x y = x) := Lib.hid (if_neg hx)
    have e1 : (x != 0) = true := by simp [hx]
    generalize orI x y = R at *
    clear hx
    go_enter Tryz.func55, Tryz.ntmps55
    go_wp2
    refine wp_loop_rounds 3 ?_
    rw [rounds_succ]
    go_wp2
    go_ret
    exact ⟨by rw [HR.out] <;> rfl, rfl⟩
theorem ckNaNS_any (s : ByteArray) (w : World) : Calls Tryz.prog 80 #[.string s] w fun e w' => e = .returned (.bool false) ∧ w = w' := by
  go_enter Tryz.func80, Tryz.ntmps80
  go_wp2
  go_ret
  simp
theorem ckNaNK_any (k : Int) (w : World) : Calls Tryz.prog 71 #[.int .i64 k] w fun e w' => e = .returned (.bool false) ∧ w = w' := by
  go_enter Tryz.func71, Tryz.ntmps71
  go_wp2
  go_ret
  simp
theorem ckLess_lt {t t' : ByteArray} (h : cmpB t t' = -1) : Op.bytesLess t.toList t'.toList = true := by
  rw [ByteArray.toList_eq, ByteArray.toList_eq, less_cmp]
  unfold cmpB at h
  rw [h]
  rfl
theorem ckLess_gt {t t' : ByteArray} (h : cmpB t t' = 1) : Op.bytesLess t.toList t'.toList = false ∧ (t.toList == t'.toList) = false := by
  constructor
  · rw [ByteArray.toList_eq, ByteArray.toList_eq, less_cmp]
    unfold cmpB at h
    rw [h]
    rfl
  · rw [ByteArray.toList_eq, ByteArray.toList_eq]
    rw [beq_eq_false_iff_ne]
    intro e
    unfold cmpB at h
    rw [(list_zero _ _).2 e] at h
    cases h
theorem ckLess_self (t : ByteArray) : Op.bytesLess t.toList t.toList = false := by
  rw [ByteArray.toList_eq, less_cmp, (list_zero _ _).2 rfl]; rfl
set_option maxRecDepth 100000 in
theorem ckCmpS_any (t t' : ByteArray) (w : World) : Calls Tryz.prog 69 #[.string t, .string t'] w fun e w' => e = .returned (.int .i64 (cmpB t t')) ∧ w = w' := by
  have HN := Lib.hid ckNaNS_any
  have ha := ord_text.anti t t'
  rcases ord_text.range t t' with h | h | h
  · have e1 := ckLess_lt h
    rw [h]
    clear h ha
    go_enter Tryz.func69, Tryz.ntmps69
    go_wp2_with (go_at_call 80; refine (HN.out _ _).mono ?_; rintro e w' ⟨rfl, rfl⟩)
    go_ret
    exact ⟨rfl, rfl⟩
  · rw [h]
    obtain rfl := ord_text.of_eq h
    have e1 := ckLess_self t
    clear h ha
    go_enter Tryz.func69, Tryz.ntmps69
    go_wp2_with (go_at_call 80; refine (HN.out _ _).mono ?_; rintro e w' ⟨rfl, rfl⟩)
    go_ret
    exact ⟨rfl, rfl⟩
  · obtain ⟨e1, e2⟩ := ckLess_gt h
    rw [h]
    clear h ha
    go_enter Tryz.func69, Tryz.ntmps69
    go_wp2_with (go_at_call 80; refine (HN.out _ _).mono ?_; rintro e w' ⟨rfl, rfl⟩)
    go_ret
    exact ⟨rfl, rfl⟩
theorem ckCmpK_any (k k' : Int) (w : World) : Calls Tryz.prog 54 #[.int .i64 k, .int .i64 k'] w fun e w' => e = .returned (.int .i64 (cmpI k k')) ∧ w = w' := by
  have HN := Lib.hid ckNaNK_any
  by_cases h1 : k < k'
  · have HR : Hid (cmpI k k' = -1) := Lib.hid (by unfold cmpI; rw [if_pos h1])
    have e1 : decide (k < k') = true := by simpa using h1
    generalize cmpI k k' = R at *
    clear h1
    go_enter Tryz.func54, Tryz.ntmps54
    go_wp2_with (go_at_call 71; refine (HN.out _ _).mono ?_; rintro e w' ⟨rfl, rfl⟩)
    go_ret
    exact ⟨by rw [HR.out] <;> rfl, rfl⟩
  · have e1 : decide (k < k') = false := by simpa using h1
    by_cases h2 : k' < k
    · have HR : Hid (cmpI k k' = 1) := Lib.hid (by unfold cmpI; rw [if_neg h1, if_pos h2])
      have e2 : decide (k' < k) = true := by simpa using h2
      generalize cmpI k k' = R at *
      clear h1 h2
      go_enter Tryz.func54, Tryz.ntmps54
      go_wp2_with (go_at_call 71; refine (HN.out _ _).mono ?_; rintro e w' ⟨rfl, rfl⟩)
      go_ret
      exact ⟨by rw [HR.out] <;> rfl, rfl⟩
    · have HR : Hid (cmpI k k' = 0) := Lib.hid (by unfold cmpI; rw [if_neg h1, if_neg h2])
      have e2 : decide (k' < k) = false := by simpa using h2
      generalize cmpI k k' = R at *
      clear h1 h2
      go_enter Tryz.func54, Tryz.ntmps54
      go_wp2_with (go_at_call 71; refine (HN.out _ _).mono ?_; rintro e w' ⟨rfl, rfl⟩)
      go_ret
      exact ⟨by rw [HR.out] <;> rfl, rfl⟩
end Go.Proofs.YtlkiigoblkfkpaaGreatDoor

