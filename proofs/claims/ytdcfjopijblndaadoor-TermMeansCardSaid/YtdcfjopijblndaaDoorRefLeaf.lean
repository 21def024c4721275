/-
  CONTRACTS OF THE REFERENCE OF LAYER 2: Valid, in, Letter, Digit, IRI, Word.
-/
import Derived.Test.YtdcfjopijblndaaDoorTermText
import Derived.Test.YtdcfjopijblndaaDoorUtfRunesRef
import Derived.LoopTactic
namespace Go.Proofs.YtdcfjopijblndaaDoor
open Go.RowKit
open Utf Term
set_option linter.unusedVariables false

theorem refvalid_any (s : ByteArray) (hs : s.size ≤ 9000) (w : World) :
    Calls Tryd.prog 38 #[.string s] w fun e w' => e = .returned (.bool (valid (bs s))) ∧ Below w.heap.size w w' := by
  have C := refrunes_any s w hs
  have hv : valid (bs s) = ((endR (allR (bs s)) : Int) == (s.size : Int)) := by unfold valid; rw [bs_length]
  rw [hv]
  clear hv
  generalize (endR (allR (bs s)) : Nat) = E at *
  go_enter Tryd.func38, Tryd.ntmps38
  go_wp2_with (go_at_call 61; refine C.mono ?_; rintro e w2 ⟨v, rfl, _, hB⟩)
  go_ret
  exact ⟨rfl, hB⟩

theorem refLetter_any (c : Int) (w : World) : Calls Tryd.prog 63 #[.int .u8 c] w fun e w' => e = .returned (.bool (letter c)) ∧ w = w' := by
  by_cases h1 : 65 ≤ c
  · by_cases h2 : c ≤ 90
    · have hr : letter c = true := by simp [letter, small]; omega
      go_enter Tryd.func63, Tryd.ntmps63
      have hd : decide (65 ≤ c) = true := by simpa using h1
      have hd2 : decide (c ≤ 90) = true := by simpa using h2
      go_wp2
      go_ret
      exact ⟨ret_bool hr.symm, rfl⟩
    · have hr : letter c = (decide (97 ≤ c) && decide (c ≤ 122)) := by simp [letter, small]; omega
      have hd : decide (65 ≤ c) = true := by simpa using h1
      have hd2 : decide (c ≤ 90) = false := by simpa using h2
      rw [hr]
      clear hr
      go_enter Tryd.func63, Tryd.ntmps63
      go_wp2
      all_goals
        go_ret
        refine ⟨ret_bool ?_, rfl⟩
        simp_all <;> omega
  · have hr : letter c = false := by simp [letter, small]; omega
    have hd : decide (65 ≤ c) = false := by simpa using h1
    have hd2 : decide (97 ≤ c) = false := by simp; omega
    rw [hr]
    clear hr
    go_enter Tryd.func63, Tryd.ntmps63
    go_wp2
    all_goals
      go_ret
      exact ⟨rfl, rfl⟩

theorem refDigit_any (c : Int) (w : World) : Calls Tryd.prog 64 #[.int .u8 c] w fun e w' => e = .returned (.bool (digit c)) ∧ w = w' := by
  go_enter Tryd.func64, Tryd.ntmps64
  go_wp2
  all_goals
    go_ret
    exact ⟨ret_bool (by unfold digit; simp_all <;> omega), rfl⟩

theorem bs_take_step (s : ByteArray) (k : Nat) (h : k < s.size) : (bs s).take (k + 1) = (bs s).take k ++ [(s[k].toNat : Int)] := by
  rw [List.take_add_one, bs_get s k h]
  rfl
theorem bs_take_all (s : ByteArray) : (bs s).take s.size = bs s := List.take_of_length_le (by rw [bs_length]; exact Nat.le_refl _)

set_option maxRecDepth 100000 in
theorem in_any (c : Int) (s : ByteArray) (hs : s.size ≤ 9000) (w : World) : Calls Tryd.prog 62 #[.int .u8 c, .string s] w fun e w' => e = .returned (.bool ((bs s).contains c)) ∧ w = w' := by
  go_enter Tryd.func62, Tryd.ntmps62
  go_wp2
  go_loop [5] (fun i => ∃ k : Nat, k ≤ s.size ∧ i = .int .i64 k ∧ ((bs s).take k).contains c = false) (fun i => s.size - (intOf i).toNat)
  case atStart => exact ⟨0, Nat.zero_le _, rfl, rfl⟩
  case round =>
    obtain ⟨k, hk, rfl, hno⟩ := hrel
    have HN := Lib.hid hno
    clear hno
    by_cases hlt : k < s.size
    · have HT := Lib.hid (bs_take_step s k hlt)
      have HM : Hid ((s[k].toNat : Int) ∈ bs s) := Lib.hid (by
        have := bs_get s k hlt
        exact List.mem_of_getElem? this)
      generalize hx : (s[k].toNat : Int) = x at *
      by_cases he : x = c
      · subst he
        have hxe : ((s[k].toNat : Int) == x) = true := by rw [hx]; simp
        have HR : Hid ((bs s).contains x = true) := Lib.hid (by simpa using HM.out)
        clear hx
        go_wp2
        go_ret
        exact ⟨ret_bool (by simpa using HR.out), rfl⟩
      · have hxe : ((s[k].toNat : Int) == c) = false := by rw [hx]; simpa using he
        have HR : Hid (((bs s).take (k + 1)).contains c = false) := Lib.hid (by
          rw [HT.out, List.contains_append, HN.out]
          simpa using fun h => he h.symm)
        clear hx he
        go_wp2
        go_round
        case rel => exact ⟨k + 1, by omega, by go_num, HR.out⟩
        case measure => simp [intOf]; omega
    · obtain rfl : k = s.size := by omega
      rw [bs_take_all] at HN
      go_wp2
      go_ret
      exact ⟨ret_bool (by simpa using HN.out), rfl⟩
end Go.Proofs.YtdcfjopijblndaaDoor
