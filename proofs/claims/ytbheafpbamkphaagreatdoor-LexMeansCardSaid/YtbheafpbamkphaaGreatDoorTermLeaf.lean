/-
  CONTRACTS OF THE SMALL FUNCTIONS OF LAYER 2: which runes may stand where; escape.
-/
import Derived.Test.YtbheafpbamkphaaGreatDoorTermMath
import Derived.Test.YtbheafpbamkphaaGreatDoorShelf
import Derived.Deep.RegionWith
import Derived.RegionTactic
import Derived.ChangeAlike
namespace Go.Proofs.YtbheafpbamkphaaGreatDoor
open Go.RowKit
open Utf Term

theorem isSmall_any (r : Int) (w : World) : Calls Tryz.prog 99 #[.int .i64 r] w fun e w' => e = .returned (.bool (small r)) ∧ w = w' := by
  go_enter Tryz.func99, Tryz.ntmps99
  go_wp2
  all_goals
    go_ret
    exact ⟨ret_bool (by unfold small; simp_all <;> omega), rfl⟩
theorem isDigit_any (r : Int) (w : World) : Calls Tryz.prog 109 #[.int .i64 r] w fun e w' => e = .returned (.bool (digit r)) ∧ w = w' := by
  go_enter Tryz.func109, Tryz.ntmps109
  go_wp2
  all_goals
    go_ret
    exact ⟨ret_bool (by unfold digit; simp_all <;> omega), rfl⟩
theorem isSmallOrDigit_any (r : Int) (w : World) : Calls Tryz.prog 101 #[.int .i64 r] w fun e w' => e = .returned (.bool (smallDigit r)) ∧ w = w' := by
  cases hs : small r with
  | true =>
    have H := Lib.hid hs
    have C : Calls Tryz.prog 99 #[.int .i64 r] w fun e w' => e = .returned (.bool true) ∧ w = w' := by rw [← hs]; exact isSmall_any r w
    clear hs
    go_enter Tryz.func101, Tryz.ntmps101
    go_wp2_with (go_at_call 99; refine C.mono ?_; rintro e w' ⟨rfl, rfl⟩)
    go_ret
    exact ⟨ret_bool (by unfold smallDigit; rw [H.out]; rfl), rfl⟩
  | false =>
    have H := Lib.hid hs
    have C : Calls Tryz.prog 99 #[.int .i64 r] w fun e w' => e = .returned (.bool false) ∧ w = w' := by rw [← hs]; exact isSmall_any r w
    clear hs
    go_enter Tryz.func101, Tryz.ntmps101
    go_wp2_with (first | (go_at_call 99; refine C.mono ?_; rintro e w' ⟨rfl, rfl⟩) | (go_at_call 109; refine (isDigit_any r _).mono ?_; rintro e w' ⟨rfl, rfl⟩))
    go_ret
    exact ⟨ret_bool (by unfold smallDigit; rw [H.out]; rfl), rfl⟩
theorem isLetter_any (r : Int) (w : World) : Calls Tryz.prog 97 #[.int .i64 r] w fun e w' => e = .returned (.bool (letter r)) ∧ w = w' := by
  cases hs : small r with
  | true =>
    have H := Lib.hid hs
    have C : Calls Tryz.prog 99 #[.int .i64 r] w fun e w' => e = .returned (.bool true) ∧ w = w' := by rw [← hs]; exact isSmall_any r w
    clear hs
    go_enter Tryz.func97, Tryz.ntmps97
    go_wp2_with (go_at_call 99; refine C.mono ?_; rintro e w' ⟨rfl, rfl⟩)
    all_goals
      go_ret
      exact ⟨ret_bool (by unfold letter; rw [H.out]; rfl), rfl⟩
  | false =>
    have H := Lib.hid hs
    have C : Calls Tryz.prog 99 #[.int .i64 r] w fun e w' => e = .returned (.bool false) ∧ w = w' := by rw [← hs]; exact isSmall_any r w
    clear hs
    go_enter Tryz.func97, Tryz.ntmps97
    go_wp2_with (go_at_call 99; refine C.mono ?_; rintro e w' ⟨rfl, rfl⟩)
    all_goals
      go_ret
      exact ⟨ret_bool (by unfold letter; rw [H.out]; simp_all <;> omega), rfl⟩
theorem isLetterOrDigit_any (r : Int) (w : World) : Calls Tryz.prog 98 #[.int .i64 r] w fun e w' => e = .returned (.bool (letterDigit r)) ∧ w = w' := by
  cases hs : letter r with
  | true =>
    have H := Lib.hid hs
    have C : Calls Tryz.prog 97 #[.int .i64 r] w fun e w' => e = .returned (.bool true) ∧ w = w' := by rw [← hs]; exact isLetter_any r w
    clear hs
    go_enter Tryz.func98, Tryz.ntmps98
    go_wp2_with (go_at_call 97; refine C.mono ?_; rintro e w' ⟨rfl, rfl⟩)
    go_ret
    exact ⟨ret_bool (by unfold letterDigit; rw [H.out]; rfl), rfl⟩
  | false =>
    have H := Lib.hid hs
    have C : Calls Tryz.prog 97 #[.int .i64 r] w fun e w' => e = .returned (.bool false) ∧ w = w' := by rw [← hs]; exact isLetter_any r w
    clear hs
    go_enter Tryz.func98, Tryz.ntmps98
    go_wp2_with (first | (go_at_call 97; refine C.mono ?_; rintro e w' ⟨rfl, rfl⟩) | (go_at_call 109; refine (isDigit_any r _).mono ?_; rintro e w' ⟨rfl, rfl⟩))
    go_ret
    exact ⟨ret_bool (by unfold letterDigit; rw [H.out]; rfl), rfl⟩

namespace Term
def digits16 : ByteArray := ⟨#[48, 49, 50, 51, 52, 53, 54, 55, 56, 57, 65, 66, 67, 68, 69, 70]⟩
theorem hex_text : ∀ n : Fin 8, ∀ m : Fin 16, (⟨#[92, 117, 48, 48]⟩ : ByteArray) ++ digits16.extract n.val (n.val + 1) ++ digits16.extract m.val (m.val + 1) = strOfNums [92, 117, 48, 48, hex (n.val : Nat), hex (m.val : Nat)] := by decide +kernel
end Term
theorem slice_digit (p : Int) (h0 : 0 ≤ p) (h1 : p ≤ 15) (w : World) : (Instr.slice 9 (.string ⟨#[48, 49, 50, 51, 52, 53, 54, 55, 56, 57, 65, 66, 67, 68, 69, 70]⟩) (some (.int .i64 p)) (some (.int .i64 (p + 1))) none).run Tryz.prog w = .ok (.string (digits16.extract p.toNat (p.toNat + 1))) w := by
  rw [run_slice_string w 9 _ .i64 .i64 p (p + 1) Tryz.underlying9 h0 (by omega) (by show p + 1 ≤ ((16 : Nat) : Int); omega)]
  rw [show (p + 1).toNat = p.toNat + 1 by omega]
  rfl
theorem ret_str {a b : ByteArray} (h : a = b) : Ending.returned (.string a) = .returned (.string b) := by rw [h]
end Go.Proofs.YtbheafpbamkphaaGreatDoor
