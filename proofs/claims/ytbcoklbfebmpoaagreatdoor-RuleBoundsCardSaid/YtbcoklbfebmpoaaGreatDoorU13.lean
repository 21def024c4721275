/-
  WHAT THE PROOF STANDS ON, a part of it: TermLeaf.
-/
import Derived.Test.YtbcoklbfebmpoaaGreatDoorU11
import Derived.Test.YtbcoklbfebmpoaaGreatDoorU10
import Derived.Deep.RegionWith
import Derived.RegionTactic
import Derived.ChangeAlike
/-
  CONTRACTS OF THE SMALL FUNCTIONS OF LAYER 2: which runes may stand where; escape.
-/

namespace Go.Proofs.YtbcoklbfebmpoaaGreatDoor
open Go.RowKit
open Utf Term

theorem isSmall_any (r : Int) (w : World) : Calls Tryz.prog 129 #[.int .i64 r] w fun e w' => e = .returned (.bool (small r)) ∧ w = w' := by
  go_enter Tryz.func129, Tryz.ntmps129
  go_wp2
  all_goals
    go_ret
    exact ⟨ret_bool (by unfold small; simp_all <;> omega), rfl⟩
theorem isDigit_any (r : Int) (w : World) : Calls Tryz.prog 150 #[.int .i64 r] w fun e w' => e = .returned (.bool (digit r)) ∧ w = w' := by
  go_enter Tryz.func150, Tryz.ntmps150
  go_wp2
  all_goals
    go_ret
    exact ⟨ret_bool (by unfold digit; simp_all <;> omega), rfl⟩
theorem isSmallOrDigit_any (r : Int) (w : World) : Calls Tryz.prog 131 #[.int .i64 r] w fun e w' => e = .returned (.bool (smallDigit r)) ∧ w = w' := by
  cases hs : small r with
  | true =>
    have H := Lib.hid hs
    have C : Calls Tryz.prog 129 #[.int .i64 r] w fun e w' => e = .returned (.bool true) ∧ w = w' := by rw [← hs]; exact isSmall_any r w
    clear hs
    go_enter Tryz.func131, Tryz.ntmps131
    go_wp2_with (go_at_call 129; refine C.mono ?_; rintro e w' ⟨rfl, rfl⟩)
    go_ret
    exact ⟨ret_bool (by unfold smallDigit; rw [H.out]; rfl), rfl⟩
  | false =>
    have H := Lib.hid hs
    have C : Calls Tryz.prog 129 #[.int .i64 r] w fun e w' => e = .returned (.bool false) ∧ w = w' := by rw [← hs]; exact isSmall_any r w
    clear hs
    go_enter Tryz.func131, Tryz.ntmps131
    go_wp2_with (first | (go_at_call 129; refine C.mono ?_; rintro e w' ⟨rfl, rfl⟩) | (go_at_call 150; refine (isDigit_any r _).mono ?_; rintro e w' ⟨rfl, rfl⟩))
    go_ret
    exact ⟨ret_bool (by unfold smallDigit; rw [H.out]; rfl), rfl⟩
theorem isLetter_any (r : Int) (w : World) : Calls Tryz.prog 127 #[.int .i64 r] w fun e w' => e = .returned (.bool (letter r)) ∧ w = w' := by
  cases hs : small r with
  | true =>
    have H := Lib.hid hs
    have C : Calls Tryz.prog 129 #[.int .i64 r] w fun e w' => e = .returned (.bool true) ∧ w = w' := by rw [← hs]; exact isSmall_any r w
    clear hs
    go_enter Tryz.func127, Tryz.ntmps127
    go_wp2_with (go_at_call 129; refine C.mono ?_; rintro e w' ⟨rfl, rfl⟩)
    all_goals
      go_ret
      exact ⟨ret_bool (by unfold letter; rw [H.out]; rfl), rfl⟩
  | false =>
    have H := Lib.hid hs
    have C : Calls Tryz.prog 129 #[.int .i64 r] w fun e w' => e = .returned (.bool false) ∧ w = w' := by rw [← hs]; exact isSmall_any r w
    clear hs
    go_enter Tryz.func127, Tryz.ntmps127
    go_wp2_with (go_at_call 129; refine C.mono ?_; rintro e w' ⟨rfl, rfl⟩)
    all_goals
      go_ret
      exact ⟨ret_bool (by unfold letter; rw [H.out]; simp_all <;> omega), rfl⟩
theorem isLetterOrDigit_any (r : Int) (w : World) : Calls Tryz.prog 128 #[.int .i64 r] w fun e w' => e = .returned (.bool (letterDigit r)) ∧ w = w' := by
  cases hs : letter r with
  | true =>
    have H := Lib.hid hs
    have C : Calls Tryz.prog 127 #[.int .i64 r] w fun e w' => e = .returned (.bool true) ∧ w = w' := by rw [← hs]; exact isLetter_any r w
    clear hs
    go_enter Tryz.func128, Tryz.ntmps128
    go_wp2_with (go_at_call 127; refine C.mono ?_; rintro e w' ⟨rfl, rfl⟩)
    go_ret
    exact ⟨ret_bool (by unfold letterDigit; rw [H.out]; rfl), rfl⟩
  | false =>
    have H := Lib.hid hs
    have C : Calls Tryz.prog 127 #[.int .i64 r] w fun e w' => e = .returned (.bool false) ∧ w = w' := by rw [← hs]; exact isLetter_any r w
    clear hs
    go_enter Tryz.func128, Tryz.ntmps128
    go_wp2_with (first | (go_at_call 127; refine C.mono ?_; rintro e w' ⟨rfl, rfl⟩) | (go_at_call 150; refine (isDigit_any r _).mono ?_; rintro e w' ⟨rfl, rfl⟩))
    go_ret
    exact ⟨ret_bool (by unfold letterDigit; rw [H.out]; rfl), rfl⟩

namespace Term
def digits16 : ByteArray := ⟨#[48, 49, 50, 51, 52, 53, 54, 55, 56, 57, 65, 66, 67, 68, 69, 70]⟩
theorem hex_text : ∀ n : Fin 8, ∀ m : Fin 16, (⟨#[92, 117, 48, 48]⟩ : ByteArray) ++ digits16.extract n.val (n.val + 1) ++ digits16.extract m.val (m.val + 1) = strOfNums [92, 117, 48, 48, hex (n.val : Nat), hex (m.val : Nat)] := by decide +kernel
end Term
theorem slice_digit (p : Int) (h0 : 0 ≤ p) (h1 : p ≤ 15) (w : World) : (Instr.slice 9 (.string ⟨#[48, 49, 50, 51, 52, 53, 54, 55, 56, 57, 65, 66, 67, 68, 69, 70]⟩) (some (.int .i64 p)) (some (.int .i64 (p + 1))) none).run Tryz.prog w = .ok (.string (digits16.extract p.toNat (p.toNat + 1))) w := by
  rw [run_slice_string w 9 _ .i64 .i64 p (p + 1) Tryz.underlying9 h0 (by omega) (by show p + 1 ≤ ((16 : Nat) : Int); omega)]
  rw [show (p + 1).toNat = p.toNat + 1 by omega]
  rfl
theorem ret_str {a b : ByteArray} (h : a = b) : Ending.returned (.string a) = .returned (.string b) := by rw [h]
set_option maxRecDepth 100000 in
set_option maxHeartbeats 1000000 in
theorem escape_hex (r : Int) (w : World) (h0 : 0 ≤ r) (h1 : r ≤ 127) (hl : decide (r < 32) = true ∨ (decide (r < 32) = false ∧ (r == 127) = true)) (n1 : (r == 34) = false) (n2 : (r == 92) = false) (n3 : (r == 8) = false) (n4 : (r == 9) = false) (n5 : (r == 10) = false) (n6 : (r == 12) = false) (n7 : (r == 13) = false) :
    Calls Tryz.prog 159 #[.int .i64 r] w fun e w' => e = .returned (.string ((⟨#[92, 117, 48, 48]⟩ : ByteArray) ++ digits16.extract (r / 16).toNat ((r / 16).toNat + 1) ++ digits16.extract (r % 16).toNat ((r % 16).toNat + 1))) ∧ ∃ n, w' = w.drewN n := by
  have b1 : 0 ≤ r % 16 := by omega
  have b2 : r % 16 ≤ 15 := by omega
  have b3 : 0 ≤ r / 16 := by omega
  have b4 : r / 16 ≤ 7 := by omega
  have s1 := slice_digit (r / 16) (by omega) (by omega)
  have s2 := slice_digit (r % 16) b1 b2
  rcases hl with hl | ⟨hl, hl2⟩
  all_goals
    go_enter Tryz.func159, Tryz.ntmps159
    go_wp2
    go_region
    all_goals
      go_wp2
      go_ret
      exact ⟨rfl, 1, rfl⟩
set_option maxRecDepth 100000 in
set_option maxHeartbeats 1000000 in
theorem escape_any (r : Int) (w : World) (h0 : 0 ≤ r) : Calls Tryz.prog 159 #[.int .i64 r] w fun e w' => e = .returned (.string (strOfNums (esc r))) ∧ ∃ n, w' = w.drewN n := by
  by_cases hx : (r < 32 ∨ r = 127) ∧ r ≠ 8 ∧ r ≠ 9 ∧ r ≠ 10 ∧ r ≠ 12 ∧ r ≠ 13
  · obtain ⟨h1, h3, h4, h5, h6, h7⟩ := hx
    refine (escape_hex r w h0 (by omega) (by simp; omega) (by simp; omega) (by simp; omega) (by simpa using h3) (by simpa using h4) (by simpa using h5) (by simpa using h6) (by simpa using h7)).mono fun e w' ⟨he, hw⟩ => ⟨?_, hw⟩
    rw [he]
    apply ret_str
    obtain ⟨a, rfl⟩ := Int.eq_ofNat_of_zero_le h0
    have e := hex_text ⟨a / 16, by omega⟩ ⟨a % 16, by omega⟩
    unfold esc
    rw [if_neg (by omega), if_neg (by omega), if_neg (by omega), if_neg (by omega), if_neg (by omega), if_neg (by omega), if_neg (by omega), if_pos (by omega)]
    exact e
  · by_cases hlo : r < 32
    · have hc : r = 8 ∨ r = 9 ∨ r = 10 ∨ r = 12 ∨ r = 13 := by omega
      clear hx h0 hlo
      rcases hc with rfl | rfl | rfl | rfl | rfl
      all_goals
        go_enter Tryz.func159, Tryz.ntmps159
        go_wp2
        go_ret
        exact ⟨ret_str (by decide +kernel), 0, rfl⟩
    · have h127 : (r == 127) = false := by simp; omega
      have HX := Lib.hid hx
      clear hx
      go_enter Tryz.func159, Tryz.ntmps159
      go_wp2
      · obtain rfl : r = 34 := by simp_all
        go_ret
        exact ⟨ret_str (by decide +kernel), 0, rfl⟩
      · obtain rfl : r = 92 := by simp_all
        go_ret
        exact ⟨ret_str (by decide +kernel), 0, rfl⟩
      · go_ret
        simp only [beq_eq_false_iff_ne, ne_eq] at *
        refine ⟨ret_str ?_, 0, rfl⟩
        unfold esc
        rw [if_neg (by omega), if_neg (by omega), if_neg (by omega), if_neg (by omega), if_neg (by omega), if_neg (by omega), if_neg (by omega), if_neg (by omega)]
        rfl
end Go.Proofs.YtbcoklbfebmpoaaGreatDoor

