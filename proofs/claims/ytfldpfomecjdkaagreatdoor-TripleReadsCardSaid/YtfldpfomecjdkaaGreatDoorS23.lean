/-
  WHAT THE PROOF STANDS ON, a part of it: LexRefWord.
-/
import Derived.Test.YtfldpfomecjdkaaGreatDoorS17
import Derived.Test.YtfldpfomecjdkaaGreatDoorS21
/-
  CONTRACT OF THE REFERENCE's word: bounds.
-/

namespace Go.Proofs.YtfldpfomecjdkaaGreatDoor
open Go.RowKit
open Utf Term Lex
set_option linter.unusedVariables false
set_option linter.unusedSimpArgs false

set_option maxRecDepth 100000 in
set_option maxHeartbeats 4000000 in
theorem refWordEnd_any (s : ByteArray) (a0 : Nat) (hs : s.size ≤ 1000000000) (ha : a0 ≤ s.size) (w : World) :
    Calls Tryz.prog 51 #[.string s, .int .i64 a0] w fun e w' => (∃ q : Nat, e = .returned (.int .i64 q) ∧ a0 ≤ q ∧ q ≤ s.size) ∧ w = w' := by
  obtain ⟨n, hn⟩ : ∃ n, n = s.size := ⟨_, rfl⟩
  have HN := Lib.hid hn
  have CL := fun c => refLetter_any c w
  have CD := fun c => refDigit_any c w
  go_enter Tryz.func51, Tryz.ntmps51
  go_wp2_with fail
  go_loopg [1] n (fun g i wr => ∃ k : Nat, k ≤ n ∧ n - k ≤ g ∧ a0 ≤ k ∧ i = .int .i64 k ∧ wr = w)
  case atStart => exact ⟨a0, by omega, by omega, Nat.le_refl _, rfl, rfl⟩
  case round =>
    obtain ⟨k, hk, hg, hak, rfl, rfl⟩ := hrel
    by_cases hlt : k < s.size
    · have d1 : decide ((k : Int) < (s.size : Int)) = true := by simpa using hlt
      have i0 : (0 : Int) ≤ (k : Int) := by omega
      have i1 : (k : Int) < (s.size : Int) := by omega
      have cl := CL (s[k].toNat : Int)
      have cd := CD (s[k].toNat : Int)
      generalize letter (s[k].toNat : Int) = L at *
      generalize digit (s[k].toNat : Int) = D at *
      cases L with
      | true =>
        go_wp2_with (first | (go_at_call 73; refine cl.mono ?_; rintro e w3 ⟨rfl, rfl⟩))
        go_roundg (n - (k + 1))
        case measure => omega
        case rel => exact ⟨k + 1, by omega, Nat.le_refl _, by omega, by go_num, rfl⟩
      | false =>
        by_cases hgt : a0 < k
        · have d2 : decide ((a0 : Int) < (k : Int)) = true := by simpa using hgt
          cases D with
          | true =>
            go_wp2_with (first | (go_at_call 73; refine cl.mono ?_; rintro e w3 ⟨rfl, rfl⟩) | (go_at_call 52; refine cd.mono ?_; rintro e w3 ⟨rfl, rfl⟩))
            go_roundg (n - (k + 1))
            case measure => omega
            case rel => exact ⟨k + 1, by omega, Nat.le_refl _, by omega, by go_num, rfl⟩
          | false =>
            go_wp2_with (first | (go_at_call 73; refine cl.mono ?_; rintro e w3 ⟨rfl, rfl⟩) | (go_at_call 52; refine cd.mono ?_; rintro e w3 ⟨rfl, rfl⟩))
            go_ret
            exact ⟨⟨k, rfl, hak, by omega⟩, rfl⟩
        · have d2 : decide ((a0 : Int) < (k : Int)) = false := by simp; omega
          go_wp2_with (first | (go_at_call 73; refine cl.mono ?_; rintro e w3 ⟨rfl, rfl⟩))
          go_ret
          exact ⟨⟨k, rfl, hak, by omega⟩, rfl⟩
    · have d1 : decide ((k : Int) < (s.size : Int)) = false := by simp; omega
      go_wp2_with fail
      go_ret
      exact ⟨⟨k, rfl, hak, by omega⟩, rfl⟩
end Go.Proofs.YtfldpfomecjdkaaGreatDoor
