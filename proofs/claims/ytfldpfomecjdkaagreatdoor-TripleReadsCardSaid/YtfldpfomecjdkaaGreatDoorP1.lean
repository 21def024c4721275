/-
  WHAT THE PROOF STANDS ON, a part of it: LexRefLeaf.
-/
import Derived.Test.YtfldpfomecjdkaaGreatDoorR26
import Derived.LoopTactic
/-
  CONTRACTS OF THE REFERENCE's ch, hex, Skip: bounds.
-/

namespace Go.Proofs.YtfldpfomecjdkaaGreatDoor
open Go.RowKit
open Utf Term Lex
set_option linter.unusedVariables false
set_option linter.unusedSimpArgs false

set_option maxRecDepth 100000 in
set_option maxHeartbeats 2000000 in
theorem refCh_any (s : ByteArray) (at_ : Nat) (hs : s.size ≤ 1000000000) (ha : at_ ≤ 2000000000) (w : World) :
    Calls Tryz.prog 50 #[.string s, .int .i64 at_] w fun e w' => (∃ c : Int, e = .returned (.int .u8 c) ∧ 0 ≤ c ∧ c ≤ 255 ∧ (c ≠ 0 → at_ < s.size)) ∧ w = w' := by
  have a0 : (0 : Int) ≤ (at_ : Int) := by omega
  by_cases h : at_ < s.size
  · have d : decide ((at_ : Int) < (s.size : Int)) = true := by simpa using h
    have d1 : (at_ : Int) < (s.size : Int) := by omega
    go_enter Tryz.func50, Tryz.ntmps50
    go_wp2
    go_ret
    exact ⟨⟨_, rfl, (byte_bd _).1, (byte_bd _).2, fun _ => h⟩, rfl⟩
  · have d : decide ((at_ : Int) < (s.size : Int)) = false := by simp; omega
    go_enter Tryz.func50, Tryz.ntmps50
    go_wp2
    go_ret
    exact ⟨⟨0, rfl, by decide, by decide, fun h => absurd rfl h⟩, rfl⟩

set_option maxRecDepth 100000 in
set_option maxHeartbeats 2000000 in
theorem refHex_any (c : Int) (h0 : 0 ≤ c) (h1 : c ≤ 255) (w : World) :
    Calls Tryz.prog 91 #[.int .u8 c] w fun e w' => (∃ d : Int, e = .returned (.int .i64 d) ∧ -1 ≤ d ∧ d ≤ 15 ∧ (0 ≤ d → 48 ≤ c)) ∧ w = w' := by
  by_cases d1 : 48 ≤ c ∧ c ≤ 57
  · have t1 : decide ((48 : Int) ≤ c) = true := by simpa using d1.1
    have t2 : decide (c ≤ (57 : Int)) = true := by simpa using d1.2
    go_enter Tryz.func91, Tryz.ntmps91
    go_wp2
    go_ret
    exact ⟨⟨_, rfl, by omega, by omega, by omega⟩, rfl⟩
  by_cases d2 : 65 ≤ c ∧ c ≤ 70
  · have t1 : decide ((48 : Int) ≤ c) = true := by simp; omega
    have t2 : decide (c ≤ (57 : Int)) = false := by simp; omega
    have t3 : decide ((65 : Int) ≤ c) = true := by simpa using d2.1
    have t4 : decide (c ≤ (70 : Int)) = true := by simpa using d2.2
    go_enter Tryz.func91, Tryz.ntmps91
    go_wp2
    go_ret
    exact ⟨⟨_, rfl, by omega, by omega, by omega⟩, rfl⟩
  by_cases d3 : 97 ≤ c ∧ c ≤ 102
  · have t1 : decide ((48 : Int) ≤ c) = true := by simp; omega
    have t2 : decide (c ≤ (57 : Int)) = false := by simp; omega
    have t3 : decide ((65 : Int) ≤ c) = true := by simp; omega
    have t4 : decide (c ≤ (70 : Int)) = false := by simp; omega
    have t5 : decide ((97 : Int) ≤ c) = true := by simpa using d3.1
    have t6 : decide (c ≤ (102 : Int)) = true := by simpa using d3.2
    go_enter Tryz.func91, Tryz.ntmps91
    go_wp2
    go_ret
    exact ⟨⟨_, rfl, by omega, by omega, by omega⟩, rfl⟩
  have t1 : (decide ((48 : Int) ≤ c) && decide (c ≤ (57 : Int))) = false := by simpa using d1
  have t2 : (decide ((65 : Int) ≤ c) && decide (c ≤ (70 : Int))) = false := by simpa using d2
  have t3 : (decide ((97 : Int) ≤ c) && decide (c ≤ (102 : Int))) = false := by simpa using d3
  generalize hq1 : decide ((48 : Int) ≤ c) = q1 at *
  generalize hq2 : decide (c ≤ (57 : Int)) = q2 at *
  generalize hq3 : decide ((65 : Int) ≤ c) = q3 at *
  generalize hq4 : decide (c ≤ (70 : Int)) = q4 at *
  generalize hq5 : decide ((97 : Int) ≤ c) = q5 at *
  generalize hq6 : decide (c ≤ (102 : Int)) = q6 at *
  cases q1 <;> cases q2 <;> cases q3 <;> cases q4 <;> cases q5 <;> cases q6 <;> first | (exact absurd t1 (by decide)) | (exact absurd t2 (by decide)) | (exact absurd t3 (by decide)) | skip
  all_goals
    clear d1 d2 d3 t1 t2 t3
    go_enter Tryz.func91, Tryz.ntmps91
    go_wp2
    go_ret
    exact ⟨⟨_, rfl, by omega, by omega, by omega⟩, rfl⟩

set_option maxRecDepth 100000 in
set_option maxHeartbeats 4000000 in
theorem refSkip_any (s : ByteArray) (a0 : Nat) (hs : s.size ≤ 1000000000) (ha : a0 ≤ s.size) (w : World) :
    Calls Tryz.prog 26 #[.string s, .int .i64 a0] w fun e w' => (∃ q : Nat, e = .returned (.int .i64 q) ∧ a0 ≤ q ∧ q ≤ s.size) ∧ w = w' := by
  obtain ⟨n, hn⟩ : ∃ n, n = s.size := ⟨_, rfl⟩
  have HN := Lib.hid hn
  go_enter Tryz.func26, Tryz.ntmps26
  go_wp2_with fail
  go_loopg [1] n (fun g i wr => ∃ k : Nat, k ≤ n ∧ n - k ≤ g ∧ a0 ≤ k ∧ i = .int .i64 k ∧ wr = w)
  case atStart => exact ⟨a0, by omega, by omega, Nat.le_refl _, rfl, rfl⟩
  case round =>
    obtain ⟨k, hk, hg, hak, rfl, rfl⟩ := hrel
    by_cases hlt : k < s.size
    · have d1 : decide ((k : Int) < (s.size : Int)) = true := by simpa using hlt
      have i0 : (0 : Int) ≤ (k : Int) := by omega
      have i1 : (k : Int) < (s.size : Int) := by omega
      have hb := byte_bd s[k]
      by_cases hc : (s[k].toNat : Int) = 35
      · have e1 : ((s[k].toNat : Int) == 35) = true := by simp [hc]
        have HC := Lib.hid hc
        clear hc
        go_wp2_with fail
        rename World => w0
        go_loopg [1] n (fun g i wr => ∃ k2 : Nat, k2 ≤ n ∧ n - k2 ≤ g ∧ k ≤ k2 ∧ i = .int .i64 k2 ∧ wr = w0)
        case atStart => exact ⟨k, by omega, by omega, Nat.le_refl _, rfl, rfl⟩
        case round =>
          obtain ⟨k2, hk2, hg2, hkk, rfl, rfl⟩ := hrel
          by_cases hlt2 : k2 < s.size
          · have d2 : decide ((k2 : Int) < (s.size : Int)) = true := by simpa using hlt2
            have i2 : (0 : Int) ≤ (k2 : Int) := by omega
            have i3 : (k2 : Int) < (s.size : Int) := by omega
            have hb2 := byte_bd s[k2]
            by_cases hc2 : (s[k2].toNat : Int) = 10
            · have e2 : ((s[k2].toNat : Int) != 10) = false := by simp [hc2]
              have hne : k < k2 := by
                rcases Nat.lt_or_eq_of_le hkk with h | h
                · exact h
                · subst h; have := HC.out; omega
              clear hc2
              go_wp2_with fail
              go_roundg (n - k2)
              case measure => omega
              case rel => exact ⟨k2, hk2, Nat.le_refl _, by omega, rfl, rfl⟩
            · have e2 : ((s[k2].toNat : Int) != 10) = true := by simp [hc2]
              clear hc2
              go_wp2_with fail
              go_roundg (n - (k2 + 1))
              case measure => omega
              case rel => exact ⟨k2 + 1, by omega, Nat.le_refl _, by omega, by go_num, rfl⟩
          · have d2 : decide ((k2 : Int) < (s.size : Int)) = false := by simp; omega
            go_wp2_with fail
            go_roundg (n - k2)
            case measure => omega
            case rel => exact ⟨k2, hk2, Nat.le_refl _, by omega, rfl, rfl⟩
      · have e1 : ((s[k].toNat : Int) == 35) = false := by simp [hc]
        clear hc
        by_cases hw : (s[k].toNat : Int) = 9 ∨ (s[k].toNat : Int) = 10 ∨ (s[k].toNat : Int) = 13 ∨ (s[k].toNat : Int) = 32
        · rcases hw with hx | hx | hx | hx
          · have f9 : ((s[k].toNat : Int) != 9) = false := by simp [hx]
            clear hx
            go_wp2_with fail
            go_roundg (n - (k + 1))
            case measure => omega
            case rel => exact ⟨k + 1, by omega, Nat.le_refl _, by omega, by go_num, rfl⟩
          · have f9 : ((s[k].toNat : Int) != 9) = true := by simp [hx]
            have f10 : ((s[k].toNat : Int) != 10) = false := by simp [hx]
            clear hx
            go_wp2_with fail
            go_roundg (n - (k + 1))
            case measure => omega
            case rel => exact ⟨k + 1, by omega, Nat.le_refl _, by omega, by go_num, rfl⟩
          · have f9 : ((s[k].toNat : Int) != 9) = true := by simp [hx]
            have f10 : ((s[k].toNat : Int) != 10) = true := by simp [hx]
            have f13 : ((s[k].toNat : Int) != 13) = false := by simp [hx]
            clear hx
            go_wp2_with fail
            go_roundg (n - (k + 1))
            case measure => omega
            case rel => exact ⟨k + 1, by omega, Nat.le_refl _, by omega, by go_num, rfl⟩
          · have f9 : ((s[k].toNat : Int) != 9) = true := by simp [hx]
            have f10 : ((s[k].toNat : Int) != 10) = true := by simp [hx]
            have f13 : ((s[k].toNat : Int) != 13) = true := by simp [hx]
            have f32 : ((s[k].toNat : Int) != 32) = false := by simp [hx]
            clear hx
            go_wp2_with fail
            go_roundg (n - (k + 1))
            case measure => omega
            case rel => exact ⟨k + 1, by omega, Nat.le_refl _, by omega, by go_num, rfl⟩
        · have hx : ¬ (s[k].toNat : Int) = 9 ∧ ¬ (s[k].toNat : Int) = 10 ∧ ¬ (s[k].toNat : Int) = 13 ∧ ¬ (s[k].toNat : Int) = 32 := ⟨fun h => hw (.inl h), fun h => hw (.inr (.inl h)), fun h => hw (.inr (.inr (.inl h))), fun h => hw (.inr (.inr (.inr h)))⟩
          clear hw
          have f9 : ((s[k].toNat : Int) != 9) = true := bne_iff_ne.2 hx.1
          have f10 : ((s[k].toNat : Int) != 10) = true := bne_iff_ne.2 hx.2.1
          have f13 : ((s[k].toNat : Int) != 13) = true := bne_iff_ne.2 hx.2.2.1
          have f32 : ((s[k].toNat : Int) != 32) = true := bne_iff_ne.2 hx.2.2.2
          clear hx
          go_wp2_with fail
          go_ret
          exact ⟨⟨k, rfl, hak, by omega⟩, rfl⟩
    · have d1 : decide ((k : Int) < (s.size : Int)) = false := by simp; omega
      go_wp2_with fail
      go_ret
      exact ⟨⟨k, rfl, hak, by omega⟩, rfl⟩
end Go.Proofs.YtfldpfomecjdkaaGreatDoor
