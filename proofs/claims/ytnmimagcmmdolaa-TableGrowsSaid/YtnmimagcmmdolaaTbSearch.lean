/-
  CONTRACT OF slices.BinarySearch (at ints).
-/
import Derived.Test.YtnmimagcmmdolaaTbSpan
namespace Go.Proofs.Ytnmimagcmmdolaa
open Go.RowKit Go.Shelf
set_option linter.unusedVariables false
set_option linter.unusedSimpArgs false

theorem cmpNaN_any (a : Int) (w : World) : Calls Try.prog 51 #[.int .i64 a] w fun e w' => e = .returned (.bool false) ∧ w = w' := by
  have ha : (a != a) = false := by simp
  go_enter Try.func51, Try.ntmps51
  go_wp2
  go_ret
  exact ⟨rfl, rfl⟩
theorem slNaN_any (a : Int) (w : World) : Calls Try.prog 49 #[.int .i64 a] w fun e w' => e = .returned (.bool false) ∧ w = w' := by
  have ha : (a != a) = false := by simp
  go_enter Try.func49, Try.ntmps49
  go_wp2
  go_ret
  exact ⟨rfl, rfl⟩
theorem less_any (a b : Int) (w : World) : Calls Try.prog 48 #[.int .i64 a, .int .i64 b] w fun e w' => e = .returned (.bool (decide (a < b))) ∧ w = w' := by
  have HN := Lib.hid (cmpNaN_any a w)
  go_enter Try.func48, Try.ntmps48
  go_wp2_with (go_at_call 51; refine HN.out.mono ?_; rintro e w' ⟨rfl, rfl⟩)
  go_ret
  exact ⟨rfl, rfl⟩
/-- Where a number is, or would be. -/
def Splits (ns : List Nat) (t : Int) (p : Nat) : Prop := p ≤ ns.length ∧ (∀ j k : Nat, ns[j]? = some k → j < p → (k : Int) < t) ∧ ∀ j k : Nat, ns[j]? = some k → p ≤ j → t ≤ (k : Int)
def SortedN (ns : List Nat) : Prop := ∀ i j a b : Nat, ns[i]? = some a → ns[j]? = some b → i < j → a < b
set_option maxRecDepth 100000 in
set_option maxHeartbeats 4000000 in
theorem search_any (ao : Option Addr) (len cap : Nat) (ns : List Nat) (t : Int) (w : World) (hs : SortedN ns) (hl : len = ns.length) (hb : len ≤ 1000000000000) (hc : 0 < len → ∃ g o, ao = some ⟨g, o, none⟩ ∧ ∀ j k : Nat, ns[j]? = some k → w.cell? ⟨g, o + j, none⟩ = some (.int .i64 (k : Int))) :
    Calls Try.prog 43 #[.slice ao len cap, .int .i64 t] w fun e w' => ∃ (p : Nat) (y : Bool), e = .returned (.tuple #[.int .i64 (p : Int), .bool y]) ∧ Splits ns t p ∧ w = w' := by
  have HL := Lib.hid hl
  have HC := Lib.hid hc
  have HS := Lib.hid hs
  have HLe : Hid (∀ a b W, Calls Try.prog 48 #[.int .i64 a, .int .i64 b] W fun e w' => e = .returned (.bool (decide (a < b))) ∧ W = w') := Lib.hid less_any
  have HNa : Hid (∀ a W, Calls Try.prog 49 #[.int .i64 a] W fun e w' => e = .returned (.bool false) ∧ W = w') := Lib.hid slNaN_any
  clear hl hc hs
  go_enter Try.func43, Try.ntmps43
  go_wp2
  go_loopg [7, 8] len (fun g x y wr => ∃ i j : Nat, i ≤ j ∧ j ≤ len ∧ j - i ≤ g ∧ x = .int .i64 (i : Int) ∧ y = .int .i64 (j : Int) ∧ wr = w ∧ Hid (∀ a k : Nat, ns[a]? = some k → a < i → (k : Int) < t) ∧ Hid (∀ a k : Nat, ns[a]? = some k → j ≤ a → t ≤ (k : Int)))
  case atStart => exact ⟨0, len, Nat.zero_le _, Nat.le_refl _, by omega, rfl, rfl, rfl, Lib.hid (fun a k _ h => by omega), Lib.hid (fun a k h1 h2 => by have := (List.getElem?_eq_some_iff.1 h1).1; have := HL.out; omega)⟩
  case round =>
    obtain ⟨i, j, hij, hjl, hg, rfl, rfl, rfl, hlo, hhi⟩ := hrel
    by_cases hlt : i < j
    · obtain ⟨m, hm⟩ : ∃ m, m = (i + j) / 2 := ⟨_, rfl⟩
      have hm1 : ((i : Int) + (j : Int)) / 2 = (m : Int) := by omega
      obtain ⟨g1, o, rfl, hcs⟩ := HC.out (by omega)
      obtain ⟨x, hx⟩ : ∃ x, ns[m]? = some x := ⟨_, List.getElem?_eq_getElem (by have := HL.out; omega)⟩
      have hcx := hcs m x hx
      have e1 : decide ((i : Int) < (j : Int)) = true := by simp; omega
      have i0 : (0 : Int) ≤ (i : Int) + (j : Int) := by omega
      have i1 : (i : Int) + (j : Int) < 4000000000000 := by omega
      have i2 : (0 : Int) ≤ (m : Int) := by omega
      have i3 : (m : Int) < (len : Int) := by omega
      have hmi : i ≤ m ∧ m < j := by omega
      have HX := Lib.hid hx
      clear hx hcs hm
      by_cases hxt : (x : Int) < t
      · have e2 : decide ((x : Int) < t) = true := by simpa using hxt
        have HXt := Lib.hid hxt
        clear hxt
        have i4 : m + 1 ≤ 1000000000000 := by omega
        go_wp2_with (go_at_call 48; refine (HLe.out _ _ _).mono ?_; rintro e w' ⟨rfl, rfl⟩)
        go_roundg (j - (m + 1))
        case measure => omega
        case rel => exact ⟨m + 1, j, by omega, hjl, by omega, by go_num, rfl, rfl, Lib.hid (fun a k h1 h2 => by
          by_cases ha : a = m
          · have h1' : ns[m]? = some k := ha ▸ h1
            obtain rfl : x = k := Option.some.inj (HX.out.symm.trans h1')
            exact HXt.out
          · have := HS.out a m k x h1 HX.out (by omega)
            have := HXt.out
            omega), hhi⟩
      · have e2 : decide ((x : Int) < t) = false := by simpa using hxt
        have HXt := Lib.hid hxt
        clear hxt
        go_wp2_with (go_at_call 48; refine (HLe.out _ _ _).mono ?_; rintro e w' ⟨rfl, rfl⟩)
        go_roundg (m - i)
        case measure => omega
        case rel => exact ⟨i, m, by omega, by omega, by omega, rfl, rfl, rfl, hlo, Lib.hid (fun a k h1 h2 => by
          by_cases ha : a = m
          · have h1' : ns[m]? = some k := ha ▸ h1
            obtain rfl : x = k := Option.some.inj (HX.out.symm.trans h1')
            have := HXt.out
            omega
          · have := HS.out m a x k HX.out h1 (by omega)
            have := HXt.out
            omega)⟩
    · obtain rfl : i = j := by omega
      have e1 : decide ((i : Int) < (i : Int)) = false := by simp
      have HSp : Hid (Splits ns t i) := Lib.hid ⟨by have := HL.out; omega, fun a k h1 h2 => hlo.out a k h1 h2, fun a k h1 h2 => hhi.out a k h1 h2⟩
      clear hlt hij hg
      by_cases hil : i < len
      · obtain ⟨g1, o, rfl, hcs⟩ := HC.out (by omega)
        obtain ⟨x, hx⟩ : ∃ x, ns[i]? = some x := ⟨_, List.getElem?_eq_getElem (by have := HL.out; omega)⟩
        have hcx := hcs i x hx
        have e2 : decide ((i : Int) < (len : Int)) = true := by simp; omega
        have i2 : (0 : Int) ≤ (i : Int) := by omega
        have i3 : (i : Int) < (len : Int) := by omega
        clear hx hcs hil
        by_cases hxt : (x : Int) = t
        · have e3 : ((x : Int) == t) = true := by simpa using hxt
          clear hxt
          go_wp2_with (go_at_call 49; refine (HNa.out _ _).mono ?_; rintro e w' ⟨rfl, rfl⟩)
          go_ret2
          exact ⟨i, _, rfl, HSp.out, rfl⟩
        · have e3 : ((x : Int) == t) = false := by rw [beq_eq_false_iff_ne]; exact hxt
          clear hxt
          go_wp2_with (go_at_call 49; refine (HNa.out _ _).mono ?_; rintro e w' ⟨rfl, rfl⟩)
          go_ret2
          exact ⟨i, _, rfl, HSp.out, rfl⟩
      · obtain rfl : i = len := by omega
        clear hil
        go_wp2_with (go_at_call 49; refine (HNa.out _ _).mono ?_; rintro e w' ⟨rfl, rfl⟩)
        go_ret2
        exact ⟨i, _, rfl, HSp.out, rfl⟩
end Go.Proofs.Ytnmimagcmmdolaa
