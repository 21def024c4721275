/-
  CONTRACTS OF table's LEAVES: isNone, Len, Live, Distinct, has, known, looks.
-/
import Derived.Test.YtnmimagcmmdolaaTbMem
import Derived.WalkKit
import Derived.BigQuiet
import Derived.BigGuardPart
import Derived.Deep.QuietTactic
import Derived.Deep.RegionHeld3
import Derived.Deep.LoopGhost
import Derived.Deep.Cut
import Derived.Lib.Hide
import Derived.IntWalk
namespace Go.Proofs.Ytnmimagcmmdolaa
open Go.RowKit
set_option linter.unusedVariables false
set_option linter.unusedSimpArgs false

theorem equalIn_map_nil {P : Program} (d : Nat) (t k e : TypeId) (p : Option Nat) (w : World) (h : P.underlying t = some (.map k e)) : (Op.equalIn (d + 1) t (.map p) (.map none)).run P w = .ok p.isNone w := by
  cases p <;> simp [Op.equalIn, run_underlying h]
theorem eql_map_nil {P : Program} (t k e : TypeId) (p : Option Nat) (w : World) (h : P.underlying t = some (.map k e)) : (binOp .eql t (.map p) (.map none)).run P w = .ok (.bool p.isNone) w := by
  simp only [binOp]
  simp [show Op.equal t (.map p) (.map none) = Op.equalIn (9999 + 1) t (.map p) (.map none) from rfl, equalIn_map_nil 9999 t k e p w h]
abbrev tabP (tb : Nat) : Value := .pointer (some ⟨tb, 0, none⟩)

section
variable {w : World} {Gz : GzT} {S : Nat → Prop} {tb : Nat} {R : List EntN} {num : RowN → Option Nat} {pats : List RowN} {Ls : List LsD} {live d0 d1 d2 : Int} {ra : Option Addr} {rc nb pb : Nat} {la : Option Addr} {lc : Nat}
set_option maxRecDepth 100000 in
theorem tbNone_any (h : TabM Gz w S tb R num pats Ls live d0 d1 d2 ra rc nb pb la lc) : Calls Try.prog 29 #[tabP tb] w fun e w' => e = .returned (.bool false) ∧ w = w' := by
  have c1 : w.cell? ⟨tb, 1, none⟩ = some (.map (some nb)) := cell_in h.blk rfl
  have ee : ∀ W, (binOp .eql 56 (.map (some nb)) (.map none)).run Try.prog W = .ok (.bool false) W := fun W => eql_map_nil _ _ _ (some nb) W Try.underlying56
  clear h
  go_enter Try.func29, Try.ntmps29
  go_wp2
  go_ret
  exact ⟨rfl, rfl⟩
set_option maxRecDepth 100000 in
theorem tbLen_any (h : TabM Gz w S tb R num pats Ls live d0 d1 d2 ra rc nb pb la lc) : Calls Try.prog 17 #[tabP tb] w fun e w' => e = .returned (.int .i64 (R.length : Int)) ∧ w = w' := by
  have HN := Lib.hid (tbNone_any h)
  have c0 : w.cell? ⟨tb, 0, none⟩ = some (.slice ra R.length rc) := cell_in h.blk rfl
  clear h
  go_enter Try.func17, Try.ntmps17
  go_wp2_with (go_at_call 29; refine HN.out.mono ?_; rintro e w' ⟨rfl, rfl⟩)
  go_ret
  exact ⟨rfl, rfl⟩
set_option maxRecDepth 100000 in
theorem tbLive_any (h : TabM Gz w S tb R num pats Ls live d0 d1 d2 ra rc nb pb la lc) : Calls Try.prog 28 #[tabP tb] w fun e w' => e = .returned (.int .i64 live) ∧ w = w' := by
  have HN := Lib.hid (tbNone_any h)
  have c0 : w.cell? ⟨tb, 4, none⟩ = some (.int .i64 live) := cell_in h.blk rfl
  clear h
  go_enter Try.func28, Try.ntmps28
  go_wp2_with (go_at_call 29; refine HN.out.mono ?_; rintro e w' ⟨rfl, rfl⟩)
  go_ret
  exact ⟨rfl, rfl⟩
def distO (d0 d1 d2 p : Int) : Int := if p = 0 then d0 else if p = 1 then d1 else if p = 2 then d2 else 0
set_option maxRecDepth 100000 in
theorem tbDistinct_any (h : TabM Gz w S tb R num pats Ls live d0 d1 d2 ra rc nb pb la lc) (p : Int) : Calls Try.prog 26 #[tabP tb, .int .i64 p] w fun e w' => e = .returned (.int .i64 (distO d0 d1 d2 p)) ∧ w = w' := by
  have HN := Lib.hid (tbNone_any h)
  have c5 : w.cell? ⟨tb, 5, none⟩ = some (.int .i64 d0) := cell_in h.blk rfl
  have c6 : w.cell? ⟨tb, 6, none⟩ = some (.int .i64 d1) := cell_in h.blk rfl
  have c7 : w.cell? ⟨tb, 7, none⟩ = some (.int .i64 d2) := cell_in h.blk rfl
  obtain ⟨v, hv⟩ : ∃ v, v = distO d0 d1 d2 p := ⟨_, rfl⟩
  rw [← hv]
  clear h
  by_cases h0 : p < 0
  · have e0 : decide (p < 0) = true := by simpa using h0
    have hv0 : v = 0 := by rw [hv]; unfold distO; rw [if_neg (by omega), if_neg (by omega), if_neg (by omega)]
    subst hv0
    clear hv
    go_enter Try.func26, Try.ntmps26
    go_wp2_with (go_at_call 29; refine HN.out.mono ?_; rintro e w' ⟨rfl, rfl⟩)
    go_ret
    exact ⟨rfl, rfl⟩
  have e0 : decide (p < 0) = false := by simpa using h0
  by_cases h1 : 3 ≤ p
  · have e1 : decide (3 ≤ p) = true := by simpa using h1
    have hv0 : v = 0 := by rw [hv]; unfold distO; rw [if_neg (by omega), if_neg (by omega), if_neg (by omega)]
    subst hv0
    clear hv
    go_enter Try.func26, Try.ntmps26
    go_wp2_with (go_at_call 29; refine HN.out.mono ?_; rintro e w' ⟨rfl, rfl⟩)
    go_ret
    exact ⟨rfl, rfl⟩
  obtain rfl | rfl | rfl : p = 0 ∨ p = 1 ∨ p = 2 := by omega
  · have hv0 : v = d0 := hv
    subst hv0
    clear hv
    go_enter Try.func26, Try.ntmps26
    go_wp2_with (go_at_call 29; refine HN.out.mono ?_; rintro e w' ⟨rfl, rfl⟩)
    go_ret
    exact ⟨rfl, rfl⟩
  · have hv0 : v = d1 := hv
    subst hv0
    clear hv
    go_enter Try.func26, Try.ntmps26
    go_wp2_with (go_at_call 29; refine HN.out.mono ?_; rintro e w' ⟨rfl, rfl⟩)
    go_ret
    exact ⟨rfl, rfl⟩
  · have hv0 : v = d2 := hv
    subst hv0
    clear hv
    go_enter Try.func26, Try.ntmps26
    go_wp2_with (go_at_call 29; refine HN.out.mono ?_; rintro e w' ⟨rfl, rfl⟩)
    go_ret
    exact ⟨rfl, rfl⟩
set_option maxRecDepth 100000 in
theorem tbHas_any (h : TabM Gz w S tb R num pats Ls live d0 d1 d2 ra rc nb pb la lc) (n : Int) : Calls Try.prog 36 #[tabP tb, .int .i64 n] w fun e w' => e = .returned (.bool (decide (0 ≤ n ∧ n < (R.length : Int)))) ∧ w = w' := by
  have HL := Lib.hid (tbLen_any h)
  clear h
  generalize R.length = m at *
  obtain ⟨v, hv⟩ : ∃ v, v = decide (0 ≤ n ∧ n < (m : Int)) := ⟨_, rfl⟩
  rw [← hv]
  by_cases h0 : 0 ≤ n
  · have e0 : decide (0 ≤ n) = true := by simpa using h0
    have e1 : decide (n < (m : Int)) = v := by rw [hv]; simp [h0]
    clear hv
    go_enter Try.func36, Try.ntmps36
    go_wp2_with (go_at_call 17; refine HL.out.mono ?_; rintro e w' ⟨rfl, rfl⟩)
    go_ret
    exact ⟨rfl, rfl⟩
  · have e0 : decide (0 ≤ n) = false := by simpa using h0
    have hv0 : v = false := by rw [hv]; simp [h0]
    subst hv0
    clear hv
    go_enter Try.func36, Try.ntmps36
    go_wp2_with (go_at_call 17; refine HL.out.mono ?_; rintro e w' ⟨rfl, rfl⟩)
    go_ret
    exact ⟨rfl, rfl⟩
end
end Go.Proofs.Ytnmimagcmmdolaa
