/-
  NUMBERS OF float64: what is none; Plain, number, Less.
-/
import Derived.Test.YtfnjemhmipngdaaChecked
import Derived.RowKit3
import Derived.Below
import Derived.Lib.Hide
import Derived.WalkLawsBesides
import Derived.Laws.FloatArith
namespace Go.Proofs.Ytfnjemhmipngdaa
open Go.RowKit
set_option linter.unusedVariables false
set_option linter.unusedSimpArgs false

/-- Is it no number? -/
def isN (b : Nat) : Bool := (FloatKind.f64.format.read b).isNaN
theorem datum_self (d : Ieee.Datum) : (d.order d != some .eq) = d.isNaN := by
  cases d with
  | number s m i => simp [Ieee.Datum.order, Ieee.Datum.isNaN, compare, compareOfLessAndEq]
  | infinity s => cases s <;> simp [Ieee.Datum.order, Ieee.Datum.isNaN, compare, compareOfLessAndEq]
  | nan s t => simp [Ieee.Datum.order, Ieee.Datum.isNaN]
theorem order_self (b : Nat) : (FloatKind.f64.format.order b b != some .eq) = isN b := datum_self _
theorem order_self' (b : Nat) : (FloatKind.f64.format.order b b == some .eq) = !isN b := by
  rw [← order_self]
  simp [bne]
/-- A number; 0, if it is none. -/
def numF (b : Nat) : Nat := if isN b then 0 else b
theorem numF_ok (b : Nat) : isN (numF b) = false := by
  unfold numF
  split
  · decide +kernel
  · simp_all
theorem numF_of {b : Nat} (h : isN b = false) : numF b = b := by simp [numF, h]
theorem numF_lt {b : Nat} (h : b < 2 ^ 64) : numF b < 2 ^ 64 := by unfold numF; split <;> omega
theorem order_no {b : Nat} (h : isN b = false) : (FloatKind.f64.format.order b b != some Ordering.eq) = false := (order_self b).trans h
theorem order_yes {b : Nat} (h : isN b = true) : (FloatKind.f64.format.order b b != some Ordering.eq) = true := (order_self b).trans h
/-- Less of two that are numbers. -/
def lssF (a b : Nat) : Bool := FloatKind.f64.format.order a b == some .lt
def lessF (a b : Nat) : Bool := lssF (numF a) (numF b)
abbrev fV (b : Nat) : Value := .float .f64 b
theorem number_any (x : Nat) (w : World) : Calls Try.prog 15 #[fV x] w fun e w' => e = .returned (fV (numF x)) ∧ w' = w := by
  have h : (FloatKind.f64.format.order x x != some Ordering.eq) = isN x := order_self x
  unfold numF
  cases hx : isN x <;> rw [hx] at h
  · go_enter Try.func15, Try.ntmps15
    go_wp2
    go_ret
    exact ⟨by simp, rfl⟩
  · go_enter Try.func15, Try.ntmps15
    go_wp2
    go_ret
    exact ⟨by simp, rfl⟩
theorem plain_any (x : Nat) (w : World) : Calls Try.prog 11 #[fV x] w fun e w' => e = .returned (fV (numF x)) ∧ w' = w := by
  have h : (FloatKind.f64.format.order x x != some Ordering.eq) = isN x := order_self x
  unfold numF
  cases hx : isN x <;> rw [hx] at h
  · go_enter Try.func11, Try.ntmps11
    go_wp2
    go_ret
    exact ⟨by simp, rfl⟩
  · go_enter Try.func11, Try.ntmps11
    go_wp2
    go_ret
    exact ⟨by simp, rfl⟩
theorem less_any (a b : Nat) (w : World) : Calls Try.prog 12 #[fV a, fV b] w fun e w' => e = .returned (.bool (lessF a b)) ∧ w' = w := by
  have HA := Lib.hid (number_any)
  go_enter Try.func12, Try.ntmps12
  go_wp2_with (go_at_call 15; refine (HA.out _ _).mono ?_; rintro e w' ⟨rfl, rfl⟩)
  go_ret
  exact ⟨rfl, rfl⟩
/-- The heap is the same: an answer was drawn, no more. -/
structure Even (w w' : World) : Prop where
  heap : w'.heap = w.heap
  os : w'.os = w.os
  tape : w'.tape = w.tape
  output : w'.output = w.output
theorem Even.refl (w : World) : Even w w := ⟨rfl, rfl, rfl, rfl⟩
theorem Even.trans {u v w : World} (h : Even u v) (k : Even v w) : Even u w := ⟨k.heap.trans h.heap, k.os.trans h.os, k.tape.trans h.tape, k.output.trans h.output⟩
theorem Even.below {w w' : World} (h : Even w w') (B : Nat) : Below B w w' := ⟨h.os, h.tape, h.output, by rw [h.heap]; exact Nat.le_refl _, fun k _ => by rw [h.heap]⟩
theorem Even.cell {w w' : World} (h : Even w w') {a : Addr} {v : Value} (hc : w.cell? a = some v) : w'.cell? a = some v := by
  rw [← hc]
  unfold World.cell?
  rw [h.heap]
/-- What a quotient may be: the nearest number; where there is none, any that is none. -/
def DivR (x d r : Nat) : Prop := FloatKind.f64.format.div x d = some r ∨ (FloatKind.f64.format.div x d = none ∧ isN r = true)
theorem isN_of_rung {b : Nat} (h : 9218868437227405312 < b % 9223372036854775808) : isN b = true := by
  unfold isN Ieee.Format.read
  have e1 : FloatKind.f64.format.signWeight = 9223372036854775808 := by decide +kernel
  have e2 : FloatKind.f64.format.binade = 4503599627370496 := by decide +kernel
  have e3 : FloatKind.f64.format.infRung = 9218868437227405312 := by decide +kernel
  simp only [e1, e2, e3]
  rw [if_neg (by omega), if_neg (by omega), if_neg (by omega)]
  rfl
theorem nan_drawn (x y t : Nat) : isN ((Question.nanBits .f64 x y).cut t) = true := by
  apply isN_of_rung
  show 9218868437227405312 < (t % 2 * 2 ^ 63 + 0x7ff0000000000000 + 1 + (t / 2) % (2 ^ 52 - 1)) % 9223372036854775808
  have h1 : t % 2 < 2 := Nat.mod_lt _ (by omega)
  have h2 : (t / 2) % (2 ^ 52 - 1) < 2 ^ 52 - 1 := Nat.mod_lt _ (by omega)
  generalize t % 2 = a at *
  generalize (t / 2) % (2 ^ 52 - 1) = b at *
  omega
theorem Even.drew (w : World) : Even w w.drew := ⟨rfl, rfl, rfl, rfl⟩
theorem div_run (t : TypeId) (x d : Nat) (P : Program) (w : World) : ∃ r w', (binOp .quo t (fV x) (fV d)).run P w = .ok (fV r) w' ∧ DivR x d r ∧ Even w w' := by
  cases h : FloatKind.f64.format.div x d with
  | some r => exact ⟨r, w, run_float_arith w .quo t .f64 x d r h, .inl h, Even.refl w⟩
  | none =>
    refine ⟨_, w.drew, ?_, .inr ⟨h, nan_drawn x d (w.tape w.drawn (.nanBits .f64 x d))⟩, Even.drew w⟩
    simp [binOp, Op.floatArith, h, Question.forced]
theorem sub_run (t : TypeId) (x d : Nat) (P : Program) (w : World) : ∃ r w', (binOp .sub t (fV x) (fV d)).run P w = .ok (fV r) w' ∧ (FloatKind.f64.format.sub x d = some r ∨ (FloatKind.f64.format.sub x d = none ∧ isN r = true)) ∧ Even w w' := by
  cases h : FloatKind.f64.format.sub x d with
  | some r => exact ⟨r, w, run_float_arith w .sub t .f64 x d r h, .inl rfl, Even.refl w⟩
  | none =>
    refine ⟨_, w.drew, ?_, .inr ⟨rfl, nan_drawn x d (w.tape w.drawn (.nanBits .f64 x d))⟩, Even.drew w⟩
    simp [binOp, Op.floatArith, h, Question.forced]
end Go.Proofs.Ytfnjemhmipngdaa
