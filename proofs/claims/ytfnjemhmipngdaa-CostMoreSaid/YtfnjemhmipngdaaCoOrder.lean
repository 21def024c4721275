/-
  THE ORDER OF NUMBERS of float64: of two that are numbers, of three.
-/
import Derived.Test.YtfnjemhmipngdaaCoFloat
namespace Go.Proofs.Ytfnjemhmipngdaa
set_option linter.unusedVariables false
set_option linter.unusedSimpArgs false
open Ieee

def valI (s : Bool) (m : Nat) : Int := if s then -(m : Int) else (m : Int)
theorem signed_eq (s : Bool) (m k : Nat) : signed s m k = valI s m * 2 ^ k := by
  unfold signed valI
  rw [Nat.shiftLeft_eq]
  cases s <;> simp [Int.neg_mul]
/-- Less, at a place that is low enough for both. -/
theorem lt_place {s t : Bool} {m n : Nat} {i j b : Int} (hi : b ≤ i) (hj : b ≤ j) :
    (signed s m (i - min i j).toNat < signed t n (j - min i j).toNat) ↔ valI s m * 2 ^ (i - b).toNat < valI t n * 2 ^ (j - b).toNat := by
  rw [signed_eq, signed_eq]
  obtain ⟨k, hk⟩ : ∃ k : Nat, min i j - b = (k : Int) := ⟨(min i j - b).toNat, by omega⟩
  have e1 : (i - b).toNat = (i - min i j).toNat + k := by omega
  have e2 : (j - b).toNat = (j - min i j).toNat + k := by omega
  rw [e1, e2, Int.pow_add, Int.pow_add, ← Int.mul_assoc, ← Int.mul_assoc]
  have hp : (0 : Int) < 2 ^ k := Int.pow_pos (by omega)
  exact ⟨fun h => Int.mul_lt_mul_of_pos_right h hp, fun h => Int.lt_of_mul_lt_mul_right h (Int.le_of_lt hp)⟩
theorem order_lt_iff {s t : Bool} {m n : Nat} {i j : Int} : (Datum.number s m i).order (.number t n j) = some .lt ↔ signed s m (i - min i j).toNat < signed t n (j - min i j).toNat := by
  simp only [Datum.order, Option.some.injEq]
  exact Int.compare_eq_lt
theorem datum_trans {a b c : Datum} (h1 : a.order b = some .lt) (h2 : b.order c = some .lt) : a.order c = some .lt := by
  cases a with
  | nan => simp [Datum.order] at h1
  | infinity s =>
    cases b with
    | nan => simp [Datum.order] at h1
    | infinity t =>
      cases c with
      | nan => simp [Datum.order] at h2
      | infinity u => revert h1 h2; cases s <;> cases t <;> cases u <;> decide
      | number u p k => revert h1 h2; cases s <;> cases t <;> simp [Datum.order, compare, compareOfLessAndEq]
    | number t n j =>
      cases c with
      | nan => simp [Datum.order] at h2
      | infinity u => revert h1 h2; cases s <;> cases u <;> simp [Datum.order, compare, compareOfLessAndEq]
      | number u p k => revert h1; cases s <;> simp [Datum.order]
  | number s m i =>
    cases b with
    | nan => simp [Datum.order] at h1
    | infinity t =>
      cases c with
      | nan => simp [Datum.order] at h2
      | infinity u => revert h1 h2; cases t <;> cases u <;> simp [Datum.order, compare, compareOfLessAndEq]
      | number u p k => revert h1 h2; cases t <;> simp [Datum.order]
    | number t n j =>
      cases c with
      | nan => simp [Datum.order] at h2
      | infinity u => revert h2; cases u <;> simp [Datum.order]
      | number u p k =>
        rw [order_lt_iff] at *
        obtain ⟨b, h3, h4, h5⟩ : ∃ b : Int, b ≤ i ∧ b ≤ j ∧ b ≤ k := ⟨min i (min j k), by omega, by omega, by omega⟩
        rw [lt_place h3 h4] at h1
        rw [lt_place h4 h5] at h2
        rw [lt_place h3 h5]
        exact Int.lt_trans h1 h2
theorem datum_irrefl (a : Datum) : a.order a ≠ some .lt := by
  cases a with
  | nan => simp [Datum.order]
  | infinity s => cases s <;> decide
  | number s m i =>
    rw [Ne, order_lt_iff]
    exact Int.lt_irrefl _
theorem lssF_iff (a b : Nat) : lssF a b = true ↔ (FloatKind.f64.format.read a).order (FloatKind.f64.format.read b) = some .lt := by
  unfold lssF
  show ((FloatKind.f64.format.read a).order (FloatKind.f64.format.read b) == some .lt) = true ↔ _
  rw [beq_iff_eq]
theorem lessF_irrefl (a : Nat) : lessF a a = false := by
  rw [← Bool.not_eq_true]
  unfold lessF
  rw [lssF_iff]
  exact datum_irrefl _
theorem lessF_trans {a b c : Nat} (h1 : lessF a b = true) (h2 : lessF b c = true) : lessF a c = true := by
  unfold lessF at *
  rw [lssF_iff] at *
  exact datum_trans h1 h2
theorem lessF_asymm {a b : Nat} (h1 : lessF a b = true) : lessF b a = false := by
  rw [← Bool.not_eq_true]
  intro h2
  have := lessF_trans h1 h2
  rw [lessF_irrefl] at this
  cases this
theorem sub_isN {a r : Nat} (h : isN a = true) (hr : FloatKind.f64.format.sub a a = some r ∨ (FloatKind.f64.format.sub a a = none ∧ isN r = true)) : isN r = true := by
  rcases hr with hr | ⟨_, hr⟩
  · exfalso
    unfold isN at h
    unfold Format.sub at hr
    cases hx : FloatKind.f64.format.read a with
    | nan s t => rw [hx] at hr; cases hr
    | number s m i => rw [hx] at h; cases h
    | infinity s => rw [hx] at h; cases h
  · exact hr
end Go.Proofs.Ytfnjemhmipngdaa
