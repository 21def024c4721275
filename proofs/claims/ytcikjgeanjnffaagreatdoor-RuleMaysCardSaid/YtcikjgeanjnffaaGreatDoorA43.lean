/-
  WHAT THE PROOF STANDS ON, a part of it: LexRefRun.
-/
import Derived.Test.YtcikjgeanjnffaaGreatDoorA41
import Derived.Test.YtcikjgeanjnffaaGreatDoorA39
/-
  CONTRACTS OF THE REFERENCE's Run, All: exact.
-/

namespace Go.Proofs.YtcikjgeanjnffaaGreatDoor
open Go.RowKit
open Utf Term Lex
set_option linter.unusedVariables false
set_option linter.unusedSimpArgs false

/-- The symbols from a place on where one should begin. -/
def atSym (l : List Int) (a : Nat) : List Sym × Nat :=
  if l.drop a = [] then ([], a)
  else match one (l.drop a) with
  | .got x n => ({ x with place := a } :: (toks (l.drop (a + n)) (a + n)).1, (toks (l.drop (a + n)) (a + n)).2)
  | _ => ([], a)
theorem toks_at (l : List Int) (b : Nat) : toks (l.drop b) b = atSym l (b + sk false (l.drop b)) := by
  rw [toks_eq]
  unfold atSym
  rw [List.drop_drop]
  split
  · rfl
  · cases one (l.drop (b + sk false (l.drop b))) with
    | no => rfl
    | bad => rfl
    | got x n => simp only [List.drop_drop, Nat.add_assoc]
/-- What has been taken, and what comes, make up T. -/
def GotA (l : List Int) (acc : List Sym) (a : Nat) (T : List Sym × Nat) : Prop := T = (acc ++ (atSym l a).1, (atSym l a).2)
theorem GotA.next {l : List Int} {acc : List Sym} {a n : Nat} {T : List Sym × Nat} {x : Sym} (h : GotA l acc a T) (ha : a < l.length) (ho : one (l.drop a) = .got x n) : GotA l (acc ++ [{ x with place := a }]) (a + n + sk false (l.drop (a + n))) T := by
  unfold GotA at *
  rw [h, ← toks_at]
  unfold atSym
  rw [if_neg (by intro e; have := List.drop_eq_nil_iff.1 e; omega), ho]
  simp
theorem GotA.bad {l : List Int} {acc : List Sym} {a : Nat} {T : List Sym × Nat} (h : GotA l acc a T) (ho : ∀ x n, one (l.drop a) ≠ .got x n) : T = (acc, a) := by
  unfold GotA at *
  rw [h]
  unfold atSym
  split
  · simp
  · cases hh : one (l.drop a) with
    | no => simp
    | bad => simp
    | got x n => exact absurd hh (ho x n)
theorem GotA.over {l : List Int} {acc : List Sym} {a : Nat} {T : List Sym × Nat} (h : GotA l acc a T) (ha : l.length ≤ a) : T = (acc, a) := by
  unfold GotA at *
  rw [h]
  unfold atSym
  rw [if_pos (List.drop_eq_nil_of_le ha)]
  simp
theorem OneX.none {T : Took} {a : Nat} {w : World} {e : Ending} {w' : World} (h : OneX T a w e w') (hT : ∀ x n, T ≠ .got x n) : Below w.heap.size w w' ∧ ∃ k t tk tt te p, e = .returned (.tuple #[.agg (symC k t tk tt te p), .int .i64 (-1)]) := by
  obtain ⟨h1, h2⟩ := h
  cases T with
  | got x n => exact absurd rfl (hT x n)
  | no => exact ⟨h1, h2⟩
  | bad => exact ⟨h1, h2⟩

end Go.Proofs.YtcikjgeanjnffaaGreatDoor

