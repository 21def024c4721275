/-
  WHAT THE PROOF STANDS ON, a part of it: OrderMath.
-/
import Derived.Lib.Bytealg
import GoSem.Op.String
/-
  PLAIN MATHEMATICS: orders by a number (-1, 0, 1); of bytes, of texts, of terms, of triples.
-/

namespace Go.Proofs.YtcikjgeanjnffaaGreatDoor.Term
open Go

/-- A total order, by a number. -/
structure Ord {α : Type} (f : α → α → Int) : Prop where
  anti : ∀ x y, f y x = - f x y
  zero : ∀ x y, f x y = 0 ↔ x = y
  trans : ∀ x y z, f x y ≤ 0 → f y z ≤ 0 → f x z ≤ 0
  range : ∀ x y, f x y = -1 ∨ f x y = 0 ∨ f x y = 1

namespace Ord
variable {α β : Type} {f : α → α → Int} {g : β → β → Int}
theorem refl (h : Ord f) (x : α) : f x x = 0 := (h.zero x x).2 rfl
/-- First by the one, then by the other. -/
def lex (f : α → α → Int) (g : β → β → Int) : α × β → α × β → Int := fun p q => if f p.1 q.1 = 0 then g p.2 q.2 else f p.1 q.1
end Ord

end Go.Proofs.YtcikjgeanjnffaaGreatDoor.Term

