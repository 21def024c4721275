/-
  WHAT THE PROOF STANDS ON, a part of it: OrderMath, SortRow.
-/
import Derived.Lib.Bytealg
import GoSem.Op.String
import Derived.Test.YtbcoklbfebmpoaaGreatDoorU5
import Derived.Laws.OwnMore
import Derived.Deep.Draws
import Derived.ChangeKeysEq
/-
  PLAIN MATHEMATICS: orders by a number (-1, 0, 1); of bytes, of texts, of terms, of triples.
-/

namespace Go.Proofs.YtbcoklbfebmpoaaGreatDoor.Term
open Go

/-- A total order, by a number. -/
structure Ord {α : Type} (f : α → α → Int) : Prop where
  anti : ∀ x y, f y x = - f x y
  zero : ∀ x y, f x y = 0 ↔ x = y
  trans : ∀ x y z, f x y ≤ 0 → f y z ≤ 0 → f x z ≤ 0
  range : ∀ x y, f x y = -1 ∨ f x y = 0 ∨ f x y = 1

namespace Ord
variable {α β : Type} {f : α → α → Int} {g : β → β → Int}
theorem refl (h : Ord f) (x : α) : f x x = 0 := (h.zero x x).2 rfl
/-- First by the one, then by the other. -/
def lex (f : α → α → Int) (g : β → β → Int) : α × β → α × β → Int := fun p q => if f p.1 q.1 = 0 then g p.2 q.2 else f p.1 q.1
end Ord

end Go.Proofs.YtbcoklbfebmpoaaGreatDoor.Term

/-
  ROWS OF TRIPLES IN MEMORY. CONTRACT OF has.
-/

namespace Go.Proofs.YtbcoklbfebmpoaaGreatDoor
open Go.RowKit
open Utf Term
set_option linter.unusedVariables false
set_option linter.unusedSimpArgs false

/-- A triple's data. -/
abbrev TripD := TermD × TermD × TermD
def encT (x : TripD) : List Value := [.int .i64 x.1.1, .string x.1.2.1, .string x.1.2.2, .int .i64 x.2.1.1, .string x.2.1.2.1, .string x.2.1.2.2, .int .i64 x.2.2.1, .string x.2.2.2.1, .string x.2.2.2.2]
/-- The cells of some triples. -/
def cellsT (ds : List TripD) : List Value := ds.flatMap encT
/-- Cells in a row. -/
def RowC (W : World) (b off : Nat) (cs : List Value) : Prop := ∀ j u, cs[j]? = some u → W.cell? ⟨b, off + j, none⟩ = some u
theorem RowC.below {W W' : World} {b off : Nat} {cs : List Value} (h : RowC W b off cs) (k : Below W.heap.size W W') : RowC W' b off cs := fun j u e => cell_below k (h j u e)
theorem RowC.drewN {W : World} {b off : Nat} {cs : List Value} (h : RowC W b off cs) (q : Nat) : RowC (W.drewN q) b off cs := h
/-- A triple at a place. -/
structure Nine (W : World) (b o : Nat) (x : TripD) : Prop where
  c0 : W.cell? ⟨b, o, none⟩ = some (.int .i64 x.1.1)
  c1 : W.cell? ⟨b, o + 1, none⟩ = some (.string x.1.2.1)
  c2 : W.cell? ⟨b, o + 2, none⟩ = some (.string x.1.2.2)
  c3 : W.cell? ⟨b, o + 3, none⟩ = some (.int .i64 x.2.1.1)
  c4 : W.cell? ⟨b, o + 4, none⟩ = some (.string x.2.1.2.1)
  c5 : W.cell? ⟨b, o + 5, none⟩ = some (.string x.2.1.2.2)
  c6 : W.cell? ⟨b, o + 6, none⟩ = some (.int .i64 x.2.2.1)
  c7 : W.cell? ⟨b, o + 7, none⟩ = some (.string x.2.2.2.1)
  c8 : W.cell? ⟨b, o + 8, none⟩ = some (.string x.2.2.2.2)
theorem Nine.below {W W' : World} {b o : Nat} {x : TripD} (h : Nine W b o x) (k : Below W.heap.size W W') : Nine W' b o x :=
  ⟨cell_below k h.c0, cell_below k h.c1, cell_below k h.c2, cell_below k h.c3, cell_below k h.c4, cell_below k h.c5, cell_below k h.c6, cell_below k h.c7, cell_below k h.c8⟩

/-- A slice of triples. -/
def SliceT (W : World) (v : Value) (ds : List TripD) : Prop :=
  (v = .slice none 0 0 ∧ ds = []) ∨ ∃ b off cap, v = .slice (some ⟨b, off, none⟩) ds.length cap ∧ ds.length ≤ cap ∧ cap ≤ maxLen ∧ RowC W b off (cellsT ds)
theorem SliceT.below {W W' : World} {v : Value} {ds : List TripD} (h : SliceT W v ds) (k : Below W.heap.size W W') : SliceT W' v ds := by
  rcases h with h | ⟨b, off, cap, h1, h2, h3, h4⟩
  · exact .inl h
  · exact .inr ⟨b, off, cap, h1, h2, h3, h4.below k⟩
end Go.Proofs.YtbcoklbfebmpoaaGreatDoor

