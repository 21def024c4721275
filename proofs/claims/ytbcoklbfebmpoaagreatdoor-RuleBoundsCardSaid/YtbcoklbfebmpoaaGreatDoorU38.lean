/-
  WHAT THE PROOF STANDS ON, a part of it: MayAdd, NtMath, NtTake.
-/
import Derived.Test.YtbcoklbfebmpoaaGreatDoorU21
import Derived.Deep.RegionHeld3
import Derived.Deep.RegionLaw
import Derived.Test.YtbcoklbfebmpoaaGreatDoorU36
import Derived.Test.YtbcoklbfebmpoaaGreatDoorU8
/-
  CONTRACTS OF MayAdd, AND OF THE REFERENCE's MayFollow, MayAdd, TripleText, Long.
-/

namespace Go.Proofs.YtbcoklbfebmpoaaGreatDoor
open Go.RowKit
open Utf Term
set_option linter.unusedVariables false
set_option linter.unusedSimpArgs false

def Short (a : TermD) : Prop := a.2.1.size ≤ 40000 ∧ a.2.2.size ≤ 40000
theorem Short.fits {a : TermD} (h : Short a) : Fits a := ⟨by have := h.1; omega, by have := h.2; omega⟩

end Go.Proofs.YtbcoklbfebmpoaaGreatDoor

/-
  PLAIN MATHEMATICS OF LAYER 5: triples as texts.
-/

namespace Go.Proofs.YtbcoklbfebmpoaaGreatDoor
open Go.RowKit
open Utf Term Lex

/-- n terms, or the symbols from the one on that is none. -/
inductive Took3 where
  | no (l : List Sym) | yes (ts : List TermD) (l : List Sym)
def Took3.put (ts : List TermD) : Took3 → Took3
  | .no l => .no l
  | .yes us l => .yes (ts ++ us) l
theorem put_put (a b : List TermD) (r : Took3) : (r.put b).put a = r.put (a ++ b) := by
  cases r with
  | no l => rfl
  | yes us l => simp [Took3.put]
theorem put_nil (r : Took3) : r.put [] = r := by cases r <;> rfl
/-- The triples of symbols, or the symbols from the one on that is wrong. -/
inductive Par where
  | no (l : List Sym) | yes (ts : List TripD)
def Par.put (ts : List TripD) : Par → Par
  | .no l => .no l
  | .yes us => .yes (ts ++ us)
theorem Par.put_put (a b : List TripD) (r : Par) : (r.put b).put a = r.put (a ++ b) := by
  cases r with
  | no l => rfl
  | yes us => simp [Par.put]
theorem Par.put_nil (r : Par) : r.put [] = r := by cases r <;> rfl
end Go.Proofs.YtbcoklbfebmpoaaGreatDoor

/-
  CONTRACTS OF ntriples.taking, the taker, place.
-/

namespace Go.Proofs.YtbcoklbfebmpoaaGreatDoor
open Go.RowKit
open Utf Term Lex
set_option linter.unusedVariables false
set_option linter.unusedSimpArgs false

/-- A taker's box, and what lies in it. -/
structure TkAt (W : World) (tb : Nat) (v : Value) (L : List Sym) : Prop where
  blk : BlockAt W tb #[v] 24
  sl : SlA W v L
theorem TkAt.below {W U : World} {tb : Nat} {v : Value} {L : List Sym} (h : TkAt W tb v L) (k : Below W.heap.size W U) : TkAt U tb v L := ⟨h.blk.kept k, h.sl.below k⟩
theorem RowS.apart {W : World} {tb g o : Nat} {v : Value} {L : List Sym} (hb : BlockAt W tb #[v] 24) (hr : RowS W g o L) (hl : 0 < L.length) : g ≠ tb := by
  rintro rfl
  have hx : (flatS L)[1]? = some ((flatS L)[1]'(by rw [flatS_length]; omega)) := List.getElem?_eq_getElem _
  have := hr 1 _ hx
  unfold World.cell? at this
  unfold BlockAt at hb
  rw [hb] at this
  simp at this
/-- The row is as it was when another block's cell is set. -/
theorem RowS.other {W : World} {tb g o : Nat} {v u : Value} {L : List Sym} (hb : BlockAt W tb #[v] 24) (hr : RowS W g o L) : RowS (W.setCell ⟨tb, 0, none⟩ u) g o L := by
  intro j x hx
  have hl : 0 < L.length := by
    have := (List.getElem?_eq_some_iff.1 hx).1
    rw [flatS_length] at this
    omega
  have hne := RowS.apart hb hr hl
  have h1 := hr j x hx
  unfold World.cell? at h1 ⊢
  rw [Below.heap_setCell W ⟨tb, 0, none⟩ u g hne]
  exact h1

/-- A slice that holds something lies in a block below B. -/
def LowV (B : Nat) (v : Value) : Prop := ∀ g o n c, v = .slice (some ⟨g, o, none⟩) n c → 0 < n → g < B
theorem SlA.low {W : World} {v : Value} {L : List Sym} (h : SlA W v L) : LowV W.heap.size v := by
  intro g o n c e hn
  rcases h with ⟨rfl, _⟩ | ⟨g', o', cap, rfl, h1, h2, h3⟩
  · cases e
  · cases e
    have hx : (flatS L)[0]? = some ((flatS L)[0]'(by rw [flatS_length]; omega)) := List.getElem?_eq_getElem _
    exact World.block_lt_of_cell? _ _ (h3 0 _ hx)
theorem SlA.under {W U : World} {B : Nat} {v : Value} {L : List Sym} (h : SlA W v L) (hl : LowV B v) (k : Below B W U) : SlA U v L := by
  rcases h with h | ⟨g, o, cap, rfl, h1, h2, h3⟩
  · exact .inl h
  · refine .inr ⟨g, o, cap, rfl, h1, h2, fun j u e => ?_⟩
    have hn : 0 < L.length := by
      have := (List.getElem?_eq_some_iff.1 e).1
      rw [flatS_length] at this
      omega
    exact (k.cell (p := ⟨g, o + j, none⟩) (hl g o _ _ rfl hn)).trans (h3 j u e)
theorem TkAt.under {W U : World} {B tb : Nat} {v : Value} {L : List Sym} (h : TkAt W tb v L) (hl : LowV B v) (ht : tb < B) (k : Below B W U) : TkAt U tb v L := ⟨h.blk.under k ht, h.sl.under hl k⟩

end Go.Proofs.YtbcoklbfebmpoaaGreatDoor

