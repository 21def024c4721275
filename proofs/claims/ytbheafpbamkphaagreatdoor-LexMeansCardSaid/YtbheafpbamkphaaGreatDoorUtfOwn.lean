/-
  LEMMAS on rows that a call makes.
-/
import Derived.Test.YtbheafpbamkphaaGreatDoorUtfGet
namespace Go.Proofs.YtbheafpbamkphaaGreatDoor
open Go.RowKit
open Utf

theorem info_u8 : (Tryz.prog.info? 5).map (fun i => (i.zero, i.size, i.bytes)) = some (some (.int .u8 0), 1, 1) := by kernel_rfl

theorem cells_new (w : World) (cs : Array Value) (t : TypeId) (news : List Value) (h : ∀ (j : Nat) (u : Value), news[j]? = some u → cs[j]? = some u) :
    ∀ (j : Nat) (u : Value), news[j]? = some u → (w.alloc (.cells cs t)).cell? ((⟨w.heap.size, 0, none⟩ : Addr).add j) = some u := by
  intro j u hj
  have e : (⟨w.heap.size, 0, none⟩ : Addr).add j = ⟨w.heap.size, j, none⟩ := by unfold Addr.add; split <;> simp_all
  rw [e, World.cell?_alloc_at _ _ _ _ rfl]
  exact h j u hj

theorem grown_alloc {w w' : World} {row : Option Nat} (o : Obj) (h : (w.alloc o).grownBy w' row) : w.grownBy w' row :=
  ⟨h.os, h.tape, h.output, Nat.le_trans (by simp) h.size, fun k hk hr => (h.block k (by simp; omega) hr).trans (Below.heap_alloc _ _ _ hk)⟩

theorem pre2 (a b c d : Value) : ∀ (j : Nat) (u : Value), [a, b][j]? = some u → #[a, b, c, d][j]? = some u := by
  intro j u h
  match j, h with
  | 0, h => exact h
  | 1, h => exact h
  | j + 2, h => simp at h
theorem pre1 (a b c d : Value) : ∀ (j : Nat) (u : Value), [a][j]? = some u → #[a, b, c, d][j]? = some u := by
  intro j u h
  match j, h with
  | 0, h => exact h
  | j + 1, h => simp at h
theorem pre3 (a b c d : Value) : ∀ (j : Nat) (u : Value), [a, b, c][j]? = some u → #[a, b, c, d][j]? = some u := by
  intro j u h
  match j, h with
  | 0, h => exact h
  | 1, h => exact h
  | 2, h => exact h
  | j + 3, h => simp at h
theorem pre4 (a b c d : Value) : ∀ (j : Nat) (u : Value), [a, b, c, d][j]? = some u → #[a, b, c, d][j]? = some u := by
  intro j u h
  simpa using h

theorem below_of_grown {w w' : World} (h : w.grownBy w' (Value.slice none 0 0).ownBlock) : Below w.heap.size w w' := (Below.refl _ _).grown h (Nat.le_refl _) (fun k e => by cases e)
end Go.Proofs.YtbheafpbamkphaaGreatDoor
