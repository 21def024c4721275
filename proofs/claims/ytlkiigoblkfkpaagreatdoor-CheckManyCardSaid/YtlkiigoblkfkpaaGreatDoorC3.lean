/-
  WHAT THE PROOF STANDS ON, a part of it: On.
-/
import Derived.Laws.OwnMore
import Derived.RowKit3
import Derived.Below
import Derived.Laws.ResultCell
/-
  A SET OF BLOCKS IN WHICH SOMEBODY WRITES: what is as it was behind that; cells of a block.
-/

namespace Go.Proofs.YtlkiigoblkfkpaaGreatDoor
open Go.RowKit
set_option linter.unusedVariables false
set_option linter.unusedSimpArgs false

/-- All blocks but those of S are as they were; the heap has not shrunk. -/
structure Turned (S : Nat → Prop) (w w' : World) : Prop where
  os : w'.os = w.os
  tape : w'.tape = w.tape
  output : w'.output = w.output
  size : w.heap.size ≤ w'.heap.size
  block : ∀ k, k < w.heap.size → ¬ S k → w'.heap[k]? = w.heap[k]?
/-- S, and what has come. -/
def growS (S : Nat → Prop) (w w' : World) : Nat → Prop := fun j => S j ∨ (w.heap.size ≤ j ∧ j < w'.heap.size)

section
variable {S S' : Nat → Prop} {u v w w' : World}
theorem Turned.refl : Turned S w w := ⟨rfl, rfl, rfl, Nat.le_refl _, fun _ _ _ => rfl⟩
theorem Turned.of_below (h : Below w.heap.size w w') : Turned S w w' := ⟨h.os, h.tape, h.output, h.size, fun k hk _ => h.block k hk⟩
theorem Turned.mono (h : Turned S w w') (hs : ∀ j, S j → S' j) : Turned S' w w' := ⟨h.os, h.tape, h.output, h.size, fun k hk hn => h.block k hk (fun hj => hn (hs k hj))⟩
theorem Turned.trans (h : Turned S u v) (k : Turned S v w) : Turned S u w :=
  ⟨k.os.trans h.os, k.tape.trans h.tape, k.output.trans h.output, Nat.le_trans h.size k.size, fun i hi hn => (k.block i (Nat.lt_of_lt_of_le hi h.size) hn).trans (h.block i hi hn)⟩
theorem Turned.then (h : Turned S u v) (k : Turned (growS S u v) v w) : Turned S u w :=
  ⟨k.os.trans h.os, k.tape.trans h.tape, k.output.trans h.output, Nat.le_trans h.size k.size, fun i hi hn => (k.block i (Nat.lt_of_lt_of_le hi h.size) (fun h' => h'.elim hn (fun h2 => absurd h2.1 (by omega)))).trans (h.block i hi hn)⟩
theorem Turned.set {a : Addr} (ha : S a.block) (x : Value) : Turned S w (w.setCell a x) :=
  ⟨rfl, rfl, rfl, by simp [World.setCell], fun k hk hn => Below.heap_setCell _ _ _ _ (fun e => hn (e ▸ ha))⟩
theorem Turned.grown {g : Nat} (h : w.grownBy w' (some g)) (hg : S g ∨ w.heap.size ≤ g) : Turned S w w' :=
  ⟨h.os, h.tape, h.output, h.size, fun k hk hn => h.block k hk (fun e => by
    obtain rfl : k = g := by injection e
    rcases hg with hg | hg
    · exact hn hg
    · omega)⟩
theorem Turned.drew (h : Turned S u w) : Turned S u w.drew := ⟨h.os, h.tape, h.output, h.size, h.block⟩
/-- A cell of another's block. -/
theorem Turned.cell (h : Turned S w w') {a : Addr} {x : Value} (ha : ¬ S a.block) (hc : w.cell? a = some x) : w'.cell? a = some x :=
  (World.cell?_of_block (h.block a.block (World.block_lt_of_cell? w a hc) ha)).trans hc
theorem Turned.below {B : Nat} (h : Turned S w w') (hB : B ≤ w.heap.size) (hS : ∀ j, S j → B ≤ j) : Below B w w' :=
  ⟨h.os, h.tape, h.output, h.size, fun k hk => h.block k (by omega) (fun hs => by have := hS k hs; omega)⟩
end

theorem cell_in {W : World} {g : Nat} {cs : Array Value} {t : TypeId} {fr : Nat × Nat} (h : W.heap[g]? = some (.cells cs t fr)) {j : Nat} {v : Value} (hv : cs[j]? = some v) : W.cell? ⟨g, j, none⟩ = some v := by
  unfold World.cell?
  rw [h]
  simpa using hv
theorem free_in {W : World} {g : Nat} {cs : Array Value} {t : TypeId} (h : W.heap[g]? = some (.cells cs t (0, 0))) (i : Nat) : W.frozen? ⟨g, i, none⟩ = false := by
  unfold World.frozen?
  rw [h]
  simp
end Go.Proofs.YtlkiigoblkfkpaaGreatDoor

