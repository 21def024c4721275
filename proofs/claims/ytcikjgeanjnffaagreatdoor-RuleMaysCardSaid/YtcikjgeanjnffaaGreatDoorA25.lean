/-
  WHAT THE PROOF STANDS ON, a part of it: LexRefX.
-/
import Derived.Test.YtcikjgeanjnffaaGreatDoorA23
import Derived.Test.YtcikjgeanjnffaaGreatDoorA15
import Derived.Test.YtcikjgeanjnffaaGreatDoorA24
import Derived.Deep.DeepCutAuto
import Derived.LoopTactic
/-
  CONTRACTS OF THE REFERENCE's ch, hex AND escape: exact.
-/

namespace Go.Proofs.YtcikjgeanjnffaaGreatDoor
open Go.RowKit
open Utf Term Lex
set_option linter.unusedVariables false
set_option linter.unusedSimpArgs false

theorem drop_at {l : List Int} {k : Nat} (h : k < l.length) : l.drop k = l.getD k 0 :: l.drop (k + 1) := by
  rw [List.drop_eq_getElem_cons h, List.getD_eq_getElem?_getD, List.getElem?_eq_getElem h]
  rfl
/-- What escape answers. -/
def EscX (s : ByteArray) (a : Nat) (all : Bool) (w : World) (e : Ending) (w' : World) : Prop :=
  Below w.heap.size w w' ∧ match escL all ((bs s).drop (a + 1)) with
  | none => e = .returned (.tuple #[.slice none 0 0, .int .i64 (-1)])
  | some (b, k) => e = .returned (.tuple #[.slice (some ⟨w.heap.size, 0, none⟩) b.length b.length, .int .i64 ((a : Int) + (k : Int))]) ∧ BlockAt w' w.heap.size (b.map (Value.int .u8)).toArray 5
theorem EscX.no {s : ByteArray} {a : Nat} {all : Bool} {w : World} (h : escL all ((bs s).drop (a + 1)) = none) : EscX s a all w (.returned (.tuple #[.slice none 0 0, .int .i64 (-1)])) w := by
  unfold EscX
  rw [h]
  exact ⟨Below.refl _ _, rfl⟩
theorem EscX.one {s : ByteArray} {a : Nat} {all : Bool} {w : World} (b : Int) (h : escL all ((bs s).drop (a + 1)) = some ([b], 2)) : EscX s a all w (.returned (.tuple #[.slice (some ⟨w.heap.size, 0, none⟩) 1 1, .int .i64 ((a : Int) + 2)])) (w.alloc (.cells #[.int .u8 b] 5)) := by
  unfold EscX
  rw [h]
  exact ⟨below_lex _ _, rfl, block_new _ _ _⟩
theorem EscX.put {s : ByteArray} {a : Nat} {all : Bool} {w : World} (r : Int) (hr : May r) (k : Nat) (h : escL all ((bs s).drop (a + 1)) = some (enc r, k)) (d : Int) (hd : d = (a : Int) + (k : Int)) : EscX s a all w (.returned (.tuple #[.slice (some ⟨w.heap.size, 0, none⟩) (rsize r) (rsize r), .int .i64 d])) (w.alloc (.cells ((enc r).map (Value.int .u8)).toArray 5)) := by
  unfold EscX
  rw [h, hd]
  exact ⟨below_lex _ _, by rw [rsize_enc hr], block_new _ _ _⟩
end Go.Proofs.YtcikjgeanjnffaaGreatDoor

