/-
  WHAT THE PROOF STANDS ON, a part of it: EqT.
-/
import Derived.Test.YtcikjgeanjnffaaGreatDoorA7
import Derived.ChangeKeysEq
/-
  '==' OF STRINGS AND OF TERMS.
-/

namespace Go.Proofs.YtcikjgeanjnffaaGreatDoor
open Go.RowKit
open Utf
set_option linter.unusedVariables false
set_option linter.unusedSimpArgs false
set_option maxRecDepth 100000

theorem bytes_toListT {s t : ByteArray} : s.toList = t.toList ↔ s = t := by
  constructor
  · intro h
    rw [ByteArray.toList_eq, ByteArray.toList_eq] at h
    exact ByteArray.ext (Array.toList_inj.1 h)
  · rintro rfl; rfl
theorem termT_eql (a b : TermD) (w : World) : (binOp .eql 24 (.agg #[.int .i64 a.1, .string a.2.1, .string a.2.2]) (.agg #[.int .i64 b.1, .string b.2.1, .string b.2.2])).run Tryz.prog w = .ok (.bool (decide (a = b))) w := by
  obtain ⟨k, t, x⟩ := a
  obtain ⟨k', t', x'⟩ := b
  go_simp
  simp only [bytes_toListT]
  by_cases h1 : k = k' <;> by_cases h2 : t = t' <;> by_cases h3 : x = x' <;> simp [h1, h2, h3]
end Go.Proofs.YtcikjgeanjnffaaGreatDoor

