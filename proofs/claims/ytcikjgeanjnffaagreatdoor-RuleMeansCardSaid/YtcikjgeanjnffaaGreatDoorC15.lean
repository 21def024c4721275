/-
  WHAT THE PROOF STANDS ON, a part of it: Compare.
-/
import Derived.Test.YtcikjgeanjnffaaGreatDoorC6
import Derived.Test.YtcikjgeanjnffaaGreatDoorC2
import Derived.Test.YtcikjgeanjnffaaGreatDoorC11
import Derived.Deep.RegionHeld3
import Derived.Deep.RegionWith
/-
  CONTRACTS OF Compare, Less, CompareTriples. Written by tools/gencompare.py.
-/

namespace Go.Proofs.YtcikjgeanjnffaaGreatDoor
open Go.RowKit
open Utf Term
set_option linter.unusedVariables false
set_option linter.unusedSimpArgs false

theorem cmpText_any (t t' : ByteArray) (w : World) : Calls Tryz.prog 81 #[.string t, .string t'] w fun e w' => e = .returned (.int .i64 (cmpB t t')) ∧ w = w' :=
  (Tryz.strings_Compare t t' w).mono fun e w' h => ⟨h.1, h.2.symm⟩

end Go.Proofs.YtcikjgeanjnffaaGreatDoor

