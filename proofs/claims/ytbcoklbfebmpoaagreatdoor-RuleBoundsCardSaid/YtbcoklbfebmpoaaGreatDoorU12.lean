/-
  WHAT THE PROOF STANDS ON, a part of it: UtfRunesRef.
-/
import Derived.Test.YtbcoklbfebmpoaaGreatDoorU5
import Derived.Test.YtbcoklbfebmpoaaGreatDoorU11
import Derived.Deep.RegionWith
import Derived.Lib.Strings


/-
  CONTRACTS OF THE REFERENCE's Put AND Get.
-/
namespace Go.Proofs.YtbcoklbfebmpoaaGreatDoor
open Go.RowKit
open Utf

/-- What holds when k lengths have been tried. -/
def Tried (s : ByteArray) (k : Nat) : Prop := (dec (bs s)).2 = 0 ∨ k < (dec (bs s)).2
theorem Tried.next {s : ByteArray} {k : Nat} (h : Tried s k) (hn : (dec (bs s)).2 ≠ k + 1) : Tried s (k + 1) := by unfold Tried at *; omega

end Go.Proofs.YtbcoklbfebmpoaaGreatDoor

/-
  THE CONTRACT OF THE REFERENCE's Runes.
-/
namespace Go.Proofs.YtbcoklbfebmpoaaGreatDoor
open Go.RowKit
open Utf

namespace Utf
end Utf

end Go.Proofs.YtbcoklbfebmpoaaGreatDoor

