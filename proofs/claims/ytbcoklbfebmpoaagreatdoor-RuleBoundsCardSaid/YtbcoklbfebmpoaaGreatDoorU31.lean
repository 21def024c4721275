/-
  WHAT THE PROOF STANDS ON, a part of it: RuRefTexts, RuMuch.
-/
import Derived.Test.YtbcoklbfebmpoaaGreatDoorU25
import Derived.Test.YtbcoklbfebmpoaaGreatDoorU21
import Derived.Test.YtbcoklbfebmpoaaGreatDoorU27
import Derived.Test.YtbcoklbfebmpoaaGreatDoorU28
import Derived.Test.YtbcoklbfebmpoaaGreatDoorU24
import Derived.Deep.RegionLaw
import Derived.IntWalk
import Derived.Deep.LoopGhost
import Derived.WalkKit
/-
  CONTRACT OF THE REFERENCE's Texts. (Written by tools/genrureftexts.py: its end out of XNtRefText.)
-/

namespace Go.Proofs.YtbcoklbfebmpoaaGreatDoor
open Go.RowKit
open Utf Term
set_option linter.unusedVariables false
set_option linter.unusedSimpArgs false

theorem own_keepR {w w' : World} {base : Nat} {e : TypeId} {k n : Nat} {v : Value} {xs : List Value} (h : w.ownsRow base e k v n xs) (hB : Below w.heap.size w w') : w'.ownsRow base e k v n xs := by
  refine ⟨h.1, ?_⟩
  rcases h.2 with hn | ⟨g, cap, cur, hv, hb, hg, rest⟩
  · exact .inl hn
  · exact .inr ⟨g, cap, cur, hv, hb, by rw [hB.block g (Array.getElem?_eq_some_iff.1 hg).1]; exact hg, rest⟩
end Go.Proofs.YtbcoklbfebmpoaaGreatDoor

/-
  THE CONTRACT OF THE REFERENCE's Much. (Written by tools/genrumuch.py.)
-/

namespace Go.Proofs.YtbcoklbfebmpoaaGreatDoor
open Go.RowKit
open Utf Term
set_option linter.unusedVariables false
set_option linter.unusedSimpArgs false

theorem RuleAt.head {W : World} {g o : Nat} {p : PatD} {v : Value} (h : RuleAt W g o p v) : W.rangeAt g o (patC p).toList := fun c u hu => by
  have hc : c < 12 := (List.getElem?_eq_some_iff.1 hu).1
  refine h.range c u ?_
  have e : (ruleC p v).toList = (patC p).toList ++ [v] := rfl
  rw [e, List.getElem?_append_left (by exact hc)]
  exact hu
theorem RuleAt.body {W : World} {g o : Nat} {p : PatD} {v : Value} (h : RuleAt W g o p v) : W.cell? ⟨g, o + 12, none⟩ = some v := h.2.2.2.2.2.2.2.2.2.2.2.2
theorem SliceRu.small {W : World} {v : Value} {rs : List RuleD} (h : SliceRu W v rs) : rs.length ≤ 9223372036854775807 := by
  rcases h with ⟨_, rfl⟩ | ⟨g, o, cap, _, h2, h3, _⟩
  · exact Nat.zero_le _
  · unfold maxLen at h3; omega
end Go.Proofs.YtbcoklbfebmpoaaGreatDoor

