/-
  DERIVED. GIVEN WITH THE SEED: THE CARDS: each row of YtbcoklbfebmpoaaGreatDoorRows.lean that lists a variable, with what it lists TIED to the program's text (the seventh form; the later family's looks); each row that meets fmt, with fmt's text TOLD by the authors' own Lean function (tested against real Go, not proved from fmt's source: count such statements apart). THE CARD IS WHAT COUNTS. Prove the row's statement (the work); the ties are given (YtbcoklbfebmpoaaGreatDoorTie.lean); close each card by the builder's one call (the guide's Derived/Test/ToyasCard.lean, 'card_holds'). Laid BY PROGRAM, IN A SANDBOX (cutbox-door.mjs). By AI agents, Wed Nov 11 2026. No macro, syntax, notation, axiom, sorry.
-/
import Derived.Test.YtbcoklbfebmpoaaGreatDoorRows
import GoSem.ClaimSeven
namespace Go.Proofs.YtbcoklbfebmpoaaGreatDoor
namespace Rows

/-- THE TIED CARD OF 'rhizomelaw06.RuleParts'. -/
def rulePartsCard : Claim7 := { stood := { row := rulePartsRow, standIns := [], harness := (true, "aad454bfccb17bd76af99c151abecf61b7a78af46583715b8a669c9e493eb0aa"), looks := true }, kinds := [], alts := [], laidByText := true, laidKinds := [.data, .data, .data, .data, .sentinel, .sentinel, .data, .pinned], laidTests := true, laidLooks := .later }
def RulePartsCardSaid : Prop := Claim7.holds Tryz.pinned (.plain (OpenSpec.ofChange rulePartsSpec)) rulePartsCard

/-- THE TIED CARD OF 'rhizomelaw06.RuleBounds'. -/
def ruleBoundsCard : Claim7 := { stood := { row := ruleBoundsRow, standIns := [], harness := (true, "aad454bfccb17bd76af99c151abecf61b7a78af46583715b8a669c9e493eb0aa"), looks := true }, kinds := [], alts := [], laidByText := true, laidKinds := [.data, .data, .data, .data, .sentinel, .sentinel, .data, .pinned], laidTests := true, laidLooks := .later }
def RuleBoundsCardSaid : Prop := Claim7.holds Tryz.pinned (.plain (OpenSpec.ofChange ruleBoundsSpec)) ruleBoundsCard

/-- THE SECOND FORM's CARD OF 'rhizomelaw06.RuleParts'. -/
def rulePartsUptoCard : Claim7 := { stood := { row := rulePartsUptoRow, standIns := [], harness := (true, "aad454bfccb17bd76af99c151abecf61b7a78af46583715b8a669c9e493eb0aa"), looks := true }, kinds := [], alts := [], laidByText := true, laidKinds := [.data, .data, .data, .data, .sentinel, .sentinel, .data, .pinned], laidTests := true, laidLooks := .later }
def RulePartsUptoCardSaid : Prop := Claim7.holds Tryz.pinned (.plain (OpenSpec.upto rulePartsSpec)) rulePartsUptoCard

/-- THE SECOND FORM's CARD OF 'rhizomelaw06.RuleBounds'. -/
def ruleBoundsUptoCard : Claim7 := { stood := { row := ruleBoundsUptoRow, standIns := [], harness := (true, "aad454bfccb17bd76af99c151abecf61b7a78af46583715b8a669c9e493eb0aa"), looks := true }, kinds := [], alts := [], laidByText := true, laidKinds := [.data, .data, .data, .data, .sentinel, .sentinel, .data, .pinned], laidTests := true, laidLooks := .later }
def RuleBoundsUptoCardSaid : Prop := Claim7.holds Tryz.pinned (.plain (OpenSpec.upto ruleBoundsSpec)) ruleBoundsUptoCard
end Rows
end Go.Proofs.YtbcoklbfebmpoaaGreatDoor
