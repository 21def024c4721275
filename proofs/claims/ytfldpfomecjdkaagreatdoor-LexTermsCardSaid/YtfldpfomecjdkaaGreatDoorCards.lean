/-
  DERIVED. GIVEN WITH THE SEED: THE CARDS: each row of YtfldpfomecjdkaaGreatDoorRows.lean that lists a variable, with what it lists TIED to the program's text (the seventh form; the later family's looks); each row that meets fmt, with fmt's text TOLD by the authors' own Lean function (tested against real Go, not proved from fmt's source: count such statements apart). THE CARD IS WHAT COUNTS. Prove the row's statement (the work); the ties are given (YtfldpfomecjdkaaGreatDoorTie.lean); close each card by the builder's one call (the guide's Derived/Test/ToyasCard.lean, 'card_holds'). Laid BY PROGRAM, IN A SANDBOX (cutbox-door.mjs). By AI agents, Wed Nov 11 2026. No macro, syntax, notation, axiom, sorry.
-/
import Derived.Test.YtfldpfomecjdkaaGreatDoorRows
import GoSem.ClaimSeven
namespace Go.Proofs.YtfldpfomecjdkaaGreatDoor
namespace Rows

/-- THE TIED CARD OF 'rhizomelaw04.LexTerms'. -/
def lexTermsCard : Claim7 := { stood := { row := lexTermsRow, standIns := [], harness := (true, "4a0bb1d57af226fbb01a3aecfe06c40a0a79906c76f14c76f73a510e64f845ce"), looks := true }, kinds := [], alts := [], laidByText := true, laidKinds := [.data, .data, .data, .data, .sentinel, .sentinel, .data, .pinned], laidTests := true, laidLooks := .later }
def LexTermsCardSaid : Prop := Claim7.holds Tryz.pinned (.plain (OpenSpec.ofChange lexTermsSpec)) lexTermsCard

/-- THE TIED CARD OF 'rhizomelaw05.TripleReads'. -/
def tripleReadsCard : Claim7 := { stood := { row := tripleReadsRow, standIns := [], harness := (true, "4a0bb1d57af226fbb01a3aecfe06c40a0a79906c76f14c76f73a510e64f845ce"), looks := true }, kinds := [], alts := [], laidByText := true, laidKinds := [.data, .data, .data, .data, .sentinel, .sentinel, .data, .pinned], laidTests := true, laidLooks := .later }
def TripleReadsCardSaid : Prop := Claim7.holds Tryz.pinned (.plain (OpenSpec.ofChange tripleReadsSpec)) tripleReadsCard

/-- THE TIED CARD OF 'rhizomelaw05.TripleCuts'. -/
def tripleCutsCard : Claim7 := { stood := { row := tripleCutsRow, standIns := [], harness := (true, "4a0bb1d57af226fbb01a3aecfe06c40a0a79906c76f14c76f73a510e64f845ce"), looks := true }, kinds := [], alts := [], laidByText := true, laidKinds := [.data, .data, .data, .data, .sentinel, .sentinel, .data, .pinned], laidTests := true, laidLooks := .later }
def TripleCutsCardSaid : Prop := Claim7.holds Tryz.pinned (.plain (OpenSpec.ofChange tripleCutsSpec)) tripleCutsCard

/-- THE SECOND FORM's CARD OF 'rhizomelaw04.LexTerms'. -/
def lexTermsUptoCard : Claim7 := { stood := { row := lexTermsUptoRow, standIns := [], harness := (true, "4a0bb1d57af226fbb01a3aecfe06c40a0a79906c76f14c76f73a510e64f845ce"), looks := true }, kinds := [], alts := [], laidByText := true, laidKinds := [.data, .data, .data, .data, .sentinel, .sentinel, .data, .pinned], laidTests := true, laidLooks := .later }
def LexTermsUptoCardSaid : Prop := Claim7.holds Tryz.pinned (.plain (OpenSpec.upto lexTermsSpec)) lexTermsUptoCard

/-- THE SECOND FORM's CARD OF 'rhizomelaw05.TripleReads'. -/
def tripleReadsUptoCard : Claim7 := { stood := { row := tripleReadsUptoRow, standIns := [], harness := (true, "4a0bb1d57af226fbb01a3aecfe06c40a0a79906c76f14c76f73a510e64f845ce"), looks := true }, kinds := [], alts := [], laidByText := true, laidKinds := [.data, .data, .data, .data, .sentinel, .sentinel, .data, .pinned], laidTests := true, laidLooks := .later }
def TripleReadsUptoCardSaid : Prop := Claim7.holds Tryz.pinned (.plain (OpenSpec.upto tripleReadsSpec)) tripleReadsUptoCard

/-- THE SECOND FORM's CARD OF 'rhizomelaw05.TripleCuts'. -/
def tripleCutsUptoCard : Claim7 := { stood := { row := tripleCutsUptoRow, standIns := [], harness := (true, "4a0bb1d57af226fbb01a3aecfe06c40a0a79906c76f14c76f73a510e64f845ce"), looks := true }, kinds := [], alts := [], laidByText := true, laidKinds := [.data, .data, .data, .data, .sentinel, .sentinel, .data, .pinned], laidTests := true, laidLooks := .later }
def TripleCutsUptoCardSaid : Prop := Claim7.holds Tryz.pinned (.plain (OpenSpec.upto tripleCutsSpec)) tripleCutsUptoCard
end Rows
end Go.Proofs.YtfldpfomecjdkaaGreatDoor
