/-
  DERIVED. GIVEN WITH THE SEED: THE CARDS: each row of YtachijkjcbajmaaGreatDoorRows.lean that lists a variable, with what it lists TIED to the program's text (the seventh form; the later family's looks); each row that meets fmt, with fmt's text TOLD by the authors' own Lean function (tested against real Go, not proved from fmt's source: count such statements apart). THE CARD IS WHAT COUNTS. Prove the row's statement (the work); the ties are given (YtachijkjcbajmaaGreatDoorTie.lean); close each card by the builder's one call (the guide's Derived/Test/ToyasCard.lean, 'card_holds'). Laid BY PROGRAM, IN A SANDBOX (cutbox-door.mjs). By AI agents, Wed Nov 11 2026. No macro, syntax, notation, axiom, sorry.
-/
import Derived.Test.YtachijkjcbajmaaGreatDoorRows
import GoSem.ClaimSeven
namespace Go.Proofs.YtachijkjcbajmaaGreatDoor
namespace Rows

/-- THE TIED CARD OF 'rhizomelaw04.LexTerms'. -/
def lexTermsCard : Claim7 := { stood := { row := lexTermsRow, standIns := [], harness := (true, "efdea41e58a853f8486a11cf3abdd14ca45e714fe05af1acab2da22b863d1d71"), looks := true }, kinds := [], alts := [], laidByText := true, laidKinds := [.data, .data, .data, .data, .sentinel, .sentinel, .data, .pinned], laidTests := true, laidLooks := .later }
def LexTermsCardSaid : Prop := Claim7.holds Tryz.pinned (.plain (OpenSpec.ofChange lexTermsSpec)) lexTermsCard

/-- THE TIED CARD OF 'rhizomelaw05.TripleReads'. -/
def tripleReadsCard : Claim7 := { stood := { row := tripleReadsRow, standIns := [], harness := (true, "efdea41e58a853f8486a11cf3abdd14ca45e714fe05af1acab2da22b863d1d71"), looks := true }, kinds := [], alts := [], laidByText := true, laidKinds := [.data, .data, .data, .data, .sentinel, .sentinel, .data, .pinned], laidTests := true, laidLooks := .later }
def TripleReadsCardSaid : Prop := Claim7.holds Tryz.pinned (.plain (OpenSpec.ofChange tripleReadsSpec)) tripleReadsCard

/-- THE TIED CARD OF 'rhizomelaw05.TripleWrites'. -/
def tripleWritesCard : Claim7 := { stood := { row := tripleWritesRow, standIns := [], harness := (true, "efdea41e58a853f8486a11cf3abdd14ca45e714fe05af1acab2da22b863d1d71"), looks := true }, kinds := [], alts := [], laidByText := true, laidKinds := [.data, .data, .data, .data, .sentinel, .sentinel, .data, .pinned], laidTests := true, laidLooks := .later }
def TripleWritesCardSaid : Prop := Claim7.holds Tryz.pinned (.plain (OpenSpec.ofChange tripleWritesSpec)) tripleWritesCard

/-- THE TIED CARD OF 'rhizomelaw05.TripleMeans'. -/
def tripleMeansCard : Claim7 := { stood := { row := tripleMeansRow, standIns := [], harness := (true, "efdea41e58a853f8486a11cf3abdd14ca45e714fe05af1acab2da22b863d1d71"), looks := true }, kinds := [], alts := [], laidByText := true, laidKinds := [.data, .data, .data, .data, .sentinel, .sentinel, .data, .pinned], laidTests := true, laidLooks := .later }
def TripleMeansCardSaid : Prop := Claim7.holds Tryz.pinned (.plain (OpenSpec.ofChange tripleMeansSpec)) tripleMeansCard

/-- THE TIED CARD OF 'rhizomelaw05.TripleCuts'. -/
def tripleCutsCard : Claim7 := { stood := { row := tripleCutsRow, standIns := [], harness := (true, "efdea41e58a853f8486a11cf3abdd14ca45e714fe05af1acab2da22b863d1d71"), looks := true }, kinds := [], alts := [], laidByText := true, laidKinds := [.data, .data, .data, .data, .sentinel, .sentinel, .data, .pinned], laidTests := true, laidLooks := .later }
def TripleCutsCardSaid : Prop := Claim7.holds Tryz.pinned (.plain (OpenSpec.ofChange tripleCutsSpec)) tripleCutsCard

/-- THE SECOND FORM's CARD OF 'rhizomelaw04.LexTerms'. -/
def lexTermsUptoCard : Claim7 := { stood := { row := lexTermsUptoRow, standIns := [], harness := (true, "efdea41e58a853f8486a11cf3abdd14ca45e714fe05af1acab2da22b863d1d71"), looks := true }, kinds := [], alts := [], laidByText := true, laidKinds := [.data, .data, .data, .data, .sentinel, .sentinel, .data, .pinned], laidTests := true, laidLooks := .later }
def LexTermsUptoCardSaid : Prop := Claim7.holds Tryz.pinned (.plain (OpenSpec.upto lexTermsSpec)) lexTermsUptoCard

/-- THE SECOND FORM's CARD OF 'rhizomelaw05.TripleReads'. -/
def tripleReadsUptoCard : Claim7 := { stood := { row := tripleReadsUptoRow, standIns := [], harness := (true, "efdea41e58a853f8486a11cf3abdd14ca45e714fe05af1acab2da22b863d1d71"), looks := true }, kinds := [], alts := [], laidByText := true, laidKinds := [.data, .data, .data, .data, .sentinel, .sentinel, .data, .pinned], laidTests := true, laidLooks := .later }
def TripleReadsUptoCardSaid : Prop := Claim7.holds Tryz.pinned (.plain (OpenSpec.upto tripleReadsSpec)) tripleReadsUptoCard

/-- THE SECOND FORM's CARD OF 'rhizomelaw05.TripleWrites'. -/
def tripleWritesUptoCard : Claim7 := { stood := { row := tripleWritesUptoRow, standIns := [], harness := (true, "efdea41e58a853f8486a11cf3abdd14ca45e714fe05af1acab2da22b863d1d71"), looks := true }, kinds := [], alts := [], laidByText := true, laidKinds := [.data, .data, .data, .data, .sentinel, .sentinel, .data, .pinned], laidTests := true, laidLooks := .later }
def TripleWritesUptoCardSaid : Prop := Claim7.holds Tryz.pinned (.plain (OpenSpec.upto tripleWritesSpec)) tripleWritesUptoCard

/-- THE SECOND FORM's CARD OF 'rhizomelaw05.TripleMeans'. -/
def tripleMeansUptoCard : Claim7 := { stood := { row := tripleMeansUptoRow, standIns := [], harness := (true, "efdea41e58a853f8486a11cf3abdd14ca45e714fe05af1acab2da22b863d1d71"), looks := true }, kinds := [], alts := [], laidByText := true, laidKinds := [.data, .data, .data, .data, .sentinel, .sentinel, .data, .pinned], laidTests := true, laidLooks := .later }
def TripleMeansUptoCardSaid : Prop := Claim7.holds Tryz.pinned (.plain (OpenSpec.upto tripleMeansSpec)) tripleMeansUptoCard

/-- THE SECOND FORM's CARD OF 'rhizomelaw05.TripleCuts'. -/
def tripleCutsUptoCard : Claim7 := { stood := { row := tripleCutsUptoRow, standIns := [], harness := (true, "efdea41e58a853f8486a11cf3abdd14ca45e714fe05af1acab2da22b863d1d71"), looks := true }, kinds := [], alts := [], laidByText := true, laidKinds := [.data, .data, .data, .data, .sentinel, .sentinel, .data, .pinned], laidTests := true, laidLooks := .later }
def TripleCutsUptoCardSaid : Prop := Claim7.holds Tryz.pinned (.plain (OpenSpec.upto tripleCutsSpec)) tripleCutsUptoCard
end Rows
end Go.Proofs.YtachijkjcbajmaaGreatDoor
