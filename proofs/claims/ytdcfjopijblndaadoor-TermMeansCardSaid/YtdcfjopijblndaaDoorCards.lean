/-
  DERIVED. GIVEN WITH THE SEED: THE CARDS: each row of YtdcfjopijblndaaDoorRows.lean that lists a variable, with what it lists TIED to the program's text (the seventh form; the later family's looks); each row that meets fmt, with fmt's text TOLD by the authors' own Lean function (tested against real Go, not proved from fmt's source: count such statements apart). THE CARD IS WHAT COUNTS. Prove the row's statement (the work); the ties are given (YtdcfjopijblndaaDoorTie.lean); close each card by the builder's one call (the guide's Derived/Test/ToyasCard.lean, 'card_holds'). Laid BY PROGRAM, IN A SANDBOX (cutbox-door.mjs). By AI agents, Wed Nov 11 2026. No macro, syntax, notation, axiom, sorry.
-/
import Derived.Test.YtdcfjopijblndaaDoorRows
import GoSem.ClaimSeven
namespace Go.Proofs.YtdcfjopijblndaaDoor
namespace Rows

/-- THE TIED CARD OF 'rhizomelaw02.TermMays'. -/
def termMaysCard : Claim7 := { stood := { row := termMaysRow, standIns := [], harness := (true, "04f0ed13e553fb568560c5c30e5faae36f740750db772128a6e70a89e661bddd"), looks := false }, kinds := [], alts := [], laidByText := true, laidKinds := [.data, .pinned], laidTests := true, laidLooks := .later }
def TermMaysCardSaid : Prop := Claim7.holds Tryd.pinned (.plain (OpenSpec.ofChange termMaysSpec)) termMaysCard

/-- THE TIED CARD OF 'rhizomelaw02.TermOrders'. -/
def termOrdersCard : Claim7 := { stood := { row := termOrdersRow, standIns := [], harness := (true, "04f0ed13e553fb568560c5c30e5faae36f740750db772128a6e70a89e661bddd"), looks := false }, kinds := [], alts := [], laidByText := true, laidKinds := [.data, .pinned], laidTests := true, laidLooks := .later }
def TermOrdersCardSaid : Prop := Claim7.holds Tryd.pinned (.plain (OpenSpec.ofChange termOrdersSpec)) termOrdersCard

/-- THE TIED CARD OF 'rhizomelaw02.TermMeans'. -/
def termMeansCard : Claim7 := { stood := { row := termMeansRow, standIns := [], harness := (true, "04f0ed13e553fb568560c5c30e5faae36f740750db772128a6e70a89e661bddd"), looks := false }, kinds := [], alts := [], laidByText := true, laidKinds := [.data, .pinned], laidTests := true, laidLooks := .later }
def TermMeansCardSaid : Prop := Claim7.holds Tryd.pinned (.plain (OpenSpec.ofChange termMeansSpec)) termMeansCard

/-- THE TIED CARD OF 'rhizomelaw02.TermSorts'. -/
def termSortsCard : Claim7 := { stood := { row := termSortsRow, standIns := [], harness := (true, "04f0ed13e553fb568560c5c30e5faae36f740750db772128a6e70a89e661bddd"), looks := false }, kinds := [], alts := [], laidByText := true, laidKinds := [.data, .pinned], laidTests := true, laidLooks := .later }
def TermSortsCardSaid : Prop := Claim7.holds Tryd.pinned (.plain (OpenSpec.ofChange termSortsSpec)) termSortsCard

/-- THE TIED CARD OF 'rhizomelaw02.TermBounds'. -/
def termBoundsCard : Claim7 := { stood := { row := termBoundsRow, standIns := [], harness := (true, "04f0ed13e553fb568560c5c30e5faae36f740750db772128a6e70a89e661bddd"), looks := false }, kinds := [], alts := [], laidByText := true, laidKinds := [.data, .pinned], laidTests := true, laidLooks := .later }
def TermBoundsCardSaid : Prop := Claim7.holds Tryd.pinned (.plain (OpenSpec.ofChange termBoundsSpec)) termBoundsCard

/-- THE SECOND FORM's CARD OF 'rhizomelaw02.TermMays'. -/
def termMaysUptoCard : Claim7 := { stood := { row := termMaysUptoRow, standIns := [], harness := (true, "04f0ed13e553fb568560c5c30e5faae36f740750db772128a6e70a89e661bddd"), looks := false }, kinds := [], alts := [], laidByText := true, laidKinds := [.data, .pinned], laidTests := true, laidLooks := .later }
def TermMaysUptoCardSaid : Prop := Claim7.holds Tryd.pinned (.plain (OpenSpec.upto termMaysSpec)) termMaysUptoCard

/-- THE SECOND FORM's CARD OF 'rhizomelaw02.TermOrders'. -/
def termOrdersUptoCard : Claim7 := { stood := { row := termOrdersUptoRow, standIns := [], harness := (true, "04f0ed13e553fb568560c5c30e5faae36f740750db772128a6e70a89e661bddd"), looks := false }, kinds := [], alts := [], laidByText := true, laidKinds := [.data, .pinned], laidTests := true, laidLooks := .later }
def TermOrdersUptoCardSaid : Prop := Claim7.holds Tryd.pinned (.plain (OpenSpec.upto termOrdersSpec)) termOrdersUptoCard

/-- THE SECOND FORM's CARD OF 'rhizomelaw02.TermMeans'. -/
def termMeansUptoCard : Claim7 := { stood := { row := termMeansUptoRow, standIns := [], harness := (true, "04f0ed13e553fb568560c5c30e5faae36f740750db772128a6e70a89e661bddd"), looks := false }, kinds := [], alts := [], laidByText := true, laidKinds := [.data, .pinned], laidTests := true, laidLooks := .later }
def TermMeansUptoCardSaid : Prop := Claim7.holds Tryd.pinned (.plain (OpenSpec.upto termMeansSpec)) termMeansUptoCard

/-- THE SECOND FORM's CARD OF 'rhizomelaw02.TermSorts'. -/
def termSortsUptoCard : Claim7 := { stood := { row := termSortsUptoRow, standIns := [], harness := (true, "04f0ed13e553fb568560c5c30e5faae36f740750db772128a6e70a89e661bddd"), looks := false }, kinds := [], alts := [], laidByText := true, laidKinds := [.data, .pinned], laidTests := true, laidLooks := .later }
def TermSortsUptoCardSaid : Prop := Claim7.holds Tryd.pinned (.plain (OpenSpec.upto termSortsSpec)) termSortsUptoCard

/-- THE SECOND FORM's CARD OF 'rhizomelaw02.TermBounds'. -/
def termBoundsUptoCard : Claim7 := { stood := { row := termBoundsUptoRow, standIns := [], harness := (true, "04f0ed13e553fb568560c5c30e5faae36f740750db772128a6e70a89e661bddd"), looks := false }, kinds := [], alts := [], laidByText := true, laidKinds := [.data, .pinned], laidTests := true, laidLooks := .later }
def TermBoundsUptoCardSaid : Prop := Claim7.holds Tryd.pinned (.plain (OpenSpec.upto termBoundsSpec)) termBoundsUptoCard
end Rows
end Go.Proofs.YtdcfjopijblndaaDoor
