/-
  DERIVED. GIVEN WITH THE SEED: THE CARDS: each row of YtjpppfcbhkbbpaaDoorRows.lean that lists a variable, with what it lists TIED to the program's text (the seventh form; the later family's looks); each row that meets fmt, with fmt's text TOLD by the authors' own Lean function (tested against real Go, not proved from fmt's source: count such statements apart). THE CARD IS WHAT COUNTS. Prove the row's statement (the work); the ties are given (YtjpppfcbhkbbpaaDoorTie.lean); close each card by the builder's one call (the guide's Derived/Test/ToyasCard.lean, 'card_holds'). Laid BY PROGRAM, IN A SANDBOX (cutbox-door.mjs). By AI agents, Wed Nov 11 2026. No macro, syntax, notation, axiom, sorry.
-/
import Derived.Test.YtjpppfcbhkbbpaaDoorRows
import GoSem.ClaimSeven
namespace Go.Proofs.YtjpppfcbhkbbpaaDoor
namespace Rows

/-- THE TIED CARD OF 'rhizomelaw02.TermOrders'. -/
def termOrdersCard : Claim7 := { stood := { row := termOrdersRow, standIns := [], harness := (true, "cfc91a0fbae5f6bea52aa6beb789322a287fa55255ac55663c0b776e8bff08f8"), looks := false }, kinds := [], alts := [], laidByText := true, laidKinds := [.data, .pinned], laidTests := true, laidLooks := .later }
def TermOrdersCardSaid : Prop := Claim7.holds Tryd.pinned (.plain (OpenSpec.ofChange termOrdersSpec)) termOrdersCard

/-- THE TIED CARD OF 'rhizomelaw02.TermSorts'. -/
def termSortsCard : Claim7 := { stood := { row := termSortsRow, standIns := [], harness := (true, "cfc91a0fbae5f6bea52aa6beb789322a287fa55255ac55663c0b776e8bff08f8"), looks := false }, kinds := [], alts := [], laidByText := true, laidKinds := [.data, .pinned], laidTests := true, laidLooks := .later }
def TermSortsCardSaid : Prop := Claim7.holds Tryd.pinned (.plain (OpenSpec.ofChange termSortsSpec)) termSortsCard

/-- THE TIED CARD OF 'rhizomelaw03.DictMeans'. -/
def dictMeansCard : Claim7 := { stood := { row := dictMeansRow, standIns := [], harness := (true, "cfc91a0fbae5f6bea52aa6beb789322a287fa55255ac55663c0b776e8bff08f8"), looks := false }, kinds := [], alts := [], laidByText := true, laidKinds := [.data, .pinned], laidTests := true, laidLooks := .later }
def DictMeansCardSaid : Prop := Claim7.holds Tryd.pinned (.plain (OpenSpec.ofChange dictMeansSpec)) dictMeansCard

/-- THE TIED CARD OF 'rhizomelaw03.DictNil'. -/
def dictNilCard : Claim7 := { stood := { row := dictNilRow, standIns := [], harness := (true, "cfc91a0fbae5f6bea52aa6beb789322a287fa55255ac55663c0b776e8bff08f8"), looks := false }, kinds := [], alts := [], laidByText := true, laidKinds := [.data, .pinned], laidTests := true, laidLooks := .later }
def DictNilCardSaid : Prop := Claim7.holds Tryd.pinned (.plain (OpenSpec.ofChange dictNilSpec)) dictNilCard

/-- THE SECOND FORM's CARD OF 'rhizomelaw02.TermOrders'. -/
def termOrdersUptoCard : Claim7 := { stood := { row := termOrdersUptoRow, standIns := [], harness := (true, "cfc91a0fbae5f6bea52aa6beb789322a287fa55255ac55663c0b776e8bff08f8"), looks := false }, kinds := [], alts := [], laidByText := true, laidKinds := [.data, .pinned], laidTests := true, laidLooks := .later }
def TermOrdersUptoCardSaid : Prop := Claim7.holds Tryd.pinned (.plain (OpenSpec.upto termOrdersSpec)) termOrdersUptoCard

/-- THE SECOND FORM's CARD OF 'rhizomelaw02.TermSorts'. -/
def termSortsUptoCard : Claim7 := { stood := { row := termSortsUptoRow, standIns := [], harness := (true, "cfc91a0fbae5f6bea52aa6beb789322a287fa55255ac55663c0b776e8bff08f8"), looks := false }, kinds := [], alts := [], laidByText := true, laidKinds := [.data, .pinned], laidTests := true, laidLooks := .later }
def TermSortsUptoCardSaid : Prop := Claim7.holds Tryd.pinned (.plain (OpenSpec.upto termSortsSpec)) termSortsUptoCard

/-- THE SECOND FORM's CARD OF 'rhizomelaw03.DictMeans'. -/
def dictMeansUptoCard : Claim7 := { stood := { row := dictMeansUptoRow, standIns := [], harness := (true, "cfc91a0fbae5f6bea52aa6beb789322a287fa55255ac55663c0b776e8bff08f8"), looks := false }, kinds := [], alts := [], laidByText := true, laidKinds := [.data, .pinned], laidTests := true, laidLooks := .later }
def DictMeansUptoCardSaid : Prop := Claim7.holds Tryd.pinned (.plain (OpenSpec.upto dictMeansSpec)) dictMeansUptoCard

/-- THE SECOND FORM's CARD OF 'rhizomelaw03.DictNil'. -/
def dictNilUptoCard : Claim7 := { stood := { row := dictNilUptoRow, standIns := [], harness := (true, "cfc91a0fbae5f6bea52aa6beb789322a287fa55255ac55663c0b776e8bff08f8"), looks := false }, kinds := [], alts := [], laidByText := true, laidKinds := [.data, .pinned], laidTests := true, laidLooks := .later }
def DictNilUptoCardSaid : Prop := Claim7.holds Tryd.pinned (.plain (OpenSpec.upto dictNilSpec)) dictNilUptoCard
end Rows
end Go.Proofs.YtjpppfcbhkbbpaaDoor
