/-
  DERIVED. GIVEN WITH THE SEED: THE CARDS: each row of YtlamdhklfibjmaaDoorRows.lean that lists a variable, with what it lists TIED to the program's text (the seventh form; the later family's looks); each row that meets fmt, with fmt's text TOLD by the authors' own Lean function (tested against real Go, not proved from fmt's source: count such statements apart). THE CARD IS WHAT COUNTS. Prove the row's statement (the work); the ties are given (YtlamdhklfibjmaaDoorTie.lean); close each card by the builder's one call (the guide's Derived/Test/ToyasCard.lean, 'card_holds'). Laid BY PROGRAM, IN A SANDBOX (cutbox-door.mjs). By AI agents, Wed Nov 11 2026. No macro, syntax, notation, axiom, sorry.
-/
import Derived.Test.YtlamdhklfibjmaaDoorRows
import GoSem.ClaimSeven
namespace Go.Proofs.YtlamdhklfibjmaaDoor
namespace Rows

/-- THE TIED CARD OF 'rhizomelaw03.DictMeans'. -/
def dictMeansCard : Claim7 := { stood := { row := dictMeansRow, standIns := [], harness := (true, "14e32285199945a4d78b33c82e8db13a0f2b717bc910dd22987385b38a01aa6c"), looks := false }, kinds := [], alts := [], laidByText := true, laidKinds := [.data, .pinned], laidTests := true, laidLooks := .later }
def DictMeansCardSaid : Prop := Claim7.holds Tryd.pinned (.plain (OpenSpec.ofChange dictMeansSpec)) dictMeansCard

/-- THE TIED CARD OF 'rhizomelaw03.DictNil'. -/
def dictNilCard : Claim7 := { stood := { row := dictNilRow, standIns := [], harness := (true, "14e32285199945a4d78b33c82e8db13a0f2b717bc910dd22987385b38a01aa6c"), looks := false }, kinds := [], alts := [], laidByText := true, laidKinds := [.data, .pinned], laidTests := true, laidLooks := .later }
def DictNilCardSaid : Prop := Claim7.holds Tryd.pinned (.plain (OpenSpec.ofChange dictNilSpec)) dictNilCard

/-- THE SECOND FORM's CARD OF 'rhizomelaw03.DictMeans'. -/
def dictMeansUptoCard : Claim7 := { stood := { row := dictMeansUptoRow, standIns := [], harness := (true, "14e32285199945a4d78b33c82e8db13a0f2b717bc910dd22987385b38a01aa6c"), looks := false }, kinds := [], alts := [], laidByText := true, laidKinds := [.data, .pinned], laidTests := true, laidLooks := .later }
def DictMeansUptoCardSaid : Prop := Claim7.holds Tryd.pinned (.plain (OpenSpec.upto dictMeansSpec)) dictMeansUptoCard

/-- THE SECOND FORM's CARD OF 'rhizomelaw03.DictNil'. -/
def dictNilUptoCard : Claim7 := { stood := { row := dictNilUptoRow, standIns := [], harness := (true, "14e32285199945a4d78b33c82e8db13a0f2b717bc910dd22987385b38a01aa6c"), looks := false }, kinds := [], alts := [], laidByText := true, laidKinds := [.data, .pinned], laidTests := true, laidLooks := .later }
def DictNilUptoCardSaid : Prop := Claim7.holds Tryd.pinned (.plain (OpenSpec.upto dictNilSpec)) dictNilUptoCard
end Rows
end Go.Proofs.YtlamdhklfibjmaaDoor
