/-
  DERIVED. GIVEN WITH THE SEED: THE CARDS: each row of YtcikjgeanjnffaaGreatDoorRows.lean that lists a variable, with what it lists TIED to the program's text (the seventh form; the later family's looks); each row that meets fmt, with fmt's text TOLD by the authors' own Lean function (tested against real Go, not proved from fmt's source: count such statements apart). THE CARD IS WHAT COUNTS. Prove the row's statement (the work); the ties are given (YtcikjgeanjnffaaGreatDoorTie.lean); close each card by the builder's one call (the guide's Derived/Test/ToyasCard.lean, 'card_holds'). Laid BY PROGRAM, IN A SANDBOX (cutbox-door.mjs). By AI agents, Wed Nov 11 2026. No macro, syntax, notation, axiom, sorry.
-/
import Derived.Test.YtcikjgeanjnffaaGreatDoorRows
import GoSem.ClaimSeven
namespace Go.Proofs.YtcikjgeanjnffaaGreatDoor
namespace Rows

/-- THE TIED CARD OF 'rhizomelaw06.RuleMays'. -/
def ruleMaysCard : Claim7 := { stood := { row := ruleMaysRow, standIns := [], harness := (true, "b6b5593e62cdf5aceecb58928737ea079676ddded3a9b7ca6650a3d6c698f1e4"), looks := true }, kinds := [], alts := [], laidByText := true, laidKinds := [.data, .data, .data, .data, .sentinel, .sentinel, .data, .pinned], laidTests := true, laidLooks := .later }
def RuleMaysCardSaid : Prop := Claim7.holds Tryz.pinned (.plain (OpenSpec.ofChange ruleMaysSpec)) ruleMaysCard

/-- THE TIED CARD OF 'rhizomelaw06.RuleReads'. -/
def ruleReadsCard : Claim7 := { stood := { row := ruleReadsRow, standIns := [], harness := (true, "b6b5593e62cdf5aceecb58928737ea079676ddded3a9b7ca6650a3d6c698f1e4"), looks := true }, kinds := [], alts := [], laidByText := true, laidKinds := [.data, .data, .data, .data, .sentinel, .sentinel, .data, .pinned], laidTests := true, laidLooks := .later }
def RuleReadsCardSaid : Prop := Claim7.holds Tryz.pinned (.plain (OpenSpec.ofChange ruleReadsSpec)) ruleReadsCard

/-- THE TIED CARD OF 'rhizomelaw06.RuleParts'. -/
def rulePartsCard : Claim7 := { stood := { row := rulePartsRow, standIns := [], harness := (true, "b6b5593e62cdf5aceecb58928737ea079676ddded3a9b7ca6650a3d6c698f1e4"), looks := true }, kinds := [], alts := [], laidByText := true, laidKinds := [.data, .data, .data, .data, .sentinel, .sentinel, .data, .pinned], laidTests := true, laidLooks := .later }
def RulePartsCardSaid : Prop := Claim7.holds Tryz.pinned (.plain (OpenSpec.ofChange rulePartsSpec)) rulePartsCard

/-- THE TIED CARD OF 'rhizomelaw06.RuleWrites'. -/
def ruleWritesCard : Claim7 := { stood := { row := ruleWritesRow, standIns := [], harness := (true, "b6b5593e62cdf5aceecb58928737ea079676ddded3a9b7ca6650a3d6c698f1e4"), looks := true }, kinds := [], alts := [], laidByText := true, laidKinds := [.data, .data, .data, .data, .sentinel, .sentinel, .data, .pinned], laidTests := true, laidLooks := .later }
def RuleWritesCardSaid : Prop := Claim7.holds Tryz.pinned (.plain (OpenSpec.ofChange ruleWritesSpec)) ruleWritesCard

/-- THE TIED CARD OF 'rhizomelaw06.RuleMeans'. -/
def ruleMeansCard : Claim7 := { stood := { row := ruleMeansRow, standIns := [], harness := (true, "b6b5593e62cdf5aceecb58928737ea079676ddded3a9b7ca6650a3d6c698f1e4"), looks := true }, kinds := [], alts := [], laidByText := true, laidKinds := [.data, .data, .data, .data, .sentinel, .sentinel, .data, .pinned], laidTests := true, laidLooks := .later }
def RuleMeansCardSaid : Prop := Claim7.holds Tryz.pinned (.plain (OpenSpec.ofChange ruleMeansSpec)) ruleMeansCard

/-- THE TIED CARD OF 'rhizomelaw06.RuleBounds'. -/
def ruleBoundsCard : Claim7 := { stood := { row := ruleBoundsRow, standIns := [], harness := (true, "b6b5593e62cdf5aceecb58928737ea079676ddded3a9b7ca6650a3d6c698f1e4"), looks := true }, kinds := [], alts := [], laidByText := true, laidKinds := [.data, .data, .data, .data, .sentinel, .sentinel, .data, .pinned], laidTests := true, laidLooks := .later }
def RuleBoundsCardSaid : Prop := Claim7.holds Tryz.pinned (.plain (OpenSpec.ofChange ruleBoundsSpec)) ruleBoundsCard

/-- THE TIED CARD OF 'rhizomelaw07.QueryMays'. -/
def queryMaysCard : Claim7 := { stood := { row := queryMaysRow, standIns := [], harness := (true, "b6b5593e62cdf5aceecb58928737ea079676ddded3a9b7ca6650a3d6c698f1e4"), looks := true }, kinds := [], alts := [], laidByText := true, laidKinds := [.data, .data, .data, .data, .sentinel, .sentinel, .data, .pinned], laidTests := true, laidLooks := .later }
def QueryMaysCardSaid : Prop := Claim7.holds Tryz.pinned (.plain (OpenSpec.ofChange queryMaysSpec)) queryMaysCard

/-- THE TIED CARD OF 'rhizomelaw07.QueryMeans'. -/
def queryMeansCard : Claim7 := { stood := { row := queryMeansRow, standIns := [], harness := (true, "b6b5593e62cdf5aceecb58928737ea079676ddded3a9b7ca6650a3d6c698f1e4"), looks := true }, kinds := [], alts := [], laidByText := true, laidKinds := [.data, .data, .data, .data, .sentinel, .sentinel, .data, .pinned], laidTests := true, laidLooks := .later }
def QueryMeansCardSaid : Prop := Claim7.holds Tryz.pinned (.plain (OpenSpec.ofChange queryMeansSpec)) queryMeansCard

/-- THE TIED CARD OF 'rhizomelaw07.QueryForms'. -/
def queryFormsCard : Claim7 := { stood := { row := queryFormsRow, standIns := [], harness := (true, "b6b5593e62cdf5aceecb58928737ea079676ddded3a9b7ca6650a3d6c698f1e4"), looks := true }, kinds := [], alts := [], laidByText := true, laidKinds := [.data, .data, .data, .data, .sentinel, .sentinel, .data, .pinned], laidTests := true, laidLooks := .later }
def QueryFormsCardSaid : Prop := Claim7.holds Tryz.pinned (.plain (OpenSpec.ofChange queryFormsSpec)) queryFormsCard

/-- THE SECOND FORM's CARD OF 'rhizomelaw06.RuleMays'. -/
def ruleMaysUptoCard : Claim7 := { stood := { row := ruleMaysUptoRow, standIns := [], harness := (true, "b6b5593e62cdf5aceecb58928737ea079676ddded3a9b7ca6650a3d6c698f1e4"), looks := true }, kinds := [], alts := [], laidByText := true, laidKinds := [.data, .data, .data, .data, .sentinel, .sentinel, .data, .pinned], laidTests := true, laidLooks := .later }
def RuleMaysUptoCardSaid : Prop := Claim7.holds Tryz.pinned (.plain (OpenSpec.upto ruleMaysSpec)) ruleMaysUptoCard

/-- THE SECOND FORM's CARD OF 'rhizomelaw06.RuleReads'. -/
def ruleReadsUptoCard : Claim7 := { stood := { row := ruleReadsUptoRow, standIns := [], harness := (true, "b6b5593e62cdf5aceecb58928737ea079676ddded3a9b7ca6650a3d6c698f1e4"), looks := true }, kinds := [], alts := [], laidByText := true, laidKinds := [.data, .data, .data, .data, .sentinel, .sentinel, .data, .pinned], laidTests := true, laidLooks := .later }
def RuleReadsUptoCardSaid : Prop := Claim7.holds Tryz.pinned (.plain (OpenSpec.upto ruleReadsSpec)) ruleReadsUptoCard

/-- THE SECOND FORM's CARD OF 'rhizomelaw06.RuleParts'. -/
def rulePartsUptoCard : Claim7 := { stood := { row := rulePartsUptoRow, standIns := [], harness := (true, "b6b5593e62cdf5aceecb58928737ea079676ddded3a9b7ca6650a3d6c698f1e4"), looks := true }, kinds := [], alts := [], laidByText := true, laidKinds := [.data, .data, .data, .data, .sentinel, .sentinel, .data, .pinned], laidTests := true, laidLooks := .later }
def RulePartsUptoCardSaid : Prop := Claim7.holds Tryz.pinned (.plain (OpenSpec.upto rulePartsSpec)) rulePartsUptoCard

/-- THE SECOND FORM's CARD OF 'rhizomelaw06.RuleWrites'. -/
def ruleWritesUptoCard : Claim7 := { stood := { row := ruleWritesUptoRow, standIns := [], harness := (true, "b6b5593e62cdf5aceecb58928737ea079676ddded3a9b7ca6650a3d6c698f1e4"), looks := true }, kinds := [], alts := [], laidByText := true, laidKinds := [.data, .data, .data, .data, .sentinel, .sentinel, .data, .pinned], laidTests := true, laidLooks := .later }
def RuleWritesUptoCardSaid : Prop := Claim7.holds Tryz.pinned (.plain (OpenSpec.upto ruleWritesSpec)) ruleWritesUptoCard

/-- THE SECOND FORM's CARD OF 'rhizomelaw06.RuleMeans'. -/
def ruleMeansUptoCard : Claim7 := { stood := { row := ruleMeansUptoRow, standIns := [], harness := (true, "b6b5593e62cdf5aceecb58928737ea079676ddded3a9b7ca6650a3d6c698f1e4"), looks := true }, kinds := [], alts := [], laidByText := true, laidKinds := [.data, .data, .data, .data, .sentinel, .sentinel, .data, .pinned], laidTests := true, laidLooks := .later }
def RuleMeansUptoCardSaid : Prop := Claim7.holds Tryz.pinned (.plain (OpenSpec.upto ruleMeansSpec)) ruleMeansUptoCard

/-- THE SECOND FORM's CARD OF 'rhizomelaw06.RuleBounds'. -/
def ruleBoundsUptoCard : Claim7 := { stood := { row := ruleBoundsUptoRow, standIns := [], harness := (true, "b6b5593e62cdf5aceecb58928737ea079676ddded3a9b7ca6650a3d6c698f1e4"), looks := true }, kinds := [], alts := [], laidByText := true, laidKinds := [.data, .data, .data, .data, .sentinel, .sentinel, .data, .pinned], laidTests := true, laidLooks := .later }
def RuleBoundsUptoCardSaid : Prop := Claim7.holds Tryz.pinned (.plain (OpenSpec.upto ruleBoundsSpec)) ruleBoundsUptoCard

/-- THE SECOND FORM's CARD OF 'rhizomelaw07.QueryMays'. -/
def queryMaysUptoCard : Claim7 := { stood := { row := queryMaysUptoRow, standIns := [], harness := (true, "b6b5593e62cdf5aceecb58928737ea079676ddded3a9b7ca6650a3d6c698f1e4"), looks := true }, kinds := [], alts := [], laidByText := true, laidKinds := [.data, .data, .data, .data, .sentinel, .sentinel, .data, .pinned], laidTests := true, laidLooks := .later }
def QueryMaysUptoCardSaid : Prop := Claim7.holds Tryz.pinned (.plain (OpenSpec.upto queryMaysSpec)) queryMaysUptoCard

/-- THE SECOND FORM's CARD OF 'rhizomelaw07.QueryMeans'. -/
def queryMeansUptoCard : Claim7 := { stood := { row := queryMeansUptoRow, standIns := [], harness := (true, "b6b5593e62cdf5aceecb58928737ea079676ddded3a9b7ca6650a3d6c698f1e4"), looks := true }, kinds := [], alts := [], laidByText := true, laidKinds := [.data, .data, .data, .data, .sentinel, .sentinel, .data, .pinned], laidTests := true, laidLooks := .later }
def QueryMeansUptoCardSaid : Prop := Claim7.holds Tryz.pinned (.plain (OpenSpec.upto queryMeansSpec)) queryMeansUptoCard

/-- THE SECOND FORM's CARD OF 'rhizomelaw07.QueryForms'. -/
def queryFormsUptoCard : Claim7 := { stood := { row := queryFormsUptoRow, standIns := [], harness := (true, "b6b5593e62cdf5aceecb58928737ea079676ddded3a9b7ca6650a3d6c698f1e4"), looks := true }, kinds := [], alts := [], laidByText := true, laidKinds := [.data, .data, .data, .data, .sentinel, .sentinel, .data, .pinned], laidTests := true, laidLooks := .later }
def QueryFormsUptoCardSaid : Prop := Claim7.holds Tryz.pinned (.plain (OpenSpec.upto queryFormsSpec)) queryFormsUptoCard
end Rows
end Go.Proofs.YtcikjgeanjnffaaGreatDoor
