/-
  DERIVED. GIVEN WITH THE SEED: THE CARDS: each row of YtkgddcemocfgfaaGreatDoorRows.lean that lists a variable, with what it lists TIED to the program's text (the seventh form; the later family's looks); each row that meets fmt, with fmt's text TOLD by the authors' own Lean function (tested against real Go, not proved from fmt's source: count such statements apart). THE CARD IS WHAT COUNTS. Prove the row's statement (the work); the ties are given (YtkgddcemocfgfaaGreatDoorTie.lean); close each card by the builder's one call (the guide's Derived/Test/ToyasCard.lean, 'card_holds'). Laid BY PROGRAM, IN A SANDBOX (cutbox-door.mjs). By AI agents, Wed Nov 11 2026. No macro, syntax, notation, axiom, sorry.
-/
import Derived.Test.YtkgddcemocfgfaaGreatDoorRows
import GoSem.ClaimSeven
namespace Go.Proofs.YtkgddcemocfgfaaGreatDoor
namespace Rows

/-- THE TIED CARD OF 'dioramalaw09.SchemaValid'. -/
def schemaValidCard : Claim7 := { stood := { row := schemaValidRow, standIns := [], harness := (true, "15e5f7d3e16bed80e757f67ac85bd057f4649fa64e4109c1bc98c0548e5b854d"), looks := true }, kinds := [], alts := [], laidByText := true, laidKinds := [.data, .data, .data, .data, .data, .sentinel, .sentinel, .data], laidTests := true, laidLooks := .later }
def SchemaValidCardSaid : Prop := Claim7.holds Tryz.pinned (.plain (OpenSpec.ofChange schemaValidSpec)) schemaValidCard

/-- THE TIED CARD OF 'dioramalaw09.SchemaParses'. -/
def schemaParsesCard : Claim7 := { stood := { row := schemaParsesRow, standIns := [], harness := (true, "15e5f7d3e16bed80e757f67ac85bd057f4649fa64e4109c1bc98c0548e5b854d"), looks := true }, kinds := [], alts := [], laidByText := true, laidKinds := [.data, .data, .data, .sentinel, .sentinel, .data], laidTests := true, laidLooks := .later }
def SchemaParsesCardSaid : Prop := Claim7.holds Tryz.pinned (.plain (OpenSpec.ofChange schemaParsesSpec)) schemaParsesCard

/-- THE TIED CARD OF 'dioramalaw09.SchemaLimits'. -/
def schemaLimitsCard : Claim7 := { stood := { row := schemaLimitsRow, standIns := [], harness := (true, "15e5f7d3e16bed80e757f67ac85bd057f4649fa64e4109c1bc98c0548e5b854d"), looks := true }, kinds := [], alts := [], laidByText := true, laidKinds := [.data, .data, .data, .sentinel, .sentinel, .data], laidTests := true, laidLooks := .later }
def SchemaLimitsCardSaid : Prop := Claim7.holds Tryz.pinned (.plain (OpenSpec.ofChange schemaLimitsSpec)) schemaLimitsCard

/-- THE TIED CARD OF 'dioramalaw09.SchemaAgain'. -/
def schemaAgainCard : Claim7 := { stood := { row := schemaAgainRow, standIns := [], harness := (true, "15e5f7d3e16bed80e757f67ac85bd057f4649fa64e4109c1bc98c0548e5b854d"), looks := true }, kinds := [], alts := [], laidByText := true, laidKinds := [.data, .data, .data, .sentinel, .sentinel, .data], laidTests := true, laidLooks := .later }
def SchemaAgainCardSaid : Prop := Claim7.holds Tryz.pinned (.plain (OpenSpec.ofChange schemaAgainSpec)) schemaAgainCard

/-- THE TIED CARD OF 'dioramalaw09.SchemaBlanks'. -/
def schemaBlanksCard : Claim7 := { stood := { row := schemaBlanksRow, standIns := [], harness := (true, "15e5f7d3e16bed80e757f67ac85bd057f4649fa64e4109c1bc98c0548e5b854d"), looks := true }, kinds := [], alts := [], laidByText := true, laidKinds := [.data, .data, .data, .sentinel, .sentinel, .data], laidTests := true, laidLooks := .later }
def SchemaBlanksCardSaid : Prop := Claim7.holds Tryz.pinned (.plain (OpenSpec.ofChange schemaBlanksSpec)) schemaBlanksCard

/-- THE TIED CARD OF 'dioramalaw09.SchemaBeginnings'. -/
def schemaBeginningsCard : Claim7 := { stood := { row := schemaBeginningsRow, standIns := [], harness := (true, "15e5f7d3e16bed80e757f67ac85bd057f4649fa64e4109c1bc98c0548e5b854d"), looks := true }, kinds := [], alts := [], laidByText := true, laidKinds := [.data, .data, .data, .sentinel, .sentinel, .data], laidTests := true, laidLooks := .later }
def SchemaBeginningsCardSaid : Prop := Claim7.holds Tryz.pinned (.plain (OpenSpec.ofChange schemaBeginningsSpec)) schemaBeginningsCard

/-- THE TIED CARD OF 'dioramalaw09.SchemaEqual'. -/
def schemaEqualCard : Claim7 := { stood := { row := schemaEqualRow, standIns := [], harness := (true, "15e5f7d3e16bed80e757f67ac85bd057f4649fa64e4109c1bc98c0548e5b854d"), looks := true }, kinds := [], alts := [], laidByText := true, laidKinds := [.data, .data, .data, .data, .sentinel, .sentinel, .data], laidTests := true, laidLooks := .later }
def SchemaEqualCardSaid : Prop := Claim7.holds Tryz.pinned (.plain (OpenSpec.ofChange schemaEqualSpec)) schemaEqualCard

/-- THE SECOND FORM's CARD OF 'dioramalaw09.SchemaValid'. -/
def schemaValidUptoCard : Claim7 := { stood := { row := schemaValidUptoRow, standIns := [], harness := (true, "15e5f7d3e16bed80e757f67ac85bd057f4649fa64e4109c1bc98c0548e5b854d"), looks := true }, kinds := [], alts := [], laidByText := true, laidKinds := [.data, .data, .data, .data, .data, .sentinel, .sentinel, .data], laidTests := true, laidLooks := .later }
def SchemaValidUptoCardSaid : Prop := Claim7.holds Tryz.pinned (.plain (OpenSpec.upto schemaValidSpec)) schemaValidUptoCard

/-- THE SECOND FORM's CARD OF 'dioramalaw09.SchemaParses'. -/
def schemaParsesUptoCard : Claim7 := { stood := { row := schemaParsesUptoRow, standIns := [], harness := (true, "15e5f7d3e16bed80e757f67ac85bd057f4649fa64e4109c1bc98c0548e5b854d"), looks := true }, kinds := [], alts := [], laidByText := true, laidKinds := [.data, .data, .data, .sentinel, .sentinel, .data], laidTests := true, laidLooks := .later }
def SchemaParsesUptoCardSaid : Prop := Claim7.holds Tryz.pinned (.plain (OpenSpec.upto schemaParsesSpec)) schemaParsesUptoCard

/-- THE SECOND FORM's CARD OF 'dioramalaw09.SchemaLimits'. -/
def schemaLimitsUptoCard : Claim7 := { stood := { row := schemaLimitsUptoRow, standIns := [], harness := (true, "15e5f7d3e16bed80e757f67ac85bd057f4649fa64e4109c1bc98c0548e5b854d"), looks := true }, kinds := [], alts := [], laidByText := true, laidKinds := [.data, .data, .data, .sentinel, .sentinel, .data], laidTests := true, laidLooks := .later }
def SchemaLimitsUptoCardSaid : Prop := Claim7.holds Tryz.pinned (.plain (OpenSpec.upto schemaLimitsSpec)) schemaLimitsUptoCard

/-- THE SECOND FORM's CARD OF 'dioramalaw09.SchemaAgain'. -/
def schemaAgainUptoCard : Claim7 := { stood := { row := schemaAgainUptoRow, standIns := [], harness := (true, "15e5f7d3e16bed80e757f67ac85bd057f4649fa64e4109c1bc98c0548e5b854d"), looks := true }, kinds := [], alts := [], laidByText := true, laidKinds := [.data, .data, .data, .sentinel, .sentinel, .data], laidTests := true, laidLooks := .later }
def SchemaAgainUptoCardSaid : Prop := Claim7.holds Tryz.pinned (.plain (OpenSpec.upto schemaAgainSpec)) schemaAgainUptoCard

/-- THE SECOND FORM's CARD OF 'dioramalaw09.SchemaBlanks'. -/
def schemaBlanksUptoCard : Claim7 := { stood := { row := schemaBlanksUptoRow, standIns := [], harness := (true, "15e5f7d3e16bed80e757f67ac85bd057f4649fa64e4109c1bc98c0548e5b854d"), looks := true }, kinds := [], alts := [], laidByText := true, laidKinds := [.data, .data, .data, .sentinel, .sentinel, .data], laidTests := true, laidLooks := .later }
def SchemaBlanksUptoCardSaid : Prop := Claim7.holds Tryz.pinned (.plain (OpenSpec.upto schemaBlanksSpec)) schemaBlanksUptoCard

/-- THE SECOND FORM's CARD OF 'dioramalaw09.SchemaBeginnings'. -/
def schemaBeginningsUptoCard : Claim7 := { stood := { row := schemaBeginningsUptoRow, standIns := [], harness := (true, "15e5f7d3e16bed80e757f67ac85bd057f4649fa64e4109c1bc98c0548e5b854d"), looks := true }, kinds := [], alts := [], laidByText := true, laidKinds := [.data, .data, .data, .sentinel, .sentinel, .data], laidTests := true, laidLooks := .later }
def SchemaBeginningsUptoCardSaid : Prop := Claim7.holds Tryz.pinned (.plain (OpenSpec.upto schemaBeginningsSpec)) schemaBeginningsUptoCard

/-- THE SECOND FORM's CARD OF 'dioramalaw09.SchemaEqual'. -/
def schemaEqualUptoCard : Claim7 := { stood := { row := schemaEqualUptoRow, standIns := [], harness := (true, "15e5f7d3e16bed80e757f67ac85bd057f4649fa64e4109c1bc98c0548e5b854d"), looks := true }, kinds := [], alts := [], laidByText := true, laidKinds := [.data, .data, .data, .data, .sentinel, .sentinel, .data], laidTests := true, laidLooks := .later }
def SchemaEqualUptoCardSaid : Prop := Claim7.holds Tryz.pinned (.plain (OpenSpec.upto schemaEqualSpec)) schemaEqualUptoCard
end Rows
end Go.Proofs.YtkgddcemocfgfaaGreatDoor
