/-
  DERIVED. GIVEN WITH THE SEED: THE CARDS: each row of YtcmepgjbplpnbaaDoorRows.lean that lists a variable, with what it lists TIED to the program's text (the seventh form; the later family's looks); each row that meets fmt, with fmt's text TOLD by the authors' own Lean function (tested against real Go, not proved from fmt's source: count such statements apart). THE CARD IS WHAT COUNTS. Prove the row's statement (the work); the ties are given (YtcmepgjbplpnbaaDoorTie.lean); close each card by the builder's one call (the guide's Derived/Test/ToyasCard.lean, 'card_holds'). Laid BY PROGRAM, IN A SANDBOX (cutbox-door.mjs). By AI agents, Wed Nov 11 2026. No macro, syntax, notation, axiom, sorry.
-/
import Derived.Test.YtcmepgjbplpnbaaDoorRows
import GoSem.ClaimSeven
namespace Go.Proofs.YtcmepgjbplpnbaaDoor
namespace Rows

/-- THE TIED CARD OF 'dioramalaw06.PermPlaces'. -/
def permPlacesCard : Claim7 := { stood := { row := permPlacesRow, standIns := [], harness := (true, "8af8b599499e4ad4364f731e4b9694ca0f17a926d3c682a1ba7a7b674bf36c84"), looks := false }, kinds := [], alts := [], laidByText := true, laidKinds := [.data, .data], laidTests := true, laidLooks := .later }
def PermPlacesCardSaid : Prop := Claim7.holds Tryd.pinned (.plain (OpenSpec.ofChange permPlacesSpec)) permPlacesCard

/-- THE TIED CARD OF 'dioramalaw06.PermAll'. -/
def permAllCard : Claim7 := { stood := { row := permAllRow, standIns := [], harness := (true, "8af8b599499e4ad4364f731e4b9694ca0f17a926d3c682a1ba7a7b674bf36c84"), looks := false }, kinds := [], alts := [], laidByText := true, laidKinds := [.data, .data], laidTests := true, laidLooks := .later }
def PermAllCardSaid : Prop := Claim7.holds Tryd.pinned (.plain (OpenSpec.ofChange permAllSpec)) permAllCard

/-- THE TIED CARD OF 'dioramalaw06.PermOnce'. -/
def permOnceCard : Claim7 := { stood := { row := permOnceRow, standIns := [], harness := (true, "8af8b599499e4ad4364f731e4b9694ca0f17a926d3c682a1ba7a7b674bf36c84"), looks := false }, kinds := [], alts := [], laidByText := true, laidKinds := [.data], laidTests := true, laidLooks := .later }
def PermOnceCardSaid : Prop := Claim7.holds Tryd.pinned (.plain (OpenSpec.ofChange permOnceSpec)) permOnceCard

/-- THE TIED CARD OF 'dioramalaw06.PermAlone'. -/
def permAloneCard : Claim7 := { stood := { row := permAloneRow, standIns := [], harness := (true, "8af8b599499e4ad4364f731e4b9694ca0f17a926d3c682a1ba7a7b674bf36c84"), looks := false }, kinds := [], alts := [], laidByText := true, laidKinds := [.data], laidTests := true, laidLooks := .later }
def PermAloneCardSaid : Prop := Claim7.holds Tryd.pinned (.plain (OpenSpec.ofChange permAloneSpec)) permAloneCard

/-- THE TIED CARD OF 'dioramalaw06.PermDraws'. -/
def permDrawsCard : Claim7 := { stood := { row := permDrawsRow, standIns := [], harness := (true, "8af8b599499e4ad4364f731e4b9694ca0f17a926d3c682a1ba7a7b674bf36c84"), looks := false }, kinds := [], alts := [], laidByText := true, laidKinds := [.data], laidTests := true, laidLooks := .later }
def PermDrawsCardSaid : Prop := Claim7.holds Tryd.pinned (.plain (OpenSpec.ofChange permDrawsSpec)) permDrawsCard

/-- THE TIED CARD OF 'dioramalaw06.PermSizes'. -/
def permSizesCard : Claim7 := { stood := { row := permSizesRow, standIns := [], harness := (true, "8af8b599499e4ad4364f731e4b9694ca0f17a926d3c682a1ba7a7b674bf36c84"), looks := false }, kinds := [], alts := [], laidByText := true, laidKinds := [.data], laidTests := true, laidLooks := .later }
def PermSizesCardSaid : Prop := Claim7.holds Tryd.pinned (.plain (OpenSpec.ofChange permSizesSpec)) permSizesCard

/-- THE SECOND FORM's CARD OF 'dioramalaw06.PermPlaces'. -/
def permPlacesUptoCard : Claim7 := { stood := { row := permPlacesUptoRow, standIns := [], harness := (true, "8af8b599499e4ad4364f731e4b9694ca0f17a926d3c682a1ba7a7b674bf36c84"), looks := false }, kinds := [], alts := [], laidByText := true, laidKinds := [.data, .data], laidTests := true, laidLooks := .later }
def PermPlacesUptoCardSaid : Prop := Claim7.holds Tryd.pinned (.plain (OpenSpec.upto permPlacesSpec)) permPlacesUptoCard

/-- THE SECOND FORM's CARD OF 'dioramalaw06.PermAll'. -/
def permAllUptoCard : Claim7 := { stood := { row := permAllUptoRow, standIns := [], harness := (true, "8af8b599499e4ad4364f731e4b9694ca0f17a926d3c682a1ba7a7b674bf36c84"), looks := false }, kinds := [], alts := [], laidByText := true, laidKinds := [.data, .data], laidTests := true, laidLooks := .later }
def PermAllUptoCardSaid : Prop := Claim7.holds Tryd.pinned (.plain (OpenSpec.upto permAllSpec)) permAllUptoCard

/-- THE SECOND FORM's CARD OF 'dioramalaw06.PermOnce'. -/
def permOnceUptoCard : Claim7 := { stood := { row := permOnceUptoRow, standIns := [], harness := (true, "8af8b599499e4ad4364f731e4b9694ca0f17a926d3c682a1ba7a7b674bf36c84"), looks := false }, kinds := [], alts := [], laidByText := true, laidKinds := [.data], laidTests := true, laidLooks := .later }
def PermOnceUptoCardSaid : Prop := Claim7.holds Tryd.pinned (.plain (OpenSpec.upto permOnceSpec)) permOnceUptoCard

/-- THE SECOND FORM's CARD OF 'dioramalaw06.PermAlone'. -/
def permAloneUptoCard : Claim7 := { stood := { row := permAloneUptoRow, standIns := [], harness := (true, "8af8b599499e4ad4364f731e4b9694ca0f17a926d3c682a1ba7a7b674bf36c84"), looks := false }, kinds := [], alts := [], laidByText := true, laidKinds := [.data], laidTests := true, laidLooks := .later }
def PermAloneUptoCardSaid : Prop := Claim7.holds Tryd.pinned (.plain (OpenSpec.upto permAloneSpec)) permAloneUptoCard

/-- THE SECOND FORM's CARD OF 'dioramalaw06.PermDraws'. -/
def permDrawsUptoCard : Claim7 := { stood := { row := permDrawsUptoRow, standIns := [], harness := (true, "8af8b599499e4ad4364f731e4b9694ca0f17a926d3c682a1ba7a7b674bf36c84"), looks := false }, kinds := [], alts := [], laidByText := true, laidKinds := [.data], laidTests := true, laidLooks := .later }
def PermDrawsUptoCardSaid : Prop := Claim7.holds Tryd.pinned (.plain (OpenSpec.upto permDrawsSpec)) permDrawsUptoCard

/-- THE SECOND FORM's CARD OF 'dioramalaw06.PermSizes'. -/
def permSizesUptoCard : Claim7 := { stood := { row := permSizesUptoRow, standIns := [], harness := (true, "8af8b599499e4ad4364f731e4b9694ca0f17a926d3c682a1ba7a7b674bf36c84"), looks := false }, kinds := [], alts := [], laidByText := true, laidKinds := [.data], laidTests := true, laidLooks := .later }
def PermSizesUptoCardSaid : Prop := Claim7.holds Tryd.pinned (.plain (OpenSpec.upto permSizesSpec)) permSizesUptoCard
end Rows
end Go.Proofs.YtcmepgjbplpnbaaDoor
