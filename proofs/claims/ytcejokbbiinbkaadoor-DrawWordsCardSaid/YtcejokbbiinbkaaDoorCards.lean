/-
  DERIVED. GIVEN WITH THE SEED: THE CARDS: each row of YtcejokbbiinbkaaDoorRows.lean that lists a variable, with what it lists TIED to the program's text (the seventh form; the later family's looks); each row that meets fmt, with fmt's text TOLD by the authors' own Lean function (tested against real Go, not proved from fmt's source: count such statements apart). THE CARD IS WHAT COUNTS. Prove the row's statement (the work); the ties are given (YtcejokbbiinbkaaDoorTie.lean); close each card by the builder's one call (the guide's Derived/Test/ToyasCard.lean, 'card_holds'). Laid BY PROGRAM, IN A SANDBOX (cutbox-door.mjs). By AI agents, Wed Nov 11 2026. No macro, syntax, notation, axiom, sorry.
-/
import Derived.Test.YtcejokbbiinbkaaDoorRows
import GoSem.ClaimSeven
namespace Go.Proofs.YtcejokbbiinbkaaDoor
namespace Rows

/-- THE TIED CARD OF 'dioramalaw05.DrawWords'. -/
def drawWordsCard : Claim7 := { stood := { row := drawWordsRow, standIns := [], harness := (true, "82c7371de9aaef3ed47c281593cddc6bf121ef32396e48f35174f55e59a25729"), looks := false }, kinds := [], alts := [], laidByText := true, laidKinds := [.data, .data], laidTests := true, laidLooks := .later }
def DrawWordsCardSaid : Prop := Claim7.holds Tryd.pinned (.plain (OpenSpec.ofChange drawWordsSpec)) drawWordsCard

/-- THE TIED CARD OF 'dioramalaw05.DrawNums'. -/
def drawNumsCard : Claim7 := { stood := { row := drawNumsRow, standIns := [], harness := (true, "82c7371de9aaef3ed47c281593cddc6bf121ef32396e48f35174f55e59a25729"), looks := false }, kinds := [], alts := [], laidByText := true, laidKinds := [.data, .data], laidTests := true, laidLooks := .later }
def DrawNumsCardSaid : Prop := Claim7.holds Tryd.pinned (.plain (OpenSpec.ofChange drawNumsSpec)) drawNumsCard

/-- THE TIED CARD OF 'dioramalaw05.DrawBetween'. -/
def drawBetweenCard : Claim7 := { stood := { row := drawBetweenRow, standIns := [], harness := (true, "82c7371de9aaef3ed47c281593cddc6bf121ef32396e48f35174f55e59a25729"), looks := false }, kinds := [], alts := [], laidByText := true, laidKinds := [.data, .data], laidTests := true, laidLooks := .later }
def DrawBetweenCardSaid : Prop := Claim7.holds Tryd.pinned (.plain (OpenSpec.ofChange drawBetweenSpec)) drawBetweenCard

/-- THE TIED CARD OF 'dioramalaw05.DrawPicks'. -/
def drawPicksCard : Claim7 := { stood := { row := drawPicksRow, standIns := [], harness := (true, "82c7371de9aaef3ed47c281593cddc6bf121ef32396e48f35174f55e59a25729"), looks := false }, kinds := [], alts := [], laidByText := true, laidKinds := [.data, .data], laidTests := true, laidLooks := .later }
def DrawPicksCardSaid : Prop := Claim7.holds Tryd.pinned (.plain (OpenSpec.ofChange drawPicksSpec)) drawPicksCard

/-- THE TIED CARD OF 'dioramalaw05.DrawCoins'. -/
def drawCoinsCard : Claim7 := { stood := { row := drawCoinsRow, standIns := [], harness := (true, "82c7371de9aaef3ed47c281593cddc6bf121ef32396e48f35174f55e59a25729"), looks := false }, kinds := [], alts := [], laidByText := true, laidKinds := [.data, .data], laidTests := true, laidLooks := .later }
def DrawCoinsCardSaid : Prop := Claim7.holds Tryd.pinned (.plain (OpenSpec.ofChange drawCoinsSpec)) drawCoinsCard

/-- THE TIED CARD OF 'dioramalaw05.DrawFair'. -/
def drawFairCard : Claim7 := { stood := { row := drawFairRow, standIns := [], harness := (true, "82c7371de9aaef3ed47c281593cddc6bf121ef32396e48f35174f55e59a25729"), looks := false }, kinds := [], alts := [], laidByText := true, laidKinds := [.data], laidTests := true, laidLooks := .later }
def DrawFairCardSaid : Prop := Claim7.holds Tryd.pinned (.plain (OpenSpec.ofChange drawFairSpec)) drawFairCard

/-- THE SECOND FORM's CARD OF 'dioramalaw05.DrawWords'. -/
def drawWordsUptoCard : Claim7 := { stood := { row := drawWordsUptoRow, standIns := [], harness := (true, "82c7371de9aaef3ed47c281593cddc6bf121ef32396e48f35174f55e59a25729"), looks := false }, kinds := [], alts := [], laidByText := true, laidKinds := [.data, .data], laidTests := true, laidLooks := .later }
def DrawWordsUptoCardSaid : Prop := Claim7.holds Tryd.pinned (.plain (OpenSpec.upto drawWordsSpec)) drawWordsUptoCard

/-- THE SECOND FORM's CARD OF 'dioramalaw05.DrawNums'. -/
def drawNumsUptoCard : Claim7 := { stood := { row := drawNumsUptoRow, standIns := [], harness := (true, "82c7371de9aaef3ed47c281593cddc6bf121ef32396e48f35174f55e59a25729"), looks := false }, kinds := [], alts := [], laidByText := true, laidKinds := [.data, .data], laidTests := true, laidLooks := .later }
def DrawNumsUptoCardSaid : Prop := Claim7.holds Tryd.pinned (.plain (OpenSpec.upto drawNumsSpec)) drawNumsUptoCard

/-- THE SECOND FORM's CARD OF 'dioramalaw05.DrawBetween'. -/
def drawBetweenUptoCard : Claim7 := { stood := { row := drawBetweenUptoRow, standIns := [], harness := (true, "82c7371de9aaef3ed47c281593cddc6bf121ef32396e48f35174f55e59a25729"), looks := false }, kinds := [], alts := [], laidByText := true, laidKinds := [.data, .data], laidTests := true, laidLooks := .later }
def DrawBetweenUptoCardSaid : Prop := Claim7.holds Tryd.pinned (.plain (OpenSpec.upto drawBetweenSpec)) drawBetweenUptoCard

/-- THE SECOND FORM's CARD OF 'dioramalaw05.DrawPicks'. -/
def drawPicksUptoCard : Claim7 := { stood := { row := drawPicksUptoRow, standIns := [], harness := (true, "82c7371de9aaef3ed47c281593cddc6bf121ef32396e48f35174f55e59a25729"), looks := false }, kinds := [], alts := [], laidByText := true, laidKinds := [.data, .data], laidTests := true, laidLooks := .later }
def DrawPicksUptoCardSaid : Prop := Claim7.holds Tryd.pinned (.plain (OpenSpec.upto drawPicksSpec)) drawPicksUptoCard

/-- THE SECOND FORM's CARD OF 'dioramalaw05.DrawCoins'. -/
def drawCoinsUptoCard : Claim7 := { stood := { row := drawCoinsUptoRow, standIns := [], harness := (true, "82c7371de9aaef3ed47c281593cddc6bf121ef32396e48f35174f55e59a25729"), looks := false }, kinds := [], alts := [], laidByText := true, laidKinds := [.data, .data], laidTests := true, laidLooks := .later }
def DrawCoinsUptoCardSaid : Prop := Claim7.holds Tryd.pinned (.plain (OpenSpec.upto drawCoinsSpec)) drawCoinsUptoCard

/-- THE SECOND FORM's CARD OF 'dioramalaw05.DrawFair'. -/
def drawFairUptoCard : Claim7 := { stood := { row := drawFairUptoRow, standIns := [], harness := (true, "82c7371de9aaef3ed47c281593cddc6bf121ef32396e48f35174f55e59a25729"), looks := false }, kinds := [], alts := [], laidByText := true, laidKinds := [.data], laidTests := true, laidLooks := .later }
def DrawFairUptoCardSaid : Prop := Claim7.holds Tryd.pinned (.plain (OpenSpec.upto drawFairSpec)) drawFairUptoCard
end Rows
end Go.Proofs.YtcejokbbiinbkaaDoor
