/-
  DERIVED. GIVEN WITH THE SEED: THE CARDS: each row of YtfiipfcdddaceaaGreatDoorRows.lean that lists a variable, with what it lists TIED to the program's text (the seventh form; the later family's looks); each row that meets fmt, with fmt's text TOLD by the authors' own Lean function (tested against real Go, not proved from fmt's source: count such statements apart). THE CARD IS WHAT COUNTS. Prove the row's statement (the work); the ties are given (YtfiipfcdddaceaaGreatDoorTie.lean); close each card by the builder's one call (the guide's Derived/Test/ToyasCard.lean, 'card_holds'). Laid BY PROGRAM, IN A SANDBOX (cutbox-door.mjs). By AI agents, Wed Nov 11 2026. No macro, syntax, notation, axiom, sorry.
-/
import Derived.Test.YtfiipfcdddaceaaGreatDoorRows
import GoSem.ClaimSeven
namespace Go.Proofs.YtfiipfcdddaceaaGreatDoor
namespace Rows

/-- THE TIED CARD OF 'lorelaw01.TextParses'. -/
def textParsesCard : Claim7 := { stood := { row := textParsesRow, standIns := [], harness := (true, "a59f363dc85efe5fdd4bddb3d53d081c0f26d7d874d44597eddd4e382db0eeb3"), looks := true }, kinds := [], alts := [], laidByText := true, laidKinds := [.data, .data, .data, .sentinel, .sentinel, .data], laidTests := true, laidLooks := .later }
def TextParsesCardSaid : Prop := Claim7.holds Tryz.pinned (.plain (OpenSpec.ofChange textParsesSpec)) textParsesCard

/-- THE TIED CARD OF 'lorelaw01.TextPrints'. -/
def textPrintsCard : Claim7 := { stood := { row := textPrintsRow, standIns := [], harness := (true, "a59f363dc85efe5fdd4bddb3d53d081c0f26d7d874d44597eddd4e382db0eeb3"), looks := true }, kinds := [], alts := [], laidByText := true, laidKinds := [.data, .data, .data, .sentinel, .sentinel, .data], laidTests := true, laidLooks := .later }
def TextPrintsCardSaid : Prop := Claim7.holds Tryz.pinned (.plain (OpenSpec.ofChange textPrintsSpec)) textPrintsCard

/-- THE TIED CARD OF 'lorelaw01.TextOrders'. -/
def textOrdersCard : Claim7 := { stood := { row := textOrdersRow, standIns := [], harness := (true, "a59f363dc85efe5fdd4bddb3d53d081c0f26d7d874d44597eddd4e382db0eeb3"), looks := true }, kinds := [], alts := [], laidByText := true, laidKinds := [.data, .data, .data, .sentinel, .sentinel, .data], laidTests := true, laidLooks := .later }
def TextOrdersCardSaid : Prop := Claim7.holds Tryz.pinned (.plain (OpenSpec.ofChange textOrdersSpec)) textOrdersCard

/-- THE TIED CARD OF 'lorelaw01.TextBack'. -/
def textBackCard : Claim7 := { stood := { row := textBackRow, standIns := [], harness := (true, "a59f363dc85efe5fdd4bddb3d53d081c0f26d7d874d44597eddd4e382db0eeb3"), looks := true }, kinds := [], alts := [], laidByText := true, laidKinds := [.data, .data, .data, .sentinel, .sentinel, .data], laidTests := true, laidLooks := .later }
def TextBackCardSaid : Prop := Claim7.holds Tryz.pinned (.plain (OpenSpec.ofChange textBackSpec)) textBackCard

/-- THE TIED CARD OF 'lorelaw01.TextJoined'. -/
def textJoinedCard : Claim7 := { stood := { row := textJoinedRow, standIns := [], harness := (true, "a59f363dc85efe5fdd4bddb3d53d081c0f26d7d874d44597eddd4e382db0eeb3"), looks := true }, kinds := [], alts := [], laidByText := true, laidKinds := [.data, .data, .data, .sentinel, .sentinel, .data], laidTests := true, laidLooks := .later }
def TextJoinedCardSaid : Prop := Claim7.holds Tryz.pinned (.plain (OpenSpec.ofChange textJoinedSpec)) textJoinedCard

/-- THE TIED CARD OF 'lorelaw01.TextOwn'. -/
def textOwnCard : Claim7 := { stood := { row := textOwnRow, standIns := [], harness := (true, "a59f363dc85efe5fdd4bddb3d53d081c0f26d7d874d44597eddd4e382db0eeb3"), looks := true }, kinds := [], alts := [], laidByText := true, laidKinds := [.data, .data, .data, .sentinel, .sentinel, .data], laidTests := true, laidLooks := .later }
def TextOwnCardSaid : Prop := Claim7.holds Tryz.pinned (.plain (OpenSpec.ofChange textOwnSpec)) textOwnCard

/-- THE TIED CARD OF 'lorelaw02.RowsParses'. -/
def rowsParsesCard : Claim7 := { stood := { row := rowsParsesRow, standIns := [], harness := (true, "a59f363dc85efe5fdd4bddb3d53d081c0f26d7d874d44597eddd4e382db0eeb3"), looks := true }, kinds := [], alts := [], laidByText := true, laidKinds := [.data, .data, .data, .handle, .sentinel, .sentinel], laidTests := true, laidLooks := .later }
def RowsParsesCardSaid : Prop := Claim7.holds Tryz.pinned (.plain (OpenSpec.ofChange rowsParsesSpec)) rowsParsesCard

/-- THE TIED CARD OF 'lorelaw02.RowsPrints'. -/
def rowsPrintsCard : Claim7 := { stood := { row := rowsPrintsRow, standIns := [], harness := (true, "a59f363dc85efe5fdd4bddb3d53d081c0f26d7d874d44597eddd4e382db0eeb3"), looks := true }, kinds := [], alts := [], laidByText := true, laidKinds := [.data, .data, .data, .handle, .sentinel, .sentinel], laidTests := true, laidLooks := .later }
def RowsPrintsCardSaid : Prop := Claim7.holds Tryz.pinned (.plain (OpenSpec.ofChange rowsPrintsSpec)) rowsPrintsCard

/-- THE TIED CARD OF 'lorelaw02.RowsSets'. -/
def rowsSetsCard : Claim7 := { stood := { row := rowsSetsRow, standIns := [], harness := (true, "a59f363dc85efe5fdd4bddb3d53d081c0f26d7d874d44597eddd4e382db0eeb3"), looks := true }, kinds := [], alts := [], laidByText := true, laidKinds := [.data, .data, .data, .handle, .sentinel, .sentinel], laidTests := true, laidLooks := .later }
def RowsSetsCardSaid : Prop := Claim7.holds Tryz.pinned (.plain (OpenSpec.ofChange rowsSetsSpec)) rowsSetsCard

/-- THE TIED CARD OF 'lorelaw02.RowsBack'. -/
def rowsBackCard : Claim7 := { stood := { row := rowsBackRow, standIns := [], harness := (true, "a59f363dc85efe5fdd4bddb3d53d081c0f26d7d874d44597eddd4e382db0eeb3"), looks := true }, kinds := [], alts := [], laidByText := true, laidKinds := [.data, .data, .data, .handle, .sentinel, .sentinel], laidTests := true, laidLooks := .later }
def RowsBackCardSaid : Prop := Claim7.holds Tryz.pinned (.plain (OpenSpec.ofChange rowsBackSpec)) rowsBackCard

/-- THE TIED CARD OF 'lorelaw02.RowsLaws'. -/
def rowsLawsCard : Claim7 := { stood := { row := rowsLawsRow, standIns := [], harness := (true, "a59f363dc85efe5fdd4bddb3d53d081c0f26d7d874d44597eddd4e382db0eeb3"), looks := true }, kinds := [], alts := [], laidByText := true, laidKinds := [.data, .data, .data, .handle, .sentinel, .sentinel], laidTests := true, laidLooks := .later }
def RowsLawsCardSaid : Prop := Claim7.holds Tryz.pinned (.plain (OpenSpec.ofChange rowsLawsSpec)) rowsLawsCard

/-- THE SECOND FORM's CARD OF 'lorelaw01.TextParses'. -/
def textParsesUptoCard : Claim7 := { stood := { row := textParsesUptoRow, standIns := [], harness := (true, "a59f363dc85efe5fdd4bddb3d53d081c0f26d7d874d44597eddd4e382db0eeb3"), looks := true }, kinds := [], alts := [], laidByText := true, laidKinds := [.data, .data, .data, .sentinel, .sentinel, .data], laidTests := true, laidLooks := .later }
def TextParsesUptoCardSaid : Prop := Claim7.holds Tryz.pinned (.plain (OpenSpec.upto textParsesSpec)) textParsesUptoCard

/-- THE SECOND FORM's CARD OF 'lorelaw01.TextPrints'. -/
def textPrintsUptoCard : Claim7 := { stood := { row := textPrintsUptoRow, standIns := [], harness := (true, "a59f363dc85efe5fdd4bddb3d53d081c0f26d7d874d44597eddd4e382db0eeb3"), looks := true }, kinds := [], alts := [], laidByText := true, laidKinds := [.data, .data, .data, .sentinel, .sentinel, .data], laidTests := true, laidLooks := .later }
def TextPrintsUptoCardSaid : Prop := Claim7.holds Tryz.pinned (.plain (OpenSpec.upto textPrintsSpec)) textPrintsUptoCard

/-- THE SECOND FORM's CARD OF 'lorelaw01.TextOrders'. -/
def textOrdersUptoCard : Claim7 := { stood := { row := textOrdersUptoRow, standIns := [], harness := (true, "a59f363dc85efe5fdd4bddb3d53d081c0f26d7d874d44597eddd4e382db0eeb3"), looks := true }, kinds := [], alts := [], laidByText := true, laidKinds := [.data, .data, .data, .sentinel, .sentinel, .data], laidTests := true, laidLooks := .later }
def TextOrdersUptoCardSaid : Prop := Claim7.holds Tryz.pinned (.plain (OpenSpec.upto textOrdersSpec)) textOrdersUptoCard

/-- THE SECOND FORM's CARD OF 'lorelaw01.TextBack'. -/
def textBackUptoCard : Claim7 := { stood := { row := textBackUptoRow, standIns := [], harness := (true, "a59f363dc85efe5fdd4bddb3d53d081c0f26d7d874d44597eddd4e382db0eeb3"), looks := true }, kinds := [], alts := [], laidByText := true, laidKinds := [.data, .data, .data, .sentinel, .sentinel, .data], laidTests := true, laidLooks := .later }
def TextBackUptoCardSaid : Prop := Claim7.holds Tryz.pinned (.plain (OpenSpec.upto textBackSpec)) textBackUptoCard

/-- THE SECOND FORM's CARD OF 'lorelaw01.TextJoined'. -/
def textJoinedUptoCard : Claim7 := { stood := { row := textJoinedUptoRow, standIns := [], harness := (true, "a59f363dc85efe5fdd4bddb3d53d081c0f26d7d874d44597eddd4e382db0eeb3"), looks := true }, kinds := [], alts := [], laidByText := true, laidKinds := [.data, .data, .data, .sentinel, .sentinel, .data], laidTests := true, laidLooks := .later }
def TextJoinedUptoCardSaid : Prop := Claim7.holds Tryz.pinned (.plain (OpenSpec.upto textJoinedSpec)) textJoinedUptoCard

/-- THE SECOND FORM's CARD OF 'lorelaw01.TextOwn'. -/
def textOwnUptoCard : Claim7 := { stood := { row := textOwnUptoRow, standIns := [], harness := (true, "a59f363dc85efe5fdd4bddb3d53d081c0f26d7d874d44597eddd4e382db0eeb3"), looks := true }, kinds := [], alts := [], laidByText := true, laidKinds := [.data, .data, .data, .sentinel, .sentinel, .data], laidTests := true, laidLooks := .later }
def TextOwnUptoCardSaid : Prop := Claim7.holds Tryz.pinned (.plain (OpenSpec.upto textOwnSpec)) textOwnUptoCard

/-- THE SECOND FORM's CARD OF 'lorelaw02.RowsParses'. -/
def rowsParsesUptoCard : Claim7 := { stood := { row := rowsParsesUptoRow, standIns := [], harness := (true, "a59f363dc85efe5fdd4bddb3d53d081c0f26d7d874d44597eddd4e382db0eeb3"), looks := true }, kinds := [], alts := [], laidByText := true, laidKinds := [.data, .data, .data, .handle, .sentinel, .sentinel], laidTests := true, laidLooks := .later }
def RowsParsesUptoCardSaid : Prop := Claim7.holds Tryz.pinned (.plain (OpenSpec.upto rowsParsesSpec)) rowsParsesUptoCard

/-- THE SECOND FORM's CARD OF 'lorelaw02.RowsPrints'. -/
def rowsPrintsUptoCard : Claim7 := { stood := { row := rowsPrintsUptoRow, standIns := [], harness := (true, "a59f363dc85efe5fdd4bddb3d53d081c0f26d7d874d44597eddd4e382db0eeb3"), looks := true }, kinds := [], alts := [], laidByText := true, laidKinds := [.data, .data, .data, .handle, .sentinel, .sentinel], laidTests := true, laidLooks := .later }
def RowsPrintsUptoCardSaid : Prop := Claim7.holds Tryz.pinned (.plain (OpenSpec.upto rowsPrintsSpec)) rowsPrintsUptoCard

/-- THE SECOND FORM's CARD OF 'lorelaw02.RowsSets'. -/
def rowsSetsUptoCard : Claim7 := { stood := { row := rowsSetsUptoRow, standIns := [], harness := (true, "a59f363dc85efe5fdd4bddb3d53d081c0f26d7d874d44597eddd4e382db0eeb3"), looks := true }, kinds := [], alts := [], laidByText := true, laidKinds := [.data, .data, .data, .handle, .sentinel, .sentinel], laidTests := true, laidLooks := .later }
def RowsSetsUptoCardSaid : Prop := Claim7.holds Tryz.pinned (.plain (OpenSpec.upto rowsSetsSpec)) rowsSetsUptoCard

/-- THE SECOND FORM's CARD OF 'lorelaw02.RowsBack'. -/
def rowsBackUptoCard : Claim7 := { stood := { row := rowsBackUptoRow, standIns := [], harness := (true, "a59f363dc85efe5fdd4bddb3d53d081c0f26d7d874d44597eddd4e382db0eeb3"), looks := true }, kinds := [], alts := [], laidByText := true, laidKinds := [.data, .data, .data, .handle, .sentinel, .sentinel], laidTests := true, laidLooks := .later }
def RowsBackUptoCardSaid : Prop := Claim7.holds Tryz.pinned (.plain (OpenSpec.upto rowsBackSpec)) rowsBackUptoCard

/-- THE SECOND FORM's CARD OF 'lorelaw02.RowsLaws'. -/
def rowsLawsUptoCard : Claim7 := { stood := { row := rowsLawsUptoRow, standIns := [], harness := (true, "a59f363dc85efe5fdd4bddb3d53d081c0f26d7d874d44597eddd4e382db0eeb3"), looks := true }, kinds := [], alts := [], laidByText := true, laidKinds := [.data, .data, .data, .handle, .sentinel, .sentinel], laidTests := true, laidLooks := .later }
def RowsLawsUptoCardSaid : Prop := Claim7.holds Tryz.pinned (.plain (OpenSpec.upto rowsLawsSpec)) rowsLawsUptoCard
end Rows
end Go.Proofs.YtfiipfcdddaceaaGreatDoor
