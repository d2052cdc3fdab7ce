/-
  DERIVED. GIVEN WITH THE SEED: THE CARDS: each row of YtfiipfcdddaceaaDoorRows.lean that lists a variable, with what it lists TIED to the program's text (the seventh form; the later family's looks); each row that meets fmt, with fmt's text TOLD by the authors' own Lean function (tested against real Go, not proved from fmt's source: count such statements apart). THE CARD IS WHAT COUNTS. Prove the row's statement (the work); the ties are given (YtfiipfcdddaceaaDoorTie.lean); close each card by the builder's one call (the guide's Derived/Test/ToyasCard.lean, 'card_holds'). Laid BY PROGRAM, IN A SANDBOX (cutbox-door.mjs). By AI agents, Wed Nov 11 2026. No macro, syntax, notation, axiom, sorry.
-/
import Derived.Test.YtfiipfcdddaceaaDoorRows
import GoSem.ClaimSeven
namespace Go.Proofs.YtfiipfcdddaceaaDoor
namespace Rows

/-- THE TIED CARD OF 'lorelaw01.TextLaws'. -/
def textLawsCard : Claim7 := { stood := { row := textLawsRow, standIns := [], harness := (true, "79201b475437be5bea934a1c30bb2f76ffa2578a8274469ee979731ac4ef68b8"), looks := true }, kinds := [], alts := [], laidByText := true, laidKinds := [.data, .data, .data, .sentinel, .sentinel, .data], laidTests := true, laidLooks := .later }
def TextLawsCardSaid : Prop := Claim7.holds Tryd.pinned (.plain (OpenSpec.ofChange textLawsSpec)) textLawsCard

/-- THE SECOND FORM's CARD OF 'lorelaw01.TextLaws'. -/
def textLawsUptoCard : Claim7 := { stood := { row := textLawsUptoRow, standIns := [], harness := (true, "79201b475437be5bea934a1c30bb2f76ffa2578a8274469ee979731ac4ef68b8"), looks := true }, kinds := [], alts := [], laidByText := true, laidKinds := [.data, .data, .data, .sentinel, .sentinel, .data], laidTests := true, laidLooks := .later }
def TextLawsUptoCardSaid : Prop := Claim7.holds Tryd.pinned (.plain (OpenSpec.upto textLawsSpec)) textLawsUptoCard
end Rows
end Go.Proofs.YtfiipfcdddaceaaDoor
