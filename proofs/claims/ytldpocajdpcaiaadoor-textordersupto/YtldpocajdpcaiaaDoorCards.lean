/-
  DERIVED. GIVEN WITH THE SEED: THE CARDS: each row of YtldpocajdpcaiaaDoorRows.lean that lists a variable, with what it lists TIED to the program's text (the seventh form; the later family's looks); each row that meets fmt, with fmt's text TOLD by the authors' own Lean function (tested against real Go, not proved from fmt's source: count such statements apart). THE CARD IS WHAT COUNTS. Prove the row's statement (the work); the ties are given (YtldpocajdpcaiaaDoorTie.lean); close each card by the builder's one call (the guide's Derived/Test/ToyasCard.lean, 'card_holds'). Laid BY PROGRAM, IN A SANDBOX (cutbox-door.mjs). By AI agents, Wed Nov 11 2026. No macro, syntax, notation, axiom, sorry.
-/
import Derived.Test.YtldpocajdpcaiaaDoorRows
import GoSem.ClaimSeven
namespace Go.Proofs.YtldpocajdpcaiaaDoor
namespace Rows

/-- THE TIED CARD OF 'lorelaw01.TextOrders'. -/
def textOrdersCard : Claim7 := { stood := { row := textOrdersRow, standIns := [], harness := (true, "c1f472e3223ec0df405b80ce110369820452069ea91040c6ab2b61be7afc2e51"), looks := true }, kinds := [], alts := [], laidByText := true, laidKinds := [.data, .data, .data, .sentinel, .sentinel, .data], laidTests := true, laidLooks := .later }
def TextOrdersCardSaid : Prop := Claim7.holds Tryd.pinned (.plain (OpenSpec.ofChange textOrdersSpec)) textOrdersCard

/-- THE TIED CARD OF 'lorelaw01.TextLaws'. -/
def textLawsCard : Claim7 := { stood := { row := textLawsRow, standIns := [], harness := (true, "c1f472e3223ec0df405b80ce110369820452069ea91040c6ab2b61be7afc2e51"), looks := true }, kinds := [], alts := [], laidByText := true, laidKinds := [.data, .data, .data, .sentinel, .sentinel, .data], laidTests := true, laidLooks := .later }
def TextLawsCardSaid : Prop := Claim7.holds Tryd.pinned (.plain (OpenSpec.ofChange textLawsSpec)) textLawsCard

/-- THE SECOND FORM's CARD OF 'lorelaw01.TextOrders'. -/
def textOrdersUptoCard : Claim7 := { stood := { row := textOrdersUptoRow, standIns := [], harness := (true, "c1f472e3223ec0df405b80ce110369820452069ea91040c6ab2b61be7afc2e51"), looks := true }, kinds := [], alts := [], laidByText := true, laidKinds := [.data, .data, .data, .sentinel, .sentinel, .data], laidTests := true, laidLooks := .later }
def TextOrdersUptoCardSaid : Prop := Claim7.holds Tryd.pinned (.plain (OpenSpec.upto textOrdersSpec)) textOrdersUptoCard

/-- THE SECOND FORM's CARD OF 'lorelaw01.TextLaws'. -/
def textLawsUptoCard : Claim7 := { stood := { row := textLawsUptoRow, standIns := [], harness := (true, "c1f472e3223ec0df405b80ce110369820452069ea91040c6ab2b61be7afc2e51"), looks := true }, kinds := [], alts := [], laidByText := true, laidKinds := [.data, .data, .data, .sentinel, .sentinel, .data], laidTests := true, laidLooks := .later }
def TextLawsUptoCardSaid : Prop := Claim7.holds Tryd.pinned (.plain (OpenSpec.upto textLawsSpec)) textLawsUptoCard
end Rows
end Go.Proofs.YtldpocajdpcaiaaDoor
