/-
  DERIVED. GIVEN WITH THE SEED: THE CARDS: each row of YtmpiijnhbeipiaaDoorRows.lean that lists a variable, with what it lists TIED to the program's text (the seventh form; the later family's looks); each row that meets fmt, with fmt's text TOLD by the authors' own Lean function (tested against real Go, not proved from fmt's source: count such statements apart). THE CARD IS WHAT COUNTS. Prove the row's statement (the work); the ties are given (YtmpiijnhbeipiaaDoorTie.lean); close each card by the builder's one call (the guide's Derived/Test/ToyasCard.lean, 'card_holds'). Laid BY PROGRAM, IN A SANDBOX (cutbox-door.mjs). By AI agents, Wed Nov 11 2026. No macro, syntax, notation, axiom, sorry.
-/
import Derived.Test.YtmpiijnhbeipiaaDoorRows
import GoSem.ClaimSeven
namespace Go.Proofs.YtmpiijnhbeipiaaDoor
namespace Rows

/-- THE TIED CARD OF 'laws.FnExactDirectionOf'. -/
def fnExactDirectionOfCard : Claim7 := { stood := { row := fnExactDirectionOfRow, standIns := [], harness := (true, "cd6f8fab9d76fb6f3bbf6b4466dd6cacd4cfdf4b2b3e04d0bbc5dea47c350f91"), looks := false }, kinds := [], alts := [], laidByText := true, laidKinds := [.data], laidTests := true, laidLooks := .later }
def FnExactDirectionOfCardSaid : Prop := Claim7.holds Tryd.pinned (.plain (OpenSpec.ofChange fnExactDirectionOfSpec)) fnExactDirectionOfCard

/-- THE TIED CARD OF 'laws.FnExactDirectionsOf'. -/
def fnExactDirectionsOfCard : Claim7 := { stood := { row := fnExactDirectionsOfRow, standIns := [], harness := (true, "cd6f8fab9d76fb6f3bbf6b4466dd6cacd4cfdf4b2b3e04d0bbc5dea47c350f91"), looks := false }, kinds := [], alts := [], laidByText := true, laidKinds := [.data], laidTests := true, laidLooks := .later }
def FnExactDirectionsOfCardSaid : Prop := Claim7.holds Tryd.pinned (.plain (OpenSpec.ofChange fnExactDirectionsOfSpec)) fnExactDirectionsOfCard

/-- THE TIED CARD OF 'laws.FnExactBendOf'. -/
def fnExactBendOfCard : Claim7 := { stood := { row := fnExactBendOfRow, standIns := [], harness := (true, "cd6f8fab9d76fb6f3bbf6b4466dd6cacd4cfdf4b2b3e04d0bbc5dea47c350f91"), looks := false }, kinds := [], alts := [], laidByText := true, laidKinds := [.data], laidTests := true, laidLooks := .later }
def FnExactBendOfCardSaid : Prop := Claim7.holds Tryd.pinned (.plain (OpenSpec.ofChange fnExactBendOfSpec)) fnExactBendOfCard

/-- THE TIED CARD OF 'laws.FnDirections'. -/
def fnDirectionsCard : Claim7 := { stood := { row := fnDirectionsRow, standIns := [], harness := (true, "cd6f8fab9d76fb6f3bbf6b4466dd6cacd4cfdf4b2b3e04d0bbc5dea47c350f91"), looks := false }, kinds := [], alts := [], laidByText := true, laidKinds := [.data], laidTests := true, laidLooks := .later }
def FnDirectionsCardSaid : Prop := Claim7.holds Tryd.pinned (.plain (OpenSpec.ofChange fnDirectionsSpec)) fnDirectionsCard

/-- THE SECOND FORM's CARD OF 'laws.FnExactDirectionOf'. -/
def fnExactDirectionOfUptoCard : Claim7 := { stood := { row := fnExactDirectionOfUptoRow, standIns := [], harness := (true, "cd6f8fab9d76fb6f3bbf6b4466dd6cacd4cfdf4b2b3e04d0bbc5dea47c350f91"), looks := false }, kinds := [], alts := [], laidByText := true, laidKinds := [.data], laidTests := true, laidLooks := .later }
def FnExactDirectionOfUptoCardSaid : Prop := Claim7.holds Tryd.pinned (.plain (OpenSpec.upto fnExactDirectionOfSpec)) fnExactDirectionOfUptoCard

/-- THE SECOND FORM's CARD OF 'laws.FnExactDirectionsOf'. -/
def fnExactDirectionsOfUptoCard : Claim7 := { stood := { row := fnExactDirectionsOfUptoRow, standIns := [], harness := (true, "cd6f8fab9d76fb6f3bbf6b4466dd6cacd4cfdf4b2b3e04d0bbc5dea47c350f91"), looks := false }, kinds := [], alts := [], laidByText := true, laidKinds := [.data], laidTests := true, laidLooks := .later }
def FnExactDirectionsOfUptoCardSaid : Prop := Claim7.holds Tryd.pinned (.plain (OpenSpec.upto fnExactDirectionsOfSpec)) fnExactDirectionsOfUptoCard

/-- THE SECOND FORM's CARD OF 'laws.FnExactBendOf'. -/
def fnExactBendOfUptoCard : Claim7 := { stood := { row := fnExactBendOfUptoRow, standIns := [], harness := (true, "cd6f8fab9d76fb6f3bbf6b4466dd6cacd4cfdf4b2b3e04d0bbc5dea47c350f91"), looks := false }, kinds := [], alts := [], laidByText := true, laidKinds := [.data], laidTests := true, laidLooks := .later }
def FnExactBendOfUptoCardSaid : Prop := Claim7.holds Tryd.pinned (.plain (OpenSpec.upto fnExactBendOfSpec)) fnExactBendOfUptoCard

/-- THE SECOND FORM's CARD OF 'laws.FnDirections'. -/
def fnDirectionsUptoCard : Claim7 := { stood := { row := fnDirectionsUptoRow, standIns := [], harness := (true, "cd6f8fab9d76fb6f3bbf6b4466dd6cacd4cfdf4b2b3e04d0bbc5dea47c350f91"), looks := false }, kinds := [], alts := [], laidByText := true, laidKinds := [.data], laidTests := true, laidLooks := .later }
def FnDirectionsUptoCardSaid : Prop := Claim7.holds Tryd.pinned (.plain (OpenSpec.upto fnDirectionsSpec)) fnDirectionsUptoCard
end Rows
end Go.Proofs.YtmpiijnhbeipiaaDoor
