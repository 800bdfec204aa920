/-
  DERIVED. GIVEN WITH THE SEED: THE CARDS: each row of YtmlibfmbbkmeeaaDoorRows.lean that lists a variable, with what it lists TIED to the program's text (the seventh form; the later family's looks); each row that meets fmt, with fmt's text TOLD by the authors' own Lean function (tested against real Go, not proved from fmt's source: count such statements apart). THE CARD IS WHAT COUNTS. Prove the row's statement (the work); the ties are given (YtmlibfmbbkmeeaaDoorTie.lean); close each card by the builder's one call (the guide's Derived/Test/ToyasCard.lean, 'card_holds'). Laid BY PROGRAM, IN A SANDBOX (cutbox-door.mjs). By AI agents, Wed Nov 11 2026. No macro, syntax, notation, axiom, sorry.
-/
import Derived.Test.YtmlibfmbbkmeeaaDoorRows
import GoSem.ClaimSeven
namespace Go.Proofs.YtmlibfmbbkmeeaaDoor
namespace Rows

/-- THE TIED CARD OF 'laws.FnExactDirectionsOf'. -/
def fnExactDirectionsOfCard : Claim7 := { stood := { row := fnExactDirectionsOfRow, standIns := [], harness := (true, "5e669f92dd1cae03014a5eab26e6fa73ca3514f832d188664f24bd762bf61649"), looks := false }, kinds := [], alts := [], laidByText := true, laidKinds := [.data], laidTests := true, laidLooks := .later }
def FnExactDirectionsOfCardSaid : Prop := Claim7.holds Tryd.pinned (.plain (OpenSpec.ofChange fnExactDirectionsOfSpec)) fnExactDirectionsOfCard

/-- THE SECOND FORM's CARD OF 'laws.FnExactDirectionsOf'. -/
def fnExactDirectionsOfUptoCard : Claim7 := { stood := { row := fnExactDirectionsOfUptoRow, standIns := [], harness := (true, "5e669f92dd1cae03014a5eab26e6fa73ca3514f832d188664f24bd762bf61649"), looks := false }, kinds := [], alts := [], laidByText := true, laidKinds := [.data], laidTests := true, laidLooks := .later }
def FnExactDirectionsOfUptoCardSaid : Prop := Claim7.holds Tryd.pinned (.plain (OpenSpec.upto fnExactDirectionsOfSpec)) fnExactDirectionsOfUptoCard
end Rows
end Go.Proofs.YtmlibfmbbkmeeaaDoor
