/-
  DERIVED. GIVEN WITH THE SEED: THE CARDS: each row of YtjhndncmeedffaaDoorRows.lean that lists a variable, with what it lists TIED to the program's text (the seventh form; the later family's looks); each row that meets fmt, with fmt's text TOLD by the authors' own Lean function (tested against real Go, not proved from fmt's source: count such statements apart). THE CARD IS WHAT COUNTS. Prove the row's statement (the work); the ties are given (YtjhndncmeedffaaDoorTie.lean); close each card by the builder's one call (the guide's Derived/Test/ToyasCard.lean, 'card_holds'). Laid BY PROGRAM, IN A SANDBOX (cutbox-door.mjs). By AI agents, Wed Nov 11 2026. No macro, syntax, notation, axiom, sorry.
-/
import Derived.Test.YtjhndncmeedffaaDoorRows
import GoSem.ClaimSeven
namespace Go.Proofs.YtjhndncmeedffaaDoor
namespace Rows

/-- THE TIED CARD OF 'laws.FnExactPackBits'. -/
def fnExactPackBitsCard : Claim7 := { stood := { row := fnExactPackBitsRow, standIns := [], harness := (true, "5628cc4c5370434bb8f45695390e27bc3ca729cdb9109675929cb712431acff8"), looks := false }, kinds := [], alts := [], laidByText := true, laidKinds := [.data, .pinned], laidTests := true, laidLooks := .later }
def FnExactPackBitsCardSaid : Prop := Claim7.holds Tryd.pinned (.plain (OpenSpec.ofChange fnExactPackBitsSpec)) fnExactPackBitsCard

/-- THE TIED CARD OF 'laws.FnExactReadRice'. -/
def fnExactReadRiceCard : Claim7 := { stood := { row := fnExactReadRiceRow, standIns := [], harness := (true, "5628cc4c5370434bb8f45695390e27bc3ca729cdb9109675929cb712431acff8"), looks := false }, kinds := [], alts := [], laidByText := true, laidKinds := [.data, .pinned], laidTests := true, laidLooks := .later }
def FnExactReadRiceCardSaid : Prop := Claim7.holds Tryd.pinned (.plain (OpenSpec.ofChange fnExactReadRiceSpec)) fnExactReadRiceCard

/-- THE TIED CARD OF 'laws.FnRice'. -/
def fnRiceCard : Claim7 := { stood := { row := fnRiceRow, standIns := [], harness := (true, "5628cc4c5370434bb8f45695390e27bc3ca729cdb9109675929cb712431acff8"), looks := false }, kinds := [], alts := [], laidByText := true, laidKinds := [.data, .pinned], laidTests := true, laidLooks := .later }
def FnRiceCardSaid : Prop := Claim7.holds Tryd.pinned (.plain (OpenSpec.ofChange fnRiceSpec)) fnRiceCard

/-- THE TIED CARD OF 'laws.FnBits'. -/
def fnBitsCard : Claim7 := { stood := { row := fnBitsRow, standIns := [], harness := (true, "5628cc4c5370434bb8f45695390e27bc3ca729cdb9109675929cb712431acff8"), looks := false }, kinds := [], alts := [], laidByText := true, laidKinds := [.data, .pinned], laidTests := true, laidLooks := .later }
def FnBitsCardSaid : Prop := Claim7.holds Tryd.pinned (.plain (OpenSpec.ofChange fnBitsSpec)) fnBitsCard

/-- THE SECOND FORM's CARD OF 'laws.FnExactPackBits'. -/
def fnExactPackBitsUptoCard : Claim7 := { stood := { row := fnExactPackBitsUptoRow, standIns := [], harness := (true, "5628cc4c5370434bb8f45695390e27bc3ca729cdb9109675929cb712431acff8"), looks := false }, kinds := [], alts := [], laidByText := true, laidKinds := [.data, .pinned], laidTests := true, laidLooks := .later }
def FnExactPackBitsUptoCardSaid : Prop := Claim7.holds Tryd.pinned (.plain (OpenSpec.upto fnExactPackBitsSpec)) fnExactPackBitsUptoCard

/-- THE SECOND FORM's CARD OF 'laws.FnExactReadRice'. -/
def fnExactReadRiceUptoCard : Claim7 := { stood := { row := fnExactReadRiceUptoRow, standIns := [], harness := (true, "5628cc4c5370434bb8f45695390e27bc3ca729cdb9109675929cb712431acff8"), looks := false }, kinds := [], alts := [], laidByText := true, laidKinds := [.data, .pinned], laidTests := true, laidLooks := .later }
def FnExactReadRiceUptoCardSaid : Prop := Claim7.holds Tryd.pinned (.plain (OpenSpec.upto fnExactReadRiceSpec)) fnExactReadRiceUptoCard

/-- THE SECOND FORM's CARD OF 'laws.FnRice'. -/
def fnRiceUptoCard : Claim7 := { stood := { row := fnRiceUptoRow, standIns := [], harness := (true, "5628cc4c5370434bb8f45695390e27bc3ca729cdb9109675929cb712431acff8"), looks := false }, kinds := [], alts := [], laidByText := true, laidKinds := [.data, .pinned], laidTests := true, laidLooks := .later }
def FnRiceUptoCardSaid : Prop := Claim7.holds Tryd.pinned (.plain (OpenSpec.upto fnRiceSpec)) fnRiceUptoCard

/-- THE SECOND FORM's CARD OF 'laws.FnBits'. -/
def fnBitsUptoCard : Claim7 := { stood := { row := fnBitsUptoRow, standIns := [], harness := (true, "5628cc4c5370434bb8f45695390e27bc3ca729cdb9109675929cb712431acff8"), looks := false }, kinds := [], alts := [], laidByText := true, laidKinds := [.data, .pinned], laidTests := true, laidLooks := .later }
def FnBitsUptoCardSaid : Prop := Claim7.holds Tryd.pinned (.plain (OpenSpec.upto fnBitsSpec)) fnBitsUptoCard
end Rows
end Go.Proofs.YtjhndncmeedffaaDoor
