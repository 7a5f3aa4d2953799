/-
  DERIVED. GIVEN WITH THE SEED: THE CARDS: each row of YtdplajhebapkgaaDoorRows.lean that lists a variable, with what it lists TIED to the program's text (the seventh form; the later family's looks); each row that meets fmt, with fmt's text TOLD by the authors' own Lean function (tested against real Go, not proved from fmt's source: count such statements apart). THE CARD IS WHAT COUNTS. Prove the row's statement (the work); the ties are given (YtdplajhebapkgaaDoorTie.lean); close each card by the builder's one call (the guide's Derived/Test/ToyasCard.lean, 'card_holds'). Laid BY PROGRAM, IN A SANDBOX (cutbox-door.mjs). By AI agents, Wed Nov 11 2026. No macro, syntax, notation, axiom, sorry.
-/
import Derived.Test.YtdplajhebapkgaaDoorRows
import GoSem.ClaimSeven
namespace Go.Proofs.YtdplajhebapkgaaDoor
namespace Rows

/-- THE TIED CARD OF 'oathbooklaw1.WotsTells'. -/
def wotsTellsCard : Claim7 := { stood := { row := wotsTellsRow, standIns := [], harness := (true, "e3e8e2750936cdb984ce13383e8690024480e0cfc1e6555314c536d76351788e"), looks := true }, kinds := [], alts := [], laidByText := true, laidKinds := [.data, .handle], laidTests := true, laidLooks := .later }
def WotsTellsCardSaid : Prop := Claim7.holds Tryd.pinned (.plain (OpenSpec.ofChange wotsTellsSpec)) wotsTellsCard

/-- THE TIED CARD OF 'oathbooklaw1.WotsSigned'. -/
def wotsSignedCard : Claim7 := { stood := { row := wotsSignedRow, standIns := [], harness := (true, "e3e8e2750936cdb984ce13383e8690024480e0cfc1e6555314c536d76351788e"), looks := true }, kinds := [], alts := [], laidByText := true, laidKinds := [.data], laidTests := true, laidLooks := .later }
def WotsSignedCardSaid : Prop := Claim7.holds Tryd.pinned (.plain (OpenSpec.ofChange wotsSignedSpec)) wotsSignedCard

/-- THE TIED CARD OF 'oathbooklaw1.WotsForged'. -/
def wotsForgedCard : Claim7 := { stood := { row := wotsForgedRow, standIns := [], harness := (true, "e3e8e2750936cdb984ce13383e8690024480e0cfc1e6555314c536d76351788e"), looks := true }, kinds := [], alts := [], laidByText := true, laidKinds := [.data], laidTests := true, laidLooks := .later }
def WotsForgedCardSaid : Prop := Claim7.holds Tryd.pinned (.plain (OpenSpec.ofChange wotsForgedSpec)) wotsForgedCard

/-- THE SECOND FORM's CARD OF 'oathbooklaw1.WotsTells'. -/
def wotsTellsUptoCard : Claim7 := { stood := { row := wotsTellsUptoRow, standIns := [], harness := (true, "e3e8e2750936cdb984ce13383e8690024480e0cfc1e6555314c536d76351788e"), looks := true }, kinds := [], alts := [], laidByText := true, laidKinds := [.data, .handle], laidTests := true, laidLooks := .later }
def WotsTellsUptoCardSaid : Prop := Claim7.holds Tryd.pinned (.plain (OpenSpec.upto wotsTellsSpec)) wotsTellsUptoCard

/-- THE SECOND FORM's CARD OF 'oathbooklaw1.WotsSigned'. -/
def wotsSignedUptoCard : Claim7 := { stood := { row := wotsSignedUptoRow, standIns := [], harness := (true, "e3e8e2750936cdb984ce13383e8690024480e0cfc1e6555314c536d76351788e"), looks := true }, kinds := [], alts := [], laidByText := true, laidKinds := [.data], laidTests := true, laidLooks := .later }
def WotsSignedUptoCardSaid : Prop := Claim7.holds Tryd.pinned (.plain (OpenSpec.upto wotsSignedSpec)) wotsSignedUptoCard

/-- THE SECOND FORM's CARD OF 'oathbooklaw1.WotsForged'. -/
def wotsForgedUptoCard : Claim7 := { stood := { row := wotsForgedUptoRow, standIns := [], harness := (true, "e3e8e2750936cdb984ce13383e8690024480e0cfc1e6555314c536d76351788e"), looks := true }, kinds := [], alts := [], laidByText := true, laidKinds := [.data], laidTests := true, laidLooks := .later }
def WotsForgedUptoCardSaid : Prop := Claim7.holds Tryd.pinned (.plain (OpenSpec.upto wotsForgedSpec)) wotsForgedUptoCard
end Rows
end Go.Proofs.YtdplajhebapkgaaDoor
