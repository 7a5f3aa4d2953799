/-
  DERIVED. GIVEN WITH THE SEED: THE CARDS: each row of YtfefhjnjndfchaaDoorRows.lean that lists a variable, with what it lists TIED to the program's text (the seventh form; the later family's looks); each row that meets fmt, with fmt's text TOLD by the authors' own Lean function (tested against real Go, not proved from fmt's source: count such statements apart). THE CARD IS WHAT COUNTS. Prove the row's statement (the work); the ties are given (YtfefhjnjndfchaaDoorTie.lean); close each card by the builder's one call (the guide's Derived/Test/ToyasCard.lean, 'card_holds'). Laid BY PROGRAM, IN A SANDBOX (cutbox-door.mjs). By AI agents, Wed Nov 11 2026. No macro, syntax, notation, axiom, sorry.
-/
import Derived.Test.YtfefhjnjndfchaaDoorRows
import GoSem.ClaimSeven
namespace Go.Proofs.YtfefhjnjndfchaaDoor
namespace Rows

/-- THE TIED CARD OF 'oathbooklaw2.FieldTells'. -/
def fieldTellsCard : Claim7 := { stood := { row := fieldTellsRow, standIns := [], harness := (true, "56a7d3eaf2d27ba2bb4a771dafdb6ea10e1f15f3495fa1c1cb13f0038a96b2f3"), looks := true }, kinds := [], alts := [], laidByText := true, laidKinds := [.handle], laidTests := true, laidLooks := .later }
def FieldTellsCardSaid : Prop := Claim7.holds Tryd.pinned (.plain (OpenSpec.ofChange fieldTellsSpec)) fieldTellsCard

/-- THE SECOND FORM's CARD OF 'oathbooklaw2.FieldTells'. -/
def fieldTellsUptoCard : Claim7 := { stood := { row := fieldTellsUptoRow, standIns := [], harness := (true, "56a7d3eaf2d27ba2bb4a771dafdb6ea10e1f15f3495fa1c1cb13f0038a96b2f3"), looks := true }, kinds := [], alts := [], laidByText := true, laidKinds := [.handle], laidTests := true, laidLooks := .later }
def FieldTellsUptoCardSaid : Prop := Claim7.holds Tryd.pinned (.plain (OpenSpec.upto fieldTellsSpec)) fieldTellsUptoCard
end Rows
end Go.Proofs.YtfefhjnjndfchaaDoor
