/-
  DERIVED. GIVEN WITH THE SEED: THE CARDS: each row of YtnffmegicgbinabDoorRows.lean that lists a variable, with what it lists TIED to the program's text (the seventh form; the later family's looks); each row that meets fmt, with fmt's text TOLD by the authors' own Lean function (tested against real Go, not proved from fmt's source: count such statements apart). THE CARD IS WHAT COUNTS. Prove the row's statement (the work); the ties are given (YtnffmegicgbinabDoorTie.lean); close each card by the builder's one call (the guide's Derived/Test/ToyasCard.lean, 'card_holds'). Laid BY PROGRAM, IN A SANDBOX (cutbox-door.mjs). By AI agents, Wed Nov 11 2026. No macro, syntax, notation, axiom, sorry.
-/
import Derived.Test.YtnffmegicgbinabDoorRows
import GoSem.ClaimSeven
namespace Go.Proofs.YtnffmegicgbinabDoor
namespace Rows

/-- THE TIED CARD OF 'oathbooklaw2.CodeGathers'. -/
def codeGathersCard : Claim7 := { stood := { row := codeGathersRow, standIns := [], harness := (true, "9ccf7201df30b164cc560064d26ad47168c63b0033bf2e0be95361e11852448c"), looks := true }, kinds := [], alts := [], laidByText := true, laidKinds := [.handle], laidTests := true, laidLooks := .later }
def CodeGathersCardSaid : Prop := Claim7.holds Tryd.pinned (.plain (OpenSpec.ofChange codeGathersSpec)) codeGathersCard

/-- THE SECOND FORM's CARD OF 'oathbooklaw2.CodeGathers'. -/
def codeGathersUptoCard : Claim7 := { stood := { row := codeGathersUptoRow, standIns := [], harness := (true, "9ccf7201df30b164cc560064d26ad47168c63b0033bf2e0be95361e11852448c"), looks := true }, kinds := [], alts := [], laidByText := true, laidKinds := [.handle], laidTests := true, laidLooks := .later }
def CodeGathersUptoCardSaid : Prop := Claim7.holds Tryd.pinned (.plain (OpenSpec.upto codeGathersSpec)) codeGathersUptoCard
end Rows
end Go.Proofs.YtnffmegicgbinabDoor
