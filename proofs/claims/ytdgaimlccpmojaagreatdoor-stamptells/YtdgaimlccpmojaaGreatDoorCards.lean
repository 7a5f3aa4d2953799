/-
  DERIVED. GIVEN WITH THE SEED: THE CARDS: each row of YtdgaimlccpmojaaGreatDoorRows.lean that lists a variable, with what it lists TIED to the program's text (the seventh form; the later family's looks); each row that meets fmt, with fmt's text TOLD by the authors' own Lean function (tested against real Go, not proved from fmt's source: count such statements apart). THE CARD IS WHAT COUNTS. Prove the row's statement (the work); the ties are given (YtdgaimlccpmojaaGreatDoorTie.lean); close each card by the builder's one call (the guide's Derived/Test/ToyasCard.lean, 'card_holds'). Laid BY PROGRAM, IN A SANDBOX (cutbox-door.mjs). By AI agents, Wed Nov 11 2026. No macro, syntax, notation, axiom, sorry.
-/
import Derived.Test.YtdgaimlccpmojaaGreatDoorRows
import GoSem.ClaimSeven
namespace Go.Proofs.YtdgaimlccpmojaaGreatDoor
namespace Rows

/-- THE TIED CARD OF 'oathbooklaw2.StampTells'. -/
def stampTellsCard : Claim7 := { stood := { row := stampTellsRow, standIns := [], harness := (true, "1ba6db65eac692eb5c10110cd14a6b72cdf0b565e10be57fb59b3f343523123b"), looks := true }, kinds := [], alts := [], laidByText := true, laidKinds := [.data, .handle], laidTests := true, laidLooks := .later }
def StampTellsCardSaid : Prop := Claim7.holds Tryz.pinned (.plain (OpenSpec.ofChange stampTellsSpec)) stampTellsCard

/-- THE SECOND FORM's CARD OF 'oathbooklaw2.StampTells'. -/
def stampTellsUptoCard : Claim7 := { stood := { row := stampTellsUptoRow, standIns := [], harness := (true, "1ba6db65eac692eb5c10110cd14a6b72cdf0b565e10be57fb59b3f343523123b"), looks := true }, kinds := [], alts := [], laidByText := true, laidKinds := [.data, .handle], laidTests := true, laidLooks := .later }
def StampTellsUptoCardSaid : Prop := Claim7.holds Tryz.pinned (.plain (OpenSpec.upto stampTellsSpec)) stampTellsUptoCard
end Rows
end Go.Proofs.YtdgaimlccpmojaaGreatDoor
