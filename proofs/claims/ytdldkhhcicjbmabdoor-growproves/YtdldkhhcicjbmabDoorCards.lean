/-
  DERIVED. GIVEN WITH THE SEED: THE CARDS: each row of YtdldkhhcicjbmabDoorRows.lean that lists a variable, with what it lists TIED to the program's text (the seventh form; the later family's looks); each row that meets fmt, with fmt's text TOLD by the authors' own Lean function (tested against real Go, not proved from fmt's source: count such statements apart). THE CARD IS WHAT COUNTS. Prove the row's statement (the work); the ties are given (YtdldkhhcicjbmabDoorTie.lean); close each card by the builder's one call (the guide's Derived/Test/ToyasCard.lean, 'card_holds'). Laid BY PROGRAM, IN A SANDBOX (cutbox-door.mjs). By AI agents, Wed Nov 11 2026. No macro, syntax, notation, axiom, sorry.
-/
import Derived.Test.YtdldkhhcicjbmabDoorRows
import GoSem.ClaimSeven
namespace Go.Proofs.YtdldkhhcicjbmabDoor
namespace Rows

/-- THE TIED CARD OF 'oathbooklaw1.GrowTells'. -/
def growTellsCard : Claim7 := { stood := { row := growTellsRow, standIns := [], harness := (true, "bae4ed46e56ba38bb5cee2ec793a55ce24ac74d2fc872834f491cd2e8fab45bf"), looks := true }, kinds := [], alts := [], laidByText := true, laidKinds := [.data, .handle], laidTests := true, laidLooks := .later }
def GrowTellsCardSaid : Prop := Claim7.holds Tryd.pinned (.plain (OpenSpec.ofChange growTellsSpec)) growTellsCard

/-- THE TIED CARD OF 'oathbooklaw1.GrowProves'. -/
def growProvesCard : Claim7 := { stood := { row := growProvesRow, standIns := [], harness := (true, "bae4ed46e56ba38bb5cee2ec793a55ce24ac74d2fc872834f491cd2e8fab45bf"), looks := true }, kinds := [], alts := [], laidByText := true, laidKinds := [.data], laidTests := true, laidLooks := .later }
def GrowProvesCardSaid : Prop := Claim7.holds Tryd.pinned (.plain (OpenSpec.ofChange growProvesSpec)) growProvesCard

/-- THE TIED CARD OF 'oathbooklaw1.GrowSound'. -/
def growSoundCard : Claim7 := { stood := { row := growSoundRow, standIns := [], harness := (true, "bae4ed46e56ba38bb5cee2ec793a55ce24ac74d2fc872834f491cd2e8fab45bf"), looks := true }, kinds := [], alts := [], laidByText := true, laidKinds := [.data], laidTests := true, laidLooks := .later }
def GrowSoundCardSaid : Prop := Claim7.holds Tryd.pinned (.plain (OpenSpec.ofChange growSoundSpec)) growSoundCard

/-- THE SECOND FORM's CARD OF 'oathbooklaw1.GrowTells'. -/
def growTellsUptoCard : Claim7 := { stood := { row := growTellsUptoRow, standIns := [], harness := (true, "bae4ed46e56ba38bb5cee2ec793a55ce24ac74d2fc872834f491cd2e8fab45bf"), looks := true }, kinds := [], alts := [], laidByText := true, laidKinds := [.data, .handle], laidTests := true, laidLooks := .later }
def GrowTellsUptoCardSaid : Prop := Claim7.holds Tryd.pinned (.plain (OpenSpec.upto growTellsSpec)) growTellsUptoCard

/-- THE SECOND FORM's CARD OF 'oathbooklaw1.GrowProves'. -/
def growProvesUptoCard : Claim7 := { stood := { row := growProvesUptoRow, standIns := [], harness := (true, "bae4ed46e56ba38bb5cee2ec793a55ce24ac74d2fc872834f491cd2e8fab45bf"), looks := true }, kinds := [], alts := [], laidByText := true, laidKinds := [.data], laidTests := true, laidLooks := .later }
def GrowProvesUptoCardSaid : Prop := Claim7.holds Tryd.pinned (.plain (OpenSpec.upto growProvesSpec)) growProvesUptoCard

/-- THE SECOND FORM's CARD OF 'oathbooklaw1.GrowSound'. -/
def growSoundUptoCard : Claim7 := { stood := { row := growSoundUptoRow, standIns := [], harness := (true, "bae4ed46e56ba38bb5cee2ec793a55ce24ac74d2fc872834f491cd2e8fab45bf"), looks := true }, kinds := [], alts := [], laidByText := true, laidKinds := [.data], laidTests := true, laidLooks := .later }
def GrowSoundUptoCardSaid : Prop := Claim7.holds Tryd.pinned (.plain (OpenSpec.upto growSoundSpec)) growSoundUptoCard
end Rows
end Go.Proofs.YtdldkhhcicjbmabDoor
