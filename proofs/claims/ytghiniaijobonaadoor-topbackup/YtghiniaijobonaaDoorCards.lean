/-
  DERIVED. GIVEN WITH THE SEED: THE CARDS: each row of YtghiniaijobonaaDoorRows.lean that lists a variable, with what it lists TIED to the program's text (the seventh form; the later family's looks); each row that meets fmt, with fmt's text TOLD by the authors' own Lean function (tested against real Go, not proved from fmt's source: count such statements apart). THE CARD IS WHAT COUNTS. Prove the row's statement (the work); the ties are given (YtghiniaijobonaaDoorTie.lean); close each card by the builder's one call (the guide's Derived/Test/ToyasCard.lean, 'card_holds'). Laid BY PROGRAM, IN A SANDBOX (cutbox-door.mjs). By AI agents, Wed Nov 11 2026. No macro, syntax, notation, axiom, sorry.
-/
import Derived.Test.YtghiniaijobonaaDoorRows
import GoSem.ClaimSeven
namespace Go.Proofs.YtghiniaijobonaaDoor
namespace Rows

/-- THE TIED CARD OF 'oathbooktop.TopBackup'. -/
def topBackupCard : Claim7 := { stood := { row := topBackupRow, standIns := [], harness := (true, "c34d13f8f8dadeeb552810daae6a899a0967480216d2b2aaa4002c8076f817e7"), looks := false }, kinds := [], alts := [], laidByText := true, laidKinds := [.data], laidTests := true, laidLooks := .later }
def TopBackupCardSaid : Prop := Claim7.holds Tryd.pinned (.plain (OpenSpec.ofChange topBackupSpec)) topBackupCard

/-- THE SECOND FORM's CARD OF 'oathbooktop.TopBackup'. -/
def topBackupUptoCard : Claim7 := { stood := { row := topBackupUptoRow, standIns := [], harness := (true, "c34d13f8f8dadeeb552810daae6a899a0967480216d2b2aaa4002c8076f817e7"), looks := false }, kinds := [], alts := [], laidByText := true, laidKinds := [.data], laidTests := true, laidLooks := .later }
def TopBackupUptoCardSaid : Prop := Claim7.holds Tryd.pinned (.plain (OpenSpec.upto topBackupSpec)) topBackupUptoCard
end Rows
end Go.Proofs.YtghiniaijobonaaDoor
