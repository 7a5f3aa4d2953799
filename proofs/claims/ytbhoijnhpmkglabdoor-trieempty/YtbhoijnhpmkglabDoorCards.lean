/-
  DERIVED. GIVEN WITH THE SEED: THE CARDS: each row of YtbhoijnhpmkglabDoorRows.lean that lists a variable, with what it lists TIED to the program's text (the seventh form; the later family's looks); each row that meets fmt, with fmt's text TOLD by the authors' own Lean function (tested against real Go, not proved from fmt's source: count such statements apart). THE CARD IS WHAT COUNTS. Prove the row's statement (the work); the ties are given (YtbhoijnhpmkglabDoorTie.lean); close each card by the builder's one call (the guide's Derived/Test/ToyasCard.lean, 'card_holds'). Laid BY PROGRAM, IN A SANDBOX (cutbox-door.mjs). By AI agents, Wed Nov 11 2026. No macro, syntax, notation, axiom, sorry.
-/
import Derived.Test.YtbhoijnhpmkglabDoorRows
import GoSem.ClaimSeven
namespace Go.Proofs.YtbhoijnhpmkglabDoor
namespace Rows

/-- THE TIED CARD OF 'oathbooklaw2.TrieBinds'. -/
def trieBindsCard : Claim7 := { stood := { row := trieBindsRow, standIns := [], harness := (true, "1cfef11dd1b95939cb526bb62a560d6138d2f6d8505837ba7e12e0f2394fb7c2"), looks := false }, kinds := [], alts := [], laidByText := true, laidKinds := [.data], laidTests := true, laidLooks := .later }
def TrieBindsCardSaid : Prop := Claim7.holds Tryd.pinned (.plain (OpenSpec.ofChange trieBindsSpec)) trieBindsCard

/-- THE TIED CARD OF 'oathbooklaw2.TrieEmpty'. -/
def trieEmptyCard : Claim7 := { stood := { row := trieEmptyRow, standIns := [], harness := (true, "1cfef11dd1b95939cb526bb62a560d6138d2f6d8505837ba7e12e0f2394fb7c2"), looks := false }, kinds := [], alts := [], laidByText := true, laidKinds := [.data], laidTests := true, laidLooks := .later }
def TrieEmptyCardSaid : Prop := Claim7.holds Tryd.pinned (.plain (OpenSpec.ofChange trieEmptySpec)) trieEmptyCard

/-- THE SECOND FORM's CARD OF 'oathbooklaw2.TrieBinds'. -/
def trieBindsUptoCard : Claim7 := { stood := { row := trieBindsUptoRow, standIns := [], harness := (true, "1cfef11dd1b95939cb526bb62a560d6138d2f6d8505837ba7e12e0f2394fb7c2"), looks := false }, kinds := [], alts := [], laidByText := true, laidKinds := [.data], laidTests := true, laidLooks := .later }
def TrieBindsUptoCardSaid : Prop := Claim7.holds Tryd.pinned (.plain (OpenSpec.upto trieBindsSpec)) trieBindsUptoCard

/-- THE SECOND FORM's CARD OF 'oathbooklaw2.TrieEmpty'. -/
def trieEmptyUptoCard : Claim7 := { stood := { row := trieEmptyUptoRow, standIns := [], harness := (true, "1cfef11dd1b95939cb526bb62a560d6138d2f6d8505837ba7e12e0f2394fb7c2"), looks := false }, kinds := [], alts := [], laidByText := true, laidKinds := [.data], laidTests := true, laidLooks := .later }
def TrieEmptyUptoCardSaid : Prop := Claim7.holds Tryd.pinned (.plain (OpenSpec.upto trieEmptySpec)) trieEmptyUptoCard
end Rows
end Go.Proofs.YtbhoijnhpmkglabDoor
