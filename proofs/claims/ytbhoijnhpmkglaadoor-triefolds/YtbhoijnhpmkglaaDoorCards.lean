/-
  DERIVED. GIVEN WITH THE SEED: THE CARDS: each row of YtbhoijnhpmkglaaDoorRows.lean that lists a variable, with what it lists TIED to the program's text (the seventh form; the later family's looks); each row that meets fmt, with fmt's text TOLD by the authors' own Lean function (tested against real Go, not proved from fmt's source: count such statements apart). THE CARD IS WHAT COUNTS. Prove the row's statement (the work); the ties are given (YtbhoijnhpmkglaaDoorTie.lean); close each card by the builder's one call (the guide's Derived/Test/ToyasCard.lean, 'card_holds'). Laid BY PROGRAM, IN A SANDBOX (cutbox-door.mjs). By AI agents, Wed Nov 11 2026. No macro, syntax, notation, axiom, sorry.
-/
import Derived.Test.YtbhoijnhpmkglaaDoorRows
import GoSem.ClaimSeven
namespace Go.Proofs.YtbhoijnhpmkglaaDoor
namespace Rows

/-- THE TIED CARD OF 'oathbooklaw2.TrieRoots'. -/
def trieRootsCard : Claim7 := { stood := { row := trieRootsRow, standIns := [], harness := (true, "44c4478edfc3b6c5d45463d806d09a7a874d6eca00b01ea1fee1826d4d1e923c"), looks := true }, kinds := [], alts := [], laidByText := true, laidKinds := [.data, .handle], laidTests := true, laidLooks := .later }
def TrieRootsCardSaid : Prop := Claim7.holds Tryd.pinned (.plain (OpenSpec.ofChange trieRootsSpec)) trieRootsCard

/-- THE TIED CARD OF 'oathbooklaw2.TrieFolds'. -/
def trieFoldsCard : Claim7 := { stood := { row := trieFoldsRow, standIns := [], harness := (true, "44c4478edfc3b6c5d45463d806d09a7a874d6eca00b01ea1fee1826d4d1e923c"), looks := true }, kinds := [], alts := [], laidByText := true, laidKinds := [.data, .handle], laidTests := true, laidLooks := .later }
def TrieFoldsCardSaid : Prop := Claim7.holds Tryd.pinned (.plain (OpenSpec.ofChange trieFoldsSpec)) trieFoldsCard

/-- THE TIED CARD OF 'oathbooklaw2.TrieOrder'. -/
def trieOrderCard : Claim7 := { stood := { row := trieOrderRow, standIns := [], harness := (true, "44c4478edfc3b6c5d45463d806d09a7a874d6eca00b01ea1fee1826d4d1e923c"), looks := true }, kinds := [], alts := [], laidByText := true, laidKinds := [.data, .handle], laidTests := true, laidLooks := .later }
def TrieOrderCardSaid : Prop := Claim7.holds Tryd.pinned (.plain (OpenSpec.ofChange trieOrderSpec)) trieOrderCard

/-- THE TIED CARD OF 'oathbooklaw2.TrieProves'. -/
def trieProvesCard : Claim7 := { stood := { row := trieProvesRow, standIns := [], harness := (true, "44c4478edfc3b6c5d45463d806d09a7a874d6eca00b01ea1fee1826d4d1e923c"), looks := true }, kinds := [], alts := [], laidByText := true, laidKinds := [.data], laidTests := true, laidLooks := .later }
def TrieProvesCardSaid : Prop := Claim7.holds Tryd.pinned (.plain (OpenSpec.ofChange trieProvesSpec)) trieProvesCard

/-- THE TIED CARD OF 'oathbooklaw2.TrieSets'. -/
def trieSetsCard : Claim7 := { stood := { row := trieSetsRow, standIns := [], harness := (true, "44c4478edfc3b6c5d45463d806d09a7a874d6eca00b01ea1fee1826d4d1e923c"), looks := true }, kinds := [], alts := [], laidByText := true, laidKinds := [.data, .handle], laidTests := true, laidLooks := .later }
def TrieSetsCardSaid : Prop := Claim7.holds Tryd.pinned (.plain (OpenSpec.ofChange trieSetsSpec)) trieSetsCard

/-- THE TIED CARD OF 'oathbooklaw2.TrieSound'. -/
def trieSoundCard : Claim7 := { stood := { row := trieSoundRow, standIns := [], harness := (true, "44c4478edfc3b6c5d45463d806d09a7a874d6eca00b01ea1fee1826d4d1e923c"), looks := true }, kinds := [], alts := [], laidByText := true, laidKinds := [.data], laidTests := true, laidLooks := .later }
def TrieSoundCardSaid : Prop := Claim7.holds Tryd.pinned (.plain (OpenSpec.ofChange trieSoundSpec)) trieSoundCard

/-- THE SECOND FORM's CARD OF 'oathbooklaw2.TrieRoots'. -/
def trieRootsUptoCard : Claim7 := { stood := { row := trieRootsUptoRow, standIns := [], harness := (true, "44c4478edfc3b6c5d45463d806d09a7a874d6eca00b01ea1fee1826d4d1e923c"), looks := true }, kinds := [], alts := [], laidByText := true, laidKinds := [.data, .handle], laidTests := true, laidLooks := .later }
def TrieRootsUptoCardSaid : Prop := Claim7.holds Tryd.pinned (.plain (OpenSpec.upto trieRootsSpec)) trieRootsUptoCard

/-- THE SECOND FORM's CARD OF 'oathbooklaw2.TrieFolds'. -/
def trieFoldsUptoCard : Claim7 := { stood := { row := trieFoldsUptoRow, standIns := [], harness := (true, "44c4478edfc3b6c5d45463d806d09a7a874d6eca00b01ea1fee1826d4d1e923c"), looks := true }, kinds := [], alts := [], laidByText := true, laidKinds := [.data, .handle], laidTests := true, laidLooks := .later }
def TrieFoldsUptoCardSaid : Prop := Claim7.holds Tryd.pinned (.plain (OpenSpec.upto trieFoldsSpec)) trieFoldsUptoCard

/-- THE SECOND FORM's CARD OF 'oathbooklaw2.TrieOrder'. -/
def trieOrderUptoCard : Claim7 := { stood := { row := trieOrderUptoRow, standIns := [], harness := (true, "44c4478edfc3b6c5d45463d806d09a7a874d6eca00b01ea1fee1826d4d1e923c"), looks := true }, kinds := [], alts := [], laidByText := true, laidKinds := [.data, .handle], laidTests := true, laidLooks := .later }
def TrieOrderUptoCardSaid : Prop := Claim7.holds Tryd.pinned (.plain (OpenSpec.upto trieOrderSpec)) trieOrderUptoCard

/-- THE SECOND FORM's CARD OF 'oathbooklaw2.TrieProves'. -/
def trieProvesUptoCard : Claim7 := { stood := { row := trieProvesUptoRow, standIns := [], harness := (true, "44c4478edfc3b6c5d45463d806d09a7a874d6eca00b01ea1fee1826d4d1e923c"), looks := true }, kinds := [], alts := [], laidByText := true, laidKinds := [.data], laidTests := true, laidLooks := .later }
def TrieProvesUptoCardSaid : Prop := Claim7.holds Tryd.pinned (.plain (OpenSpec.upto trieProvesSpec)) trieProvesUptoCard

/-- THE SECOND FORM's CARD OF 'oathbooklaw2.TrieSets'. -/
def trieSetsUptoCard : Claim7 := { stood := { row := trieSetsUptoRow, standIns := [], harness := (true, "44c4478edfc3b6c5d45463d806d09a7a874d6eca00b01ea1fee1826d4d1e923c"), looks := true }, kinds := [], alts := [], laidByText := true, laidKinds := [.data, .handle], laidTests := true, laidLooks := .later }
def TrieSetsUptoCardSaid : Prop := Claim7.holds Tryd.pinned (.plain (OpenSpec.upto trieSetsSpec)) trieSetsUptoCard

/-- THE SECOND FORM's CARD OF 'oathbooklaw2.TrieSound'. -/
def trieSoundUptoCard : Claim7 := { stood := { row := trieSoundUptoRow, standIns := [], harness := (true, "44c4478edfc3b6c5d45463d806d09a7a874d6eca00b01ea1fee1826d4d1e923c"), looks := true }, kinds := [], alts := [], laidByText := true, laidKinds := [.data], laidTests := true, laidLooks := .later }
def TrieSoundUptoCardSaid : Prop := Claim7.holds Tryd.pinned (.plain (OpenSpec.upto trieSoundSpec)) trieSoundUptoCard
end Rows
end Go.Proofs.YtbhoijnhpmkglaaDoor
