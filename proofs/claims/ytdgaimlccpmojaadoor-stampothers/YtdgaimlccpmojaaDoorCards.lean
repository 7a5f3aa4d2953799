/-
  DERIVED. GIVEN WITH THE SEED: THE CARDS: each row of YtdgaimlccpmojaaDoorRows.lean that lists a variable, with what it lists TIED to the program's text (the seventh form; the later family's looks); each row that meets fmt, with fmt's text TOLD by the authors' own Lean function (tested against real Go, not proved from fmt's source: count such statements apart). THE CARD IS WHAT COUNTS. Prove the row's statement (the work); the ties are given (YtdgaimlccpmojaaDoorTie.lean); close each card by the builder's one call (the guide's Derived/Test/ToyasCard.lean, 'card_holds'). Laid BY PROGRAM, IN A SANDBOX (cutbox-door.mjs). By AI agents, Wed Nov 11 2026. No macro, syntax, notation, axiom, sorry.
-/
import Derived.Test.YtdgaimlccpmojaaDoorRows
import GoSem.ClaimSeven
namespace Go.Proofs.YtdgaimlccpmojaaDoor
namespace Rows

/-- THE TIED CARD OF 'oathbooklaw2.StampSigned'. -/
def stampSignedCard : Claim7 := { stood := { row := stampSignedRow, standIns := [], harness := (true, "6aae9c825134d234c7e28e0c87b74f304f5cad843dba238857c6afef30c86c56"), looks := true }, kinds := [], alts := [], laidByText := true, laidKinds := [.data, .handle], laidTests := true, laidLooks := .later }
def StampSignedCardSaid : Prop := Claim7.holds Tryd.pinned (.plain (OpenSpec.ofChange stampSignedSpec)) stampSignedCard

/-- THE TIED CARD OF 'oathbooklaw2.StampOthers'. -/
def stampOthersCard : Claim7 := { stood := { row := stampOthersRow, standIns := [], harness := (true, "6aae9c825134d234c7e28e0c87b74f304f5cad843dba238857c6afef30c86c56"), looks := true }, kinds := [], alts := [], laidByText := true, laidKinds := [.data], laidTests := true, laidLooks := .later }
def StampOthersCardSaid : Prop := Claim7.holds Tryd.pinned (.plain (OpenSpec.ofChange stampOthersSpec)) stampOthersCard

/-- THE SECOND FORM's CARD OF 'oathbooklaw2.StampSigned'. -/
def stampSignedUptoCard : Claim7 := { stood := { row := stampSignedUptoRow, standIns := [], harness := (true, "6aae9c825134d234c7e28e0c87b74f304f5cad843dba238857c6afef30c86c56"), looks := true }, kinds := [], alts := [], laidByText := true, laidKinds := [.data, .handle], laidTests := true, laidLooks := .later }
def StampSignedUptoCardSaid : Prop := Claim7.holds Tryd.pinned (.plain (OpenSpec.upto stampSignedSpec)) stampSignedUptoCard

/-- THE SECOND FORM's CARD OF 'oathbooklaw2.StampOthers'. -/
def stampOthersUptoCard : Claim7 := { stood := { row := stampOthersUptoRow, standIns := [], harness := (true, "6aae9c825134d234c7e28e0c87b74f304f5cad843dba238857c6afef30c86c56"), looks := true }, kinds := [], alts := [], laidByText := true, laidKinds := [.data], laidTests := true, laidLooks := .later }
def StampOthersUptoCardSaid : Prop := Claim7.holds Tryd.pinned (.plain (OpenSpec.upto stampOthersSpec)) stampOthersUptoCard
end Rows
end Go.Proofs.YtdgaimlccpmojaaDoor
