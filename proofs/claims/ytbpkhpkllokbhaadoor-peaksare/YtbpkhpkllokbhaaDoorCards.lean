/-
  DERIVED. GIVEN WITH THE SEED: THE CARDS: each row of YtbpkhpkllokbhaaDoorRows.lean that lists a variable, with what it lists TIED to the program's text (the seventh form; the later family's looks); each row that meets fmt, with fmt's text TOLD by the authors' own Lean function (tested against real Go, not proved from fmt's source: count such statements apart). THE CARD IS WHAT COUNTS. Prove the row's statement (the work); the ties are given (YtbpkhpkllokbhaaDoorTie.lean); close each card by the builder's one call (the guide's Derived/Test/ToyasCard.lean, 'card_holds'). Laid BY PROGRAM, IN A SANDBOX (cutbox-door.mjs). By AI agents, Wed Nov 11 2026. No macro, syntax, notation, axiom, sorry.
-/
import Derived.Test.YtbpkhpkllokbhaaDoorRows
import GoSem.ClaimSeven
namespace Go.Proofs.YtbpkhpkllokbhaaDoor
namespace Rows

/-- THE TIED CARD OF 'oathbooklaw1.PeaksTell'. -/
def peaksTellCard : Claim7 := { stood := { row := peaksTellRow, standIns := [], harness := (true, "220f520d3f0c568ed7cb13ffa0da0e134706665c4f7018d2bf193dcea2511da0"), looks := true }, kinds := [], alts := [], laidByText := true, laidKinds := [.data, .handle], laidTests := true, laidLooks := .later }
def PeaksTellCardSaid : Prop := Claim7.holds Tryd.pinned (.plain (OpenSpec.ofChange peaksTellSpec)) peaksTellCard

/-- THE TIED CARD OF 'oathbooklaw1.PeaksGrow'. -/
def peaksGrowCard : Claim7 := { stood := { row := peaksGrowRow, standIns := [], harness := (true, "220f520d3f0c568ed7cb13ffa0da0e134706665c4f7018d2bf193dcea2511da0"), looks := true }, kinds := [], alts := [], laidByText := true, laidKinds := [.data], laidTests := true, laidLooks := .later }
def PeaksGrowCardSaid : Prop := Claim7.holds Tryd.pinned (.plain (OpenSpec.ofChange peaksGrowSpec)) peaksGrowCard

/-- THE TIED CARD OF 'oathbooklaw1.PeaksAre'. -/
def peaksAreCard : Claim7 := { stood := { row := peaksAreRow, standIns := [], harness := (true, "220f520d3f0c568ed7cb13ffa0da0e134706665c4f7018d2bf193dcea2511da0"), looks := true }, kinds := [], alts := [], laidByText := true, laidKinds := [.data], laidTests := true, laidLooks := .later }
def PeaksAreCardSaid : Prop := Claim7.holds Tryd.pinned (.plain (OpenSpec.ofChange peaksAreSpec)) peaksAreCard

/-- THE SECOND FORM's CARD OF 'oathbooklaw1.PeaksTell'. -/
def peaksTellUptoCard : Claim7 := { stood := { row := peaksTellUptoRow, standIns := [], harness := (true, "220f520d3f0c568ed7cb13ffa0da0e134706665c4f7018d2bf193dcea2511da0"), looks := true }, kinds := [], alts := [], laidByText := true, laidKinds := [.data, .handle], laidTests := true, laidLooks := .later }
def PeaksTellUptoCardSaid : Prop := Claim7.holds Tryd.pinned (.plain (OpenSpec.upto peaksTellSpec)) peaksTellUptoCard

/-- THE SECOND FORM's CARD OF 'oathbooklaw1.PeaksGrow'. -/
def peaksGrowUptoCard : Claim7 := { stood := { row := peaksGrowUptoRow, standIns := [], harness := (true, "220f520d3f0c568ed7cb13ffa0da0e134706665c4f7018d2bf193dcea2511da0"), looks := true }, kinds := [], alts := [], laidByText := true, laidKinds := [.data], laidTests := true, laidLooks := .later }
def PeaksGrowUptoCardSaid : Prop := Claim7.holds Tryd.pinned (.plain (OpenSpec.upto peaksGrowSpec)) peaksGrowUptoCard

/-- THE SECOND FORM's CARD OF 'oathbooklaw1.PeaksAre'. -/
def peaksAreUptoCard : Claim7 := { stood := { row := peaksAreUptoRow, standIns := [], harness := (true, "220f520d3f0c568ed7cb13ffa0da0e134706665c4f7018d2bf193dcea2511da0"), looks := true }, kinds := [], alts := [], laidByText := true, laidKinds := [.data], laidTests := true, laidLooks := .later }
def PeaksAreUptoCardSaid : Prop := Claim7.holds Tryd.pinned (.plain (OpenSpec.upto peaksAreSpec)) peaksAreUptoCard
end Rows
end Go.Proofs.YtbpkhpkllokbhaaDoor
