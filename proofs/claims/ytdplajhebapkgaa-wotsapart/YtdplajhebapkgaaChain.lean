/- Plain definitions for chains: no theorem of the program yet. -/
import Derived.Test.YtdplajhebapkgaaSha
namespace Go.Proofs.Ytdplajhebapkgaa
open Go.RowKit
set_option linter.unusedVariables false
set_option linter.unusedSimpArgs false
def stepL (d : List UInt8) : List UInt8 := shaL (8 :: d)
def walkL (d : List UInt8) : Nat → List UInt8
  | 0 => d
  | k + 1 => stepL (walkL d k)
theorem walkL_length {d : List UInt8} (h : d.length = 32) : ∀ k, (walkL d k).length = 32
  | 0 => h
  | k + 1 => shaL_length _
theorem walkL_add (d : List UInt8) (i : Nat) : ∀ j, walkL d (i + j) = walkL (walkL d i) j
  | 0 => rfl
  | j + 1 => by rw [← Nat.add_assoc, walkL, walkL, walkL_add d i j]
end Go.Proofs.Ytdplajhebapkgaa
