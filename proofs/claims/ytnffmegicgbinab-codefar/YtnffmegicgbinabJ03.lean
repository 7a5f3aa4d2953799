/- Texts of this claim, joined: Rfieldi. -/
import Derived.Test.YtnffmegicgbinabJ02
/- The contracts of oathbookref2.Inv and Pow. -/
namespace Go.Proofs.Ytnffmegicgbinab
open Go.RowKit
set_option linter.unusedVariables false
set_option linter.unusedSimpArgs false

theorem gpow_z (n : Nat) (h : n ≠ 0) : gpow 0 n = 0 := by
  obtain ⟨m, rfl⟩ : ∃ m, n = m + 1 := ⟨n - 1, by omega⟩
  exact gpow_zero m
end Go.Proofs.Ytnffmegicgbinab
