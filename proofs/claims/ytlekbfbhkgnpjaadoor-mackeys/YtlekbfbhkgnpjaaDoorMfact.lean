/- What Mac tells of nothing is not bytes 0. -/
import Derived.Test.YtlekbfbhkgnpjaaDoorWmac
import Derived.Test.YtlekbfbhkgnpjaaDoorSame
namespace Go.Proofs.YtlekbfbhkgnpjaaDoor
open Go.RowKit
set_option linter.unusedVariables false
set_option linter.unusedSimpArgs false

theorem mac_nothing : (macL [] []).getD 0 0 = 182 := by decide +kernel
theorem mac_fact : macL [] [] ≠ z32 := by
  intro h
  have := mac_nothing
  rw [h] at this
  exact absurd this (by decide)
theorem z32_lit : (cellsB z32).toArray = #[.int .u8 0, .int .u8 0, .int .u8 0, .int .u8 0, .int .u8 0, .int .u8 0, .int .u8 0, .int .u8 0, .int .u8 0, .int .u8 0, .int .u8 0, .int .u8 0, .int .u8 0, .int .u8 0, .int .u8 0, .int .u8 0, .int .u8 0, .int .u8 0, .int .u8 0, .int .u8 0, .int .u8 0, .int .u8 0, .int .u8 0, .int .u8 0, .int .u8 0, .int .u8 0, .int .u8 0, .int .u8 0, .int .u8 0, .int .u8 0, .int .u8 0, .int .u8 0] := by kernel_rfl
theorem run_same_z (D : List UInt8) (h : D.length = 32) (hz : D ≠ z32) (w : World) : (Op.equalIn 10000 25 (.agg (cellsB D).toArray) (.agg #[.int .u8 0, .int .u8 0, .int .u8 0, .int .u8 0, .int .u8 0, .int .u8 0, .int .u8 0, .int .u8 0, .int .u8 0, .int .u8 0, .int .u8 0, .int .u8 0, .int .u8 0, .int .u8 0, .int .u8 0, .int .u8 0, .int .u8 0, .int .u8 0, .int .u8 0, .int .u8 0, .int .u8 0, .int .u8 0, .int .u8 0, .int .u8 0, .int .u8 0, .int .u8 0, .int .u8 0, .int .u8 0, .int .u8 0, .int .u8 0, .int .u8 0, .int .u8 0])).run Tryd.prog w = .ok false w := by
  rw [← z32_lit, run_same w D z32 h rfl, decide_eq_false hz]
theorem wmac_nothing (w : World) (G : Tab w) : ∃ D0 : List UInt8, D0.length = 32 ∧ D0 ≠ z32 ∧
    Calls Tryd.prog 14 #[.slice none 0 0, .slice none 0 0] w fun e w' => e = .returned (digestV D0) ∧ Below w.heap.size w w' :=
  ⟨macL [] [], macL_length [] [], mac_fact, wmac_any none 0 0 [] none 0 0 [] w G (Row.nil w) (Row.nil w) (by omega) (by omega) (by omega) (by omega)⟩
end Go.Proofs.YtlekbfbhkgnpjaaDoor
