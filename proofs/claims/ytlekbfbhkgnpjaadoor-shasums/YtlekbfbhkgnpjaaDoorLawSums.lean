/- The law ShaSums: the program's digest is the document's. -/
import Derived.Test.YtlekbfbhkgnpjaaDoorLknown
import Derived.Test.YtlekbfbhkgnpjaaDoorRsum
import Derived.Test.YtlekbfbhkgnpjaaDoorSame
namespace Go.Proofs.YtlekbfbhkgnpjaaDoor
open Go.RowKit
set_option linter.unusedVariables false
set_option linter.unusedSimpArgs false

set_option maxRecDepth 100000 in
set_option maxHeartbeats 1000000 in
theorem sums_walk (a : Option Addr) (n c : Nat) (l : List UInt8) (w : World) (G : Tab w) (R : Row w a n l) (hc : n ≤ c) (hn : n ≤ 140737488351232) :
    Calls Tryd.prog 3 #[.slice a n c] w fun e w' => e = .returned (.bool true) ∧ Below w.heap.size w w' := by
  have HG : Hid (Tab w ∧ Row w a n l) := ⟨G, R⟩
  clear G R
  go_enter Tryd.func3, Tryd.ntmps3
  go_wp2_with fail
  refine (lknown_any w HG.out.1).mono ?_
  rintro e w1 ⟨rfl, hb1⟩
  go_wp2_with fail
  refine (wsum_any a n c l w1 (HG.out.1.below hb1) (HG.out.2.below hb1) hc (by omega)).mono ?_
  rintro e w2 ⟨rfl, hb2⟩
  have hb2 := below_trans hb1 hb2
  clear hb1
  go_wp2_with fail
  refine (rsum_any a n c l w2 (HG.out.2.below hb2) (by omega)).mono ?_
  rintro e w3 ⟨rfl, hb3⟩
  have hb3 := below_trans hb2 hb3
  clear hb2
  have hq := run_same_true (shaL l) (shaL_length l)
  generalize shaL l = D at *
  go_wp2
  go_ret
  exact ⟨rfl, hb3⟩
end Go.Proofs.YtlekbfbhkgnpjaaDoor
