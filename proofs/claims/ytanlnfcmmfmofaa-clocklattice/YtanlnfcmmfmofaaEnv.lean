/- What the program's functions want of the world: the table of rounds, where the seat reaches it. -/
import Derived.Test.YtanlnfcmmfmofaaBase
namespace Go.Proofs.Ytanlnfcmmfmofaa
open Go.RowKit
set_option linter.unusedVariables false
def Env (w : World) : Prop := w = w
theorem Env.below {w w' : World} (h : Env w) (hb : Below w.heap.size w w') : Env w' := rfl
end Go.Proofs.Ytanlnfcmmfmofaa
