/- What the program's functions want of the world: the table of rounds, where the seat reaches it. -/
import Derived.Test.YtbpkhpkllokbhaaDoorWafter
namespace Go.Proofs.YtbpkhpkllokbhaaDoor
open Go.RowKit
set_option linter.unusedVariables false
def Env (w : World) : Prop := Tab w
theorem Env.below {w w' : World} (h : Env w) (hb : Below w.heap.size w w') : Env w' := Tab.below h hb
end Go.Proofs.YtbpkhpkllokbhaaDoor
