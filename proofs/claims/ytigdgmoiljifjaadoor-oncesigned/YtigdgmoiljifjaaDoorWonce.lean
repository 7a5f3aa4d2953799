/- The contracts of package once: Public, Sign, Recover. -/
import Derived.Test.YtigdgmoiljifjaaDoorEnv
import Derived.Test.YtigdgmoiljifjaaDoorWoncep
import Derived.Test.YtigdgmoiljifjaaDoorWsign
import Derived.Test.YtigdgmoiljifjaaDoorWrec
import Derived.Test.YtigdgmoiljifjaaDoorRonces
import Derived.Test.YtigdgmoiljifjaaDoorRoncek
namespace Go.Proofs.YtigdgmoiljifjaaDoor
theorem once_here : True := trivial
end Go.Proofs.YtigdgmoiljifjaaDoor
