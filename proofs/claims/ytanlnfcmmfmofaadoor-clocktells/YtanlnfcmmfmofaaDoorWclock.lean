/- The contracts of package clock, all together. -/
import Derived.Test.YtanlnfcmmfmofaaDoorWclkk
import Derived.Test.YtanlnfcmmfmofaaDoorWclkj
import Derived.Test.YtanlnfcmmfmofaaDoorWclkb
