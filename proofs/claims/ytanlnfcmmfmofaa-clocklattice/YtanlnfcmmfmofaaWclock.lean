/- The contracts of package clock, all together. -/
import Derived.Test.YtanlnfcmmfmofaaWclkk
import Derived.Test.YtanlnfcmmfmofaaWclkj
import Derived.Test.YtanlnfcmmfmofaaWclkb
