/- Layer 9: what its laws are proved of. -/
import Derived.Test.YtiglkadejbjdcaaFin9
import Derived.Test.YtiglkadejbjdcaaSkL
