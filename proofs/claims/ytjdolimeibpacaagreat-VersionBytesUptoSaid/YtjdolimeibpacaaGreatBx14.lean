/- A version in a law's own box (layer 14). -/
import Derived.Test.YtjdolimeibpacaaGreatEx14
import Derived.Test.YtjdolimeibpacaaGreatEs14
import Derived.Test.YtjdolimeibpacaaGreatVbx
