/- A version in a law's own box (layer 14). -/
import Derived.Test.YtjdolimeibpacaaEx14
import Derived.Test.YtjdolimeibpacaaEs14
import Derived.Test.YtjdolimeibpacaaVbx
