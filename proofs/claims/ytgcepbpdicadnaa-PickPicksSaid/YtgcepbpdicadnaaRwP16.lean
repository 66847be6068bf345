/- Layer 16: what its rows stand on. No condition. -/
import Derived.Test.YtgcepbpdicadnaaJ29
import Derived.Test.YtgcepbpdicadnaaJ26
namespace Go.Proofs.Ytgcepbpdicadnaa

end Go.Proofs.Ytgcepbpdicadnaa
