/- Package root: what its functions answer, together. -/
import Derived.Test.YtbfdhonmmoikdaaRtV
import Derived.Test.YtbfdhonmmoikdaaRtC
import Derived.Test.YtbfdhonmmoikdaaRtG
namespace Go.Proofs.Ytbfdhonmmoikdaa
open Go.RowKit Go.Proofs Go.Proofs.Pk

end Go.Proofs.Ytbfdhonmmoikdaa
