/- Layer 18's landed program keeps the contract of definitions. -/
import Derived.Test.YtgjblcjoglaldaaPd18
import Derived.Test.YtgjblcjoglaldaaPe18
import Derived.Test.YtgjblcjoglaldaaFinL18
import Derived.Test.YtgjblcjoglaldaaDfJ
namespace Go.Proofs.Ytgjblcjoglaldaa
open Go.RowKit Go.Proofs Go.Proofs.Pk

theorem dfK : DfK 140737489000000 := ⟨fun w s h => pName18 s w h, pRight18, pEncode18, fun w b h => pDecode18 b w h, pTries18⟩
theorem dfJ : DfJ := ⟨pRight18, pTries18⟩

end Go.Proofs.Ytgjblcjoglaldaa
