/- The laws of layer 15 in the rows' form, and the contract that the landed program keeps: what the rows stand on. -/
import Derived.Test.YthkejfhcdodggaaFin15
import Derived.Test.YthkejfhcdodggaaLaw15
namespace Go.Proofs.Ythkejfhcdodggaa

end Go.Proofs.Ythkejfhcdodggaa
