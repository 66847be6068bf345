/- The contract of merge holds of the landed program. -/
import Derived.Test.YthkejfhcdodggaaMe15
import Derived.Test.YthkejfhcdodggaaFl15
import Derived.Test.YthkejfhcdodggaaJ19
namespace Go.Proofs.Ythkejfhcdodggaa
open Go.RowKit Go.Proofs Go.Proofs.Pk

theorem mgK : MgK where
  merge := fun w ad len cap ls h hl hls => pMerge bkJ w ad len cap ls h hl hls
  fold := fun w ad len cap l kd kl kc ks b h hl hc hi hf hkd hkl => pFold bkJ w ad len cap l kd kl kc ks b h hl hc hi hf hkd hkl
  see := fun w ad len cap l s h hl hc hs => pSee bkJ w ad len cap l s h hl hc hs

end Go.Proofs.Ythkejfhcdodggaa
