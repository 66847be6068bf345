/- Law16. -/
import Derived.Test.YtgcepbpdicadnaaYi16
import Derived.Test.YtgcepbpdicadnaaYj16

/- Layer 16's landed program keeps the contracts that its laws ask: Limit, Pick, Cut; a version that is right, a version's level. -/
namespace Go.Proofs.Ytgcepbpdicadnaa
open Go.RowKit Go.Proofs Go.Proofs.Pk
set_option maxRecDepth 10000

theorem pkK : PkK := ⟨fun n w h => pLimit n w h, fun w ad len cap ad2 len2 cap2 v h => pPick w ad len cap ad2 len2 cap2 v h, fun w ad len cap l k h h1 h2 h3 => pCut w ad len cap l k h h1 h2 h3⟩
theorem vnJ : VnJ := ⟨fun w ad len cap ad2 len2 cap2 v h => right14p ad len cap ad2 len2 cap2 v w h.x, fun w ad len cap ad2 len2 cap2 v n h _ => (level16o ad len cap ad2 len2 cap2 v n w h).mono fun e w' he => by
  obtain ⟨a, m, c, h1, h2, _, h4, h5⟩ := he
  obtain ⟨a', c', hv, hM, _⟩ := owns_metas h4 h2.symm (fun m hm => fits_of h.1 m (List.mem_filter.1 hm).1)
  cases hv
  exact ⟨a, m, c, h1, hM, h5⟩⟩

end Go.Proofs.Ytgcepbpdicadnaa
