/- The landed program keeps the lesser contract of layer 14. -/
import Derived.Test.YtjdolimeibpacaaGreatVnB
import Derived.Test.YtjdolimeibpacaaGreatVg14
import Derived.Test.YtjdolimeibpacaaGreatVk14
import Derived.Test.YtjdolimeibpacaaGreatVn14
namespace Go.Proofs.YtjdolimeibpacaaGreat
open Go.RowKit Go.Proofs Go.Proofs.Pk
set_option maxRecDepth 10000

theorem vnB : VnB 140737488355328 where
  right := fun w ad len cap ad2 len2 cap2 v h => right14p ad len cap ad2 len2 cap2 v w h.x
  apply := fun w ad len cap ad2 len2 cap2 v bd bl bc bd2 bl2 bc2 bd3 bl3 bc3 bd4 bl4 bc4 e h he => apply14p ad len cap ad2 len2 cap2 v bd bl bc bd2 bl2 bc2 bd3 bl3 bc3 bd4 bl4 bc4 e w h he
  encode := fun w bd bl bc bd2 bl2 bc2 bd3 bl3 bc3 bd4 bl4 bc4 e he => encode14 bd bl bc bd2 bl2 bc2 bd3 bl3 bc3 bd4 bl4 bc4 e w he
  decode := fun b w hb => decode14 b w hb
  live := fun w ad len cap ad2 len2 cap2 v h => (liveP14 ad len cap ad2 len2 cap2 v.1 v.2.1 v.2.2 w h.x).mono (by
    rintro r w' ⟨ad, cap, L, rfl, h1, h2, h3, h4⟩
    exact ⟨ad, _, cap, L, rfl, h1, ⟨h2.trans List.perm_append_comm, h3⟩, h4⟩)

end Go.Proofs.YtjdolimeibpacaaGreat
