/- The contract of layer 11, proved of the program. -/
import Derived.Test.YtjhninkdpmdpbaaMp11
import Derived.Test.YtjhninkdpmdpbaaFin11
namespace Go.Proofs.Ytjhninkdpmdpbaa
open Go.RowKit Go.Proofs Go.Proofs.Pk

theorem blK : BlK where
  hash := fun k w h => (pHash k w h).mono (by rintro e w' ⟨rfl, rfl⟩; exact ⟨rfl, Kept.refl _ _⟩)
  make := fun w ad len cap ks bits h hs hb hl => pMake ad len cap ks bits w h hs hb hl
  may := fun f k w hf hk => (pMay f k w hf hk).mono (by rintro e w' ⟨rfl, hb⟩; exact ⟨rfl, Kept.of_below _ hb⟩)
#print axioms blK

end Go.Proofs.Ytjhninkdpmdpbaa
