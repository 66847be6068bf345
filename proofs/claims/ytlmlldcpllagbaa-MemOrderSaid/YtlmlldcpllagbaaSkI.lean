/- The landed list keeps the contract that layers above want (SkJ). -/
import Derived.Test.YtlmlldcpllagbaaPu9
import Derived.Test.YtlmlldcpllagbaaLa9
namespace Go.Proofs.Ytlmlldcpllagbaa
open Go.RowKit Go.Proofs Go.Proofs.Pk
set_option maxRecDepth 10000

theorem skJ : SkJ SkAt where
  lt := by
    rintro w B l E X ⟨P, h, rfl⟩ k ⟨p, hp, rfl⟩
    exact ⟨h.low p hp, h.lt p hp⟩
  ok := by
    rintro w B l E X ⟨P, h, rfl⟩
    exact h.ok
  kept := by
    rintro w w' B l E X Y ⟨P, h, rfl⟩ hk hd
    exact ⟨P, h.kept hk fun p hp => hd _ ⟨p, hp, rfl⟩, rfl⟩
  new := newP
  put := by
    rintro w B l E X ⟨P, h, rfl⟩ hl k v ht hf
    exact (putP h hl k v ht hf).mono fun e w' ⟨h1, P', h2, h3, h4⟩ => ⟨h1, _, ⟨P', h2, rfl⟩, h3, h4⟩
  seek := by
    rintro w B l E X ⟨P, h, rfl⟩ _ k
    exact seekP h k
  lane := by
    rintro w B l E X ⟨P, h, rfl⟩ hl hh _
    exact laneP h hl hh
  len := by
    rintro w B l E X ⟨P, h, rfl⟩ _
    exact lenP h

end Go.Proofs.Ytlmlldcpllagbaa
