/- The law DefineTells, in the row's form. -/
import Derived.Test.YtgjblcjoglaldaaTa18
namespace Go.Proofs.Ytgjblcjoglaldaa
open Go.RowKit Go.Proofs Go.Proofs.Pk

theorem below_of18 {e : Ending} {w w' : World} (h : e = .returned (.bool true) ∧ Kept (fun _ => False) w w') : e = .returned (.bool true) ∧ Below w.heap.size w w' := ⟨h.1, h.2.below (Nat.le_refl _) (fun _ f => f.elim)⟩
theorem tellsF {N : Nat} (K : DfK N) (s : List UInt8) (ad : Option Addr) (len cap : Nat) (d : DefV) (w : World) (hs : (s.length : Int) ≤ 140737488351232) (h0 : DefA w ad len cap d) :
    Calls Try.prog 3 #[.string ⟨s.toArray⟩, defC d.1 ad len cap] w fun e w' => e = .returned (.bool true) ∧ Below w.heap.size w w' :=
  (tells18 K s ad len cap d w hs h0.1).mono fun _ _ h => below_of18 h

end Go.Proofs.Ytgjblcjoglaldaa
