/- BlockShort in the row's form. -/
import Derived.Test.YtbiifeahdinjjaaSh12
import Derived.Test.YtbiifeahdinjjaaBnd12
import Derived.Test.YtbiifeahdinjjaaLaw12
namespace Go.Proofs.Ytbiifeahdinjjaa
open Go.RowKit Go.Proofs Go.Proofs.Pk

theorem shortF (K : BkK) (ad : Option Addr) (len cap : Nat) (l : List MEnt) (w : World) (h0 : EntsW w ad len l) (hb : BndE ad len cap) :
    Calls Try.prog 8 #[.slice ad len cap] w fun e w' => e = .returned (.bool true) ∧ Below w.heap.size w w' := (short12 K ad len cap l w h0 hb).mono fun _ _ h => below_of h

end Go.Proofs.Ytbiifeahdinjjaa
