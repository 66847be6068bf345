/- BlockBytes in the row's form. -/
import Derived.Test.YtbiifeahdinjjaaBy12
import Derived.Test.YtbiifeahdinjjaaBnd12
import Derived.Test.YtbiifeahdinjjaaLaw12
namespace Go.Proofs.Ytbiifeahdinjjaa
open Go.RowKit Go.Proofs Go.Proofs.Pk

theorem bytesF (K : BkK) (ad : Option Addr) (len cap : Nat) (l : List MEnt) (b : Txt) (w : World) (h0 : EntsW w ad len l) (hb : BndE ad len cap) (hs : (b.length : Int) ≤ 140737488351232) :
    Calls Try.prog 3 #[.slice ad len cap, .string ⟨b.toArray⟩] w fun e w' => e = .returned (.bool true) ∧ Below w.heap.size w w' := (bytes12 K ad len cap l b w h0 hb.2.2.1 hs).mono fun _ _ h => below_of h

end Go.Proofs.Ytbiifeahdinjjaa
