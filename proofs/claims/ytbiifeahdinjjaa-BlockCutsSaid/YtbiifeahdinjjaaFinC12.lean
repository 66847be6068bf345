/- BlockCuts, BlockParts in the rows' form. -/
import Derived.Test.YtbiifeahdinjjaaCu12
import Derived.Test.YtbiifeahdinjjaaBnd12
import Derived.Test.YtbiifeahdinjjaaLaw12
namespace Go.Proofs.Ytbiifeahdinjjaa
open Go.RowKit Go.Proofs Go.Proofs.Pk

theorem cutsF (K : BkK) (ad : Option Addr) (len cap : Nat) (l : List MEnt) (cut : Int) (b : Txt) (w : World) (h0 : EntsW w ad len l) (hb : BndE ad len cap) (hf : -9223372036854775808 ≤ cut ∧ cut ≤ 9223372036854775807) (hs : (b.length : Int) ≤ 140737488351232) :
    Calls Try.prog 6 #[.slice ad len cap, .int .i64 cut, .string ⟨b.toArray⟩] w fun e w' => e = .returned (.bool true) ∧ Below w.heap.size w w' := (cuts12 K ad len cap l cut b w h0 hb.2.2.1 hs hf).mono fun _ _ h => below_of h
theorem partsF (K : BkK) (ad : Option Addr) (len cap : Nat) (l : List MEnt) (at0 : Int) (w : World) (h0 : EntsW w ad len l) (hb : BndE ad len cap) (hf : -9223372036854775808 ≤ at0 ∧ at0 ≤ 9223372036854775807) :
    Calls Try.prog 7 #[.slice ad len cap, .int .i64 at0] w fun e w' => e = .returned (.bool true) ∧ Below w.heap.size w w' := (parts12 K ad len cap l at0 w h0 hb hf).mono fun _ _ h => below_of h

end Go.Proofs.Ytbiifeahdinjjaa
