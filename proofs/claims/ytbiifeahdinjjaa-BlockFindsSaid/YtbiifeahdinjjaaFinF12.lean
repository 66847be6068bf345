/- BlockFinds in the row's form. -/
import Derived.Test.YtbiifeahdinjjaaFi12
import Derived.Test.YtbiifeahdinjjaaBnd12
import Derived.Test.YtbiifeahdinjjaaLaw12
namespace Go.Proofs.Ytbiifeahdinjjaa
open Go.RowKit Go.Proofs Go.Proofs.Pk

theorem findsF (K : BkK) (ad : Option Addr) (len cap : Nat) (l : List MEnt) (k : Txt) (s : Int) (w : World) (h0 : EntsW w ad len l) (hb : BndE ad len cap) (hs : (k.length : Int) ≤ 140737488351232) (hf : -9223372036854775808 ≤ s ∧ s ≤ 9223372036854775807) :
    Calls Try.prog 4 #[.slice ad len cap, .string ⟨k.toArray⟩, .int .i64 s] w fun e w' => e = .returned (.bool true) ∧ Below w.heap.size w w' := (finds12 K ad len cap l k s w h0 (by have := hb.2.2.1; omega) hs hf).mono fun _ _ h => below_of h

end Go.Proofs.Ytbiifeahdinjjaa
