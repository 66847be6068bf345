/- The law MemSize in the form that its row wants, over the contract of the program's table, which the landed table keeps. -/
import Derived.Test.YtlmlldcpllagbaaSize10
import Derived.Test.YtlmlldcpllagbaaAl10
namespace Go.Proofs.Ytlmlldcpllagbaa
open Go.RowKit Go.Proofs Go.Proofs.Pk

theorem sizeF {At : MmOf} (K : MmK At) (ad : Option Addr) (len cap : Nat) (l : List MEnt) (w : World) (h0 : EntsW w ad len l) (_hc : len ≤ cap) :
    Calls Try.prog 6 #[.slice ad len cap] w fun e w' => e = .returned (.bool true) ∧ Below w.heap.size w w' := size10 K ad len cap l w h0

end Go.Proofs.Ytlmlldcpllagbaa
