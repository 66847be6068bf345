/- The law MemNewest in the form that its row wants, over the contract of the program's table, which the landed table keeps. -/
import Derived.Test.YtlmlldcpllagbaaNewest10
import Derived.Test.YtlmlldcpllagbaaAl10
namespace Go.Proofs.Ytlmlldcpllagbaa
open Go.RowKit Go.Proofs Go.Proofs.Pk

theorem newestF {At : MmOf} (K : MmK At) (ad : Option Addr) (len cap : Nat) (l : List MEnt) (key : List UInt8) (seq : Int) (w : World) (h0 : EntsW w ad len l) (_hc : len ≤ cap) (_hk : (key.length : Int) ≤ 140737488351232) (hf : -9223372036854775808 ≤ seq ∧ seq ≤ 9223372036854775807) :
    Calls Try.prog 4 #[.slice ad len cap, .string ⟨key.toArray⟩, .int .i64 seq] w fun e w' => e = .returned (.bool true) ∧ Below w.heap.size w w' := newest10 K ad len cap l key seq w h0 hf

end Go.Proofs.Ytlmlldcpllagbaa
