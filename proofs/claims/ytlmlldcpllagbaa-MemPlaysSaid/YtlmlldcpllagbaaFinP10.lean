/- The law MemPlays in the form that its row wants, over the contract of the program's table, which the landed table keeps. -/
import Derived.Test.YtlmlldcpllagbaaPlays10
import Derived.Test.YtlmlldcpllagbaaAl10
namespace Go.Proofs.Ytlmlldcpllagbaa
open Go.RowKit Go.Proofs Go.Proofs.Pk

theorem playsF {At : MmOf} (K : MmK At) (hd : Option Addr) (hlen hcap : Nat) (hs : List Int) (ad : Option Addr) (len cap : Nat) (l : List MEnt) (key : List UInt8) (seq : Int) (w : World)
    (i1 : Ints w hd hlen hs) (b1 : Fit64 hs ∧ hlen ≤ hcap ∧ (hlen : Int) * 8 ≤ 140737488351232 ∧ (hd = none → hlen = 0 ∧ hcap = 0)) (h0 : EntsW w ad len l) (_hc : len ≤ cap) (_hk : (key.length : Int) ≤ 140737488351232) (hf : -9223372036854775808 ≤ seq ∧ seq ≤ 9223372036854775807) :
    Calls Try.prog 3 #[.slice hd hlen hcap, .slice ad len cap, .string ⟨key.toArray⟩, .int .i64 seq] w fun e w' => e = .returned (.bool true) ∧ Below w.heap.size w w' := plays10 K hd hlen hcap hs ad len cap l key seq w i1 b1.1 b1.2.2.1 b1.2.2.2 h0 hf

end Go.Proofs.Ytlmlldcpllagbaa
