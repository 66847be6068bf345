/- The law MemOrder in the form that its row wants, over the contract of the program's table, which the landed table keeps. -/
import Derived.Test.YtlmlldcpllagbaaOrder10
import Derived.Test.YtlmlldcpllagbaaAl10
namespace Go.Proofs.Ytlmlldcpllagbaa
open Go.RowKit Go.Proofs Go.Proofs.Pk

theorem orderF {At : MmOf} (K : MmK At) (ad : Option Addr) (len cap : Nat) (l : List MEnt) (ad1 : Option Addr) (len1 cap1 : Nat) (hs1 : List Int) (ad2 : Option Addr) (len2 cap2 : Nat) (hs2 : List Int) (w : World) (h0 : EntsW w ad len l) (_hc : len ≤ cap)
    (i1 : Ints w ad1 len1 hs1) (b1 : Fit64 hs1 ∧ len1 ≤ cap1 ∧ (len1 : Int) * 8 ≤ 140737488351232 ∧ (ad1 = none → len1 = 0 ∧ cap1 = 0)) (i2 : Ints w ad2 len2 hs2) (b2 : Fit64 hs2 ∧ len2 ≤ cap2 ∧ (len2 : Int) * 8 ≤ 140737488351232 ∧ (ad2 = none → len2 = 0 ∧ cap2 = 0)) :
    Calls Try.prog 5 #[.slice ad len cap, .slice ad1 len1 cap1, .slice ad2 len2 cap2] w fun e w' => e = .returned (.bool true) ∧ Below w.heap.size w w' :=
  order10 K ad len cap l ad1 len1 cap1 hs1 ad2 len2 cap2 hs2 w h0 i1 b1.1 b1.2.1 b1.2.2.1 b1.2.2.2 i2 b2.1 b2.2.1 b2.2.2.1 b2.2.2.2

end Go.Proofs.Ytlmlldcpllagbaa
