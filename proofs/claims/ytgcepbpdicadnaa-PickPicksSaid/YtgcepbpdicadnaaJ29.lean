/- FinP16. -/
import Derived.Test.YtgcepbpdicadnaaPk16
import Derived.Test.YtgcepbpdicadnaaJ13

/- The law PickPicks, in the row's form. -/
namespace Go.Proofs.Ytgcepbpdicadnaa
open Go.RowKit Go.Proofs Go.Proofs.Pk

theorem picksF (K : PkK) (ad : Option Addr) (len cap : Nat) (ad2 : Option Addr) (len2 cap2 : Nat) (v : VerV) (n : Int) (w : World) (h0 : VerW w ad len cap ad2 len2 cap2 v) (hn : -9223372036854775808 ≤ n ∧ n ≤ 9223372036854775807) :
    Calls Try.prog 3 #[verC ad len cap ad2 len2 cap2 v.2.2, .int .i64 n] w fun e w' => e = .returned (.bool true) ∧ Below w.heap.size w w' :=
  (picks16 K ad len cap ad2 len2 cap2 v n w h0 hn).mono fun _ _ h => below_of16 h

end Go.Proofs.Ytgcepbpdicadnaa
