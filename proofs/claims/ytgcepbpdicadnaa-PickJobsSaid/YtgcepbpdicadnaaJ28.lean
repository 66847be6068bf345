/- FinJ16. -/
import Derived.Test.YtgcepbpdicadnaaPj16
import Derived.Test.YtgcepbpdicadnaaJ13

/- The law PickJobs, in the row's form. -/
namespace Go.Proofs.Ytgcepbpdicadnaa
open Go.RowKit Go.Proofs Go.Proofs.Pk

theorem jobsF (K : PkK) (J : VnJ) (ad : Option Addr) (len cap : Nat) (ad2 : Option Addr) (len2 cap2 : Nat) (v : VerV) (w : World) (h0 : VerW w ad len cap ad2 len2 cap2 v) :
    Calls Try.prog 5 #[verC ad len cap ad2 len2 cap2 v.2.2] w fun e w' => e = .returned (.bool true) ∧ Below w.heap.size w w' :=
  (jobs16 K J ad len cap ad2 len2 cap2 v w h0).mono fun _ _ h => below_of16 h

end Go.Proofs.Ytgcepbpdicadnaa
