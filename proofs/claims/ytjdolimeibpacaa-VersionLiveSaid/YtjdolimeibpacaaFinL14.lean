/- A law of layer 14, in the row's form. -/
import Derived.Test.YtjdolimeibpacaaLv14
import Derived.Test.YtjdolimeibpacaaLaw14
namespace Go.Proofs.Ytjdolimeibpacaa
open Go.RowKit Go.Proofs Go.Proofs.Pk

theorem below_of {e : Ending} {w w' : World} (h : e = .returned (.bool true) ∧ Kept (fun _ => False) w w') : e = .returned (.bool true) ∧ Below w.heap.size w w' := ⟨h.1, h.2.below (Nat.le_refl _) (fun _ f => f.elim)⟩
theorem liveF {N : Int} (K : VnK N) (ad : Option Addr) (len cap : Nat) (ad2 : Option Addr) (len2 cap2 : Nat) (v : VerV) (w : World) (h0 : VerW w ad len cap ad2 len2 cap2 v) :
    Calls Try.prog 6 #[verC ad len cap ad2 len2 cap2 v.2.2] w fun e w' => e = .returned (.bool true) ∧ Below w.heap.size w w' := (live14 K ad len cap ad2 len2 cap2 v w h0).mono fun _ _ h => below_of h
end Go.Proofs.Ytjdolimeibpacaa
