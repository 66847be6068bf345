/- A law of layer 14, in the row's form. -/
import Derived.Test.YtjdolimeibpacaaUn14
import Derived.Test.YtjdolimeibpacaaLaw14
namespace Go.Proofs.Ytjdolimeibpacaa
open Go.RowKit Go.Proofs Go.Proofs.Pk

theorem below_of {e : Ending} {w w' : World} (h : e = .returned (.bool true) ∧ Kept (fun _ => False) w w') : e = .returned (.bool true) ∧ Below w.heap.size w w' := ⟨h.1, h.2.below (Nat.le_refl _) (fun _ f => f.elim)⟩
theorem undoF {N : Int} (K : VnK N) (ad : Option Addr) (len cap : Nat) (ad2 : Option Addr) (len2 cap2 : Nat) (v : VerV) (aa : Option Addr) (la ca : Nat) (add : List MetaV) (aj : Option Addr) (lj cj : Nat) (logs : List Int) (w : World)
    (h0 : VerW w ad len cap ad2 len2 cap2 v) (h1 : MetasW w aa la add) (h2 : BndM aa la ca) (h3 : Ints w aj lj logs) (h4 : BndI aj lj cj logs) :
    Calls Try.prog 5 #[verC ad len cap ad2 len2 cap2 v.2.2, .slice aa la ca, .slice aj lj cj] w fun e w' => e = .returned (.bool true) ∧ Below w.heap.size w w' := (undo14 K ad len cap ad2 len2 cap2 v aa la ca add aj lj cj logs w h0 h1 h2 h3 h4).mono fun _ _ h => below_of h
end Go.Proofs.Ytjdolimeibpacaa
