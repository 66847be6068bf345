/- What the rows of layer 12 know of a slice of entries. -/
import Derived.Test.YtbiifeahdinjjaaOpenA
import Derived.Test.YtbiifeahdinjjaaBkK
namespace Go.Proofs.Ytbiifeahdinjjaa
open Go.RowKit Go.Proofs Go.Proofs.Pk

abbrev BndE (ad : Option Addr) (len cap : Nat) : Prop := FlatE ad ∧ len ≤ cap ∧ (len : Int) * 48 ≤ 140737488351232 ∧ (ad = none → len = 0 ∧ cap = 0)
theorem below_of {e : Ending} {w w' : World} (h : e = .returned (.bool true) ∧ Kept (fun _ => False) w w') : e = .returned (.bool true) ∧ Below w.heap.size w w' := ⟨h.1, h.2.below (Nat.le_refl _) (fun _ f => f.elim)⟩

end Go.Proofs.Ytbiifeahdinjjaa
