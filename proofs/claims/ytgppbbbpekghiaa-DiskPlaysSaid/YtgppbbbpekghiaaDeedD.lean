/- A deed among a law's arguments. -/
import Derived.Test.YtgppbbbpekghiaaPlayD
namespace Go.Proofs.Ytgppbbbpekghiaa
open Go.RowKit Go.Proofs Go.Proofs.Pk
set_option maxRecDepth 10000

def FitI (n : Int) : Prop := -9223372036854775808 ≤ n ∧ n ≤ 9223372036854775807
/-- A deed among the arguments. -/
structure DeedAt (w : World) (b o : Nat) (u : DeedV) : Prop where
  row : w.rangeAt b o (dc u)
  keeps : Ints w u.kad u.klen u.ks
  fit : FitI u.kind ∧ FitI u.n ∧ FitI u.torn ∧ FitI u.bytes
def Deeds (w : World) (ad : Option Addr) (len : Nat) (l : List DeedV) : Prop :=
  l.length = len ∧ (l = [] ∨ ∃ b off, ad = some ⟨b, off, none⟩ ∧ b < w.heap.size ∧ ∀ i (h : i < l.length), DeedAt w b (off + i * 6) l[i])


end Go.Proofs.Ytgppbbbpekghiaa
