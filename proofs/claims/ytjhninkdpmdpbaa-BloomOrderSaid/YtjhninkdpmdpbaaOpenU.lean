/- A slice of texts among a law's arguments: where it lies nowhere it has no room (kind U of mklaw.py). -/
import Derived.Test.YtjhninkdpmdpbaaOpenS
namespace Go.Proofs.Ytjhninkdpmdpbaa
open Go.ChangeShapes Go.WideShapes Go.ChangeAt Go.RowKit Go.Proofs.Pk
theorem nil_capS {W : World} {base : Nat} {r : Reach} {ad : Option Addr} {len cap : Nat} (h : Value.okWide Try.prog W r base 22 (.slice ad len cap)) (h0 : ad = none) : cap = 0 := by
  subst h0
  simp only [Value.okWide, Try.underlying22, Cell.okWide] at h
  match len, cap, h with
  | 0, 0, _ => rfl

end Go.Proofs.Ytjhninkdpmdpbaa
