/- The laws of layer 8, at the program's log. -/
import Derived.Test.YtfbgagpihhbllaaGreatDoorJ36
import Derived.Test.YtfbgagpihhbllaaGreatDoorApart8
import Derived.Test.YtfbgagpihhbllaaGreatDoorRoom8
namespace Go.Proofs.YtfbgagpihhbllaaGreatDoor
open Go.RowKit Go.Proofs Go.Proofs.Pk
theorem apartK (ad : Option Addr) (len cap : Nat) (l : List (List UInt8)) (w : World) (hg : ErrTy w) (h0 : Strs w ad len l) (b0 : (len : Int) ≤ 140737488351232 ∧ ∀ s ∈ l, s.length ≤ 140737488351232) :
    Calls Tryz.prog 7 #[.slice ad len cap] w fun e w' => e = .returned (.bool true) ∧ Below w.heap.size w w' := apartW walK ad len cap l w hg h0 b0
theorem roomK (many : Int) (ad : Option Addr) (len cap : Nat) (l : List (List UInt8)) (w : World) (hg : ErrTy w) (hmf : -9223372036854775808 ≤ many ∧ many ≤ 9223372036854775807) (h0 : Strs w ad len l) (b0 : (len : Int) ≤ 140737488351232 ∧ ∀ s ∈ l, s.length ≤ 140737488351232) :
    Calls Tryz.prog 5 #[.int .i64 many, .slice ad len cap] w fun e w' => e = .returned (.bool true) ∧ Below w.heap.size w w' := roomW8 walK many ad len cap l w hg hmf h0 b0
end Go.Proofs.YtfbgagpihhbllaaGreatDoor
