/- WalTorn, at the program's log, Mark and ReadMark. -/
import Derived.Test.YtfbgagpihhbllaaGreatDoorJ36
import Derived.Test.YtfbgagpihhbllaaGreatDoorTorn8
namespace Go.Proofs.YtfbgagpihhbllaaGreatDoor
open Go.RowKit Go.Proofs Go.Proofs.Pk
theorem tornK (id index size cut : Int) (w : World) (hg : ErrTy w) (h0 : -9223372036854775808 ≤ id ∧ id ≤ 9223372036854775807) (h1 : -9223372036854775808 ≤ index ∧ index ≤ 9223372036854775807) (h2 : -9223372036854775808 ≤ size ∧ size ≤ 9223372036854775807) (h3 : -9223372036854775808 ≤ cut ∧ cut ≤ 9223372036854775807) :
    Calls Tryz.prog 6 #[.int .i64 id, .int .i64 index, .int .i64 size, .int .i64 cut] w fun e w' => e = .returned (.bool true) ∧ Below w.heap.size w w' := tornW walK markK id index size cut w hg h0 h1 h2 h3
end Go.Proofs.YtfbgagpihhbllaaGreatDoor
