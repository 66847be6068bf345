/- The laws DefineBytes (second form), DefineBack, DefineSpoils, DefineTries, in the row's form. -/
import Derived.Test.YtgjblcjoglaldaaFinT18
import Derived.Test.YtgjblcjoglaldaaBy18
import Derived.Test.YtgjblcjoglaldaaBk18
import Derived.Test.YtgjblcjoglaldaaSp18
import Derived.Test.YtgjblcjoglaldaaTr18
namespace Go.Proofs.Ytgjblcjoglaldaa
open Go.RowKit Go.Proofs Go.Proofs.Pk

theorem bytesF {N : Nat} (hN : 140737489000000 ≤ N) (K : DfK N) (ad : Option Addr) (len cap : Nat) (d : DefV) (b : List UInt8) (w : World) (h0 : DefA w ad len cap d) (hs : (b.length : Int) ≤ 1048576) :
    Calls Try.prog 4 #[defC d.1 ad len cap, .string ⟨b.toArray⟩] w fun e w' => e = .returned (.bool true) ∧ Below w.heap.size w w' :=
  (bytes18 (by omega) K ad len cap d b w (by omega) h0.1).mono fun _ _ h => below_of18 h
theorem backF {N : Nat} (hN : 140737489000000 ≤ N) (K : DfK N) (ad : Option Addr) (len cap : Nat) (d : DefV) (b : List UInt8) (cut : Int) (more : List UInt8) (w : World) (h0 : DefA w ad len cap d) (hb : (b.length : Int) ≤ 140737488351232) (hf : -9223372036854775808 ≤ cut ∧ cut ≤ 9223372036854775807) (hm : (more.length : Int) ≤ 140737488351232) :
    Calls Try.prog 5 #[defC d.1 ad len cap, .string ⟨b.toArray⟩, .int .i64 cut, .string ⟨more.toArray⟩] w fun e w' => e = .returned (.bool true) ∧ Below w.heap.size w w' :=
  (back18 hN K ad len cap d b cut more w hb hm hf h0.1).mono fun _ _ h => below_of18 h
theorem spoilsF {N : Nat} (K : DfK N) (ad : Option Addr) (len cap : Nat) (d : DefV) (wh ho : Int) (w : World) (h0 : DefA w ad len cap d) (h1 : -9223372036854775808 ≤ wh ∧ wh ≤ 9223372036854775807) (h2 : -9223372036854775808 ≤ ho ∧ ho ≤ 9223372036854775807) :
    Calls Try.prog 6 #[defC d.1 ad len cap, .int .i64 wh, .int .i64 ho] w fun e w' => e = .returned (.bool true) ∧ Below w.heap.size w w' :=
  (spoils18 K ad len cap d wh ho w h1 h2 h0).mono fun _ _ h => below_of18 h
theorem triesF {N : Nat} (K : DfK N) (ad : Option Addr) (len cap : Nat) (d : DefV) (rt tm : Int) (w : World) (h0 : DefA w ad len cap d) (h1 : -9223372036854775808 ≤ rt ∧ rt ≤ 9223372036854775807) (h2 : -9223372036854775808 ≤ tm ∧ tm ≤ 9223372036854775807) :
    Calls Try.prog 7 #[defC d.1 ad len cap, .int .i64 rt, .int .i64 tm] w fun e w' => e = .returned (.bool true) ∧ Below w.heap.size w w' :=
  (tries18 K ad len cap d rt tm w h1 h2 h0).mono fun _ _ h => below_of18 h

end Go.Proofs.Ytgjblcjoglaldaa
