/- The lesser contract of definitions that the laws of layer 19 want: whether one is right, how many commands it makes. -/
import Derived.Test.YtgjblcjoglaldaaDfX
namespace Go.Proofs.Ytgjblcjoglaldaa
open Go.RowKit Go.Proofs Go.Proofs.Pk
set_option maxRecDepth 10000

structure DfJ : Prop where
  right : ∀ (w : World) (ad : Option Addr) (len cap : Nat) (d : DefV), DefW w ad len cap d → Calls Try.prog 11 #[defC d.1 ad len cap] w fun e w' => e = .returned (.bool (rightD d)) ∧ Kept (fun _ => False) w w'
  tries : ∀ (w : World) (ad : Option Addr) (len cap : Nat) (d : DefV), DefW w ad len cap d → Calls Try.prog 13 #[defC d.1 ad len cap] w fun e w' => e = .returned (.int .i64 (triesD d)) ∧ Kept (fun _ => False) w w'

end Go.Proofs.Ytgjblcjoglaldaa
