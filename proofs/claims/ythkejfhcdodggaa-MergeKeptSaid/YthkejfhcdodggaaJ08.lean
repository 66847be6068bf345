/- BkJ. -/
import Derived.Test.YthkejfhcdodggaaJ02
import Derived.Test.YthkejfhcdodggaaJ05

/- The lesser contract of the program's blocks: asked whether a list is sorted, and for an entry. -/
namespace Go.Proofs.Ythkejfhcdodggaa
open Go.RowKit Go.Proofs Go.Proofs.Pk
set_option maxRecDepth 10000

structure BkJ : Prop where
  sorted : ∀ (w : World) (ad : Option Addr) (len cap : Nat) (l : List MEnt), EntsW w ad len l → (len : Int) ≤ 140737488351232 →
    Calls Try.prog 19 #[.slice ad len cap] w fun e w' => e = .returned (.bool (sortB l)) ∧ Kept (fun _ => False) w w'
  find : ∀ (w : World) (ad : Option Addr) (len cap : Nat) (T : List MEnt) (k : Txt) (s : Int), EntsW w ad len T → (len : Int) ≤ 140737488351232 → (k.length : Int) ≤ 140737488351232 → FitN s →
    Calls Try.prog 20 #[.slice ad len cap, .string ⟨k.toArray⟩, .int .i64 s] w fun r w' => r = .returned (.tuple #[.agg (entC (getM T k s).1).toArray, .bool (getM T k s).2]) ∧ Kept (fun _ => False) w w'

end Go.Proofs.Ythkejfhcdodggaa
