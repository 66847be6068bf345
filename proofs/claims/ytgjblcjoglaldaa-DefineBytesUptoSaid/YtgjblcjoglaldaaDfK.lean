/- The contract that the laws of layer 18 want of the program's definitions, whatever they are made by. -/
import Derived.Test.YtgjblcjoglaldaaDfX
namespace Go.Proofs.Ytgjblcjoglaldaa
open Go.RowKit Go.Proofs Go.Proofs.Pk
set_option maxRecDepth 10000

/-- What Decode answers: its steps lie in a row of their own. -/
def DecK18 (w : World) (r : DefV × Bool) (e : Ending) (w' : World) : Prop :=
  ∃ (ad : Option Addr) (cap : Nat), e = .returned (.tuple #[defC r.1.1 ad r.1.2.length cap, errV 49 (if r.2 = true then 0 else 3)]) ∧ w'.ownsRow w.heap.size 43 2 (.slice ad r.1.2.length cap) r.1.2.length (r.1.2.flatMap stC) ∧ (∀ s ∈ r.1.2, FitSt s) ∧ Kept (fun _ => False) w w'
structure DfK (N : Nat) : Prop where
  name : ∀ (w : World) (s : DTxt), (s.length : Int) ≤ 140737488351232 → Calls Try.prog 9 #[.string ⟨s.toArray⟩] w fun e w' => e = .returned (.bool (nameD s)) ∧ Kept (fun _ => False) w w'
  right : ∀ (w : World) (ad : Option Addr) (len cap : Nat) (d : DefV), DefW w ad len cap d → Calls Try.prog 11 #[defC d.1 ad len cap] w fun e w' => e = .returned (.bool (rightD d)) ∧ Kept (fun _ => False) w w'
  encode : ∀ (w : World) (ad : Option Addr) (len cap : Nat) (d : DefV), DefW w ad len cap d →
    Calls Try.prog 15 #[defC d.1 ad len cap] w fun e w' => e = .returned (.tuple #[.string ⟨(encD d).1.toArray⟩, errV 49 (if (encD d).2 = true then 0 else 1)]) ∧ Kept (fun _ => False) w w'
  decode : ∀ (w : World) (b : DTxt), b.length ≤ N → Calls Try.prog 18 #[.string ⟨b.toArray⟩] w (DecK18 w (decD b))
  tries : ∀ (w : World) (ad : Option Addr) (len cap : Nat) (d : DefV), DefW w ad len cap d → Calls Try.prog 13 #[defC d.1 ad len cap] w fun e w' => e = .returned (.int .i64 (triesD d)) ∧ Kept (fun _ => False) w w'

end Go.Proofs.Ytgjblcjoglaldaa
