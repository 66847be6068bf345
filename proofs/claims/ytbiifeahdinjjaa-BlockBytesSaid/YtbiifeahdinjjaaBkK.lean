/- The contract that the laws of layer 12 want of the program's blocks, whatever they are made by. -/
import Derived.Test.YtbiifeahdinjjaaOpenE
import Derived.Test.YtbiifeahdinjjaaBkM
import Derived.Test.YtbiifeahdinjjaaRMr
namespace Go.Proofs.Ytbiifeahdinjjaa
open Go.RowKit Go.Proofs Go.Proofs.Pk
set_option maxRecDepth 10000

/-- What the program's Decode answers: the list lies in a block of its own. -/
def DecK (w : World) (r : List MEnt × Bool) (e : Ending) (w' : World) : Prop :=
  ∃ (ad : Option Addr) (cap : Nat), e = .returned (.tuple #[.slice ad r.1.length cap, errV 45 (if r.2 = true then 0 else 3)]) ∧ w'.ownsRow w.heap.size 37 4 (.slice ad r.1.length cap) r.1.length (cellsM r.1) ∧ (∀ e ∈ r.1, FitN e.2.1) ∧ Kept (fun _ => False) w w'
structure BkK : Prop where
  sorted : ∀ (w : World) (ad : Option Addr) (len cap : Nat) (l : List MEnt), EntsW w ad len l → (len : Int) ≤ 140737488351232 →
    Calls Try.prog 16 #[.slice ad len cap] w fun e w' => e = .returned (.bool (sortB l)) ∧ Kept (fun _ => False) w w'
  encode : ∀ (w : World) (ad : Option Addr) (len cap : Nat) (l : List MEnt), EntsW w ad len l → (len : Int) ≤ 140737488351232 →
    Calls Try.prog 10 #[.slice ad len cap] w fun e w' => e = .returned (.tuple #[.string ⟨(encB l).1.toArray⟩, errV 45 (encB l).2]) ∧ Kept (fun _ => False) w w'
  decode : ∀ (b : Txt) (w : World), (b.length : Int) ≤ 140737489000000 → Calls Try.prog 13 #[.string ⟨b.toArray⟩] w (DecK w (decB b))
  find : ∀ (w : World) (ad : Option Addr) (len cap : Nat) (T : List MEnt) (k : Txt) (s : Int), EntsW w ad len T → (len : Int) ≤ 140737488351232 → (k.length : Int) ≤ 140737488351232 → FitN s →
    Calls Try.prog 18 #[.slice ad len cap, .string ⟨k.toArray⟩, .int .i64 s] w fun r w' => r = .returned (.tuple #[.agg (entC (getM T k s).1).toArray, .bool (getM T k s).2]) ∧ Kept (fun _ => False) w w'
theorem dec_len (b : Txt) : (decB b).1.length ≤ 200 := by
  cases h : (decB b).2 with
  | false => rw [dec_no h]; simp
  | true => exact (enc_ok (dec_iff.1 (show decB b = ((decB b).1, true) from by rw [← h]))).1
theorem bc1 : (encB []) = ([0], 0) := by decide

end Go.Proofs.Ytbiifeahdinjjaa
