/- The lesser contract of the program's versions (layer 14): Right, Apply, Encode, Decode, Live. -/
import Derived.Test.YtjdolimeibpacaaGreatJ04
import Derived.Test.YtjdolimeibpacaaGreatVnL
namespace Go.Proofs.YtjdolimeibpacaaGreat
open Go.RowKit Go.Proofs Go.Proofs.Pk
set_option maxRecDepth 10000

/-- What the program's Apply answers. -/
def ApK (w : World) (r : VerV × Nat) (e : Ending) (w' : World) : Prop :=
  ∃ ad len cap ad2 len2 cap2, e = .returned (.tuple #[verC ad len cap ad2 len2 cap2 r.1.2.2, errV 49 r.2]) ∧ VerW w' ad len cap ad2 len2 cap2 r.1 ∧ Kept (fun _ => False) w w'
/-- What the program's Decode answers. -/
def DcK (w : World) (r : EdV × Bool) (e : Ending) (w' : World) : Prop :=
  ∃ ad len cap ad2 len2 cap2 ad3 len3 cap3 ad4 len4 cap4, e = .returned (.tuple #[edC ad len cap ad2 len2 cap2 ad3 len3 cap3 ad4 len4 cap4 r.1.2.2.2.2, errV 49 (if r.2 = true then 0 else 3)]) ∧
    EdW w' ad len cap ad2 len2 cap2 ad3 len3 cap3 ad4 len4 cap4 r.1 ∧ Kept (fun _ => False) w w'
/-- N: how long bytes may be that are read. -/
structure VnB (N : Int) : Prop where
  right : ∀ (w : World) (ad : Option Addr) (len cap : Nat) (ad2 : Option Addr) (len2 cap2 : Nat) (v : VerV), VerW w ad len cap ad2 len2 cap2 v →
    Calls Tryz.prog 13 #[verC ad len cap ad2 len2 cap2 v.2.2] w fun r w' => r = .returned (.bool (rightV v)) ∧ Kept (fun _ => False) w w'
  apply : ∀ (w : World) (ad : Option Addr) (len cap : Nat) (ad2 : Option Addr) (len2 cap2 : Nat) (v : VerV) (bd : Option Addr) (bl bc : Nat) (bd2 : Option Addr) (bl2 bc2 : Nat) (bd3 : Option Addr) (bl3 bc3 : Nat) (bd4 : Option Addr) (bl4 bc4 : Nat) (e : EdV),
    VerW w ad len cap ad2 len2 cap2 v → EdW w bd bl bc bd2 bl2 bc2 bd3 bl3 bc3 bd4 bl4 bc4 e →
    Calls Tryz.prog 11 #[verC ad len cap ad2 len2 cap2 v.2.2, edC bd bl bc bd2 bl2 bc2 bd3 bl3 bc3 bd4 bl4 bc4 e.2.2.2.2] w (ApK w (applyV v e))
  encode : ∀ (w : World) (bd : Option Addr) (bl bc : Nat) (bd2 : Option Addr) (bl2 bc2 : Nat) (bd3 : Option Addr) (bl3 bc3 : Nat) (bd4 : Option Addr) (bl4 bc4 : Nat) (e : EdV), EdW w bd bl bc bd2 bl2 bc2 bd3 bl3 bc3 bd4 bl4 bc4 e →
    Calls Tryz.prog 5 #[edC bd bl bc bd2 bl2 bc2 bd3 bl3 bc3 bd4 bl4 bc4 e.2.2.2.2] w fun r w' => r = .returned (.tuple #[.string ⟨(encE e).1.toArray⟩, errV 49 (if (encE e).2 = true then 0 else 1)]) ∧ Kept (fun _ => False) w w'
  decode : ∀ (b : VTxt) (w : World), (b.length : Int) ≤ N → Calls Tryz.prog 7 #[.string ⟨b.toArray⟩] w (DcK w (decE b))
  live : ∀ (w : World) (ad : Option Addr) (len cap : Nat) (ad2 : Option Addr) (len2 cap2 : Nat) (v : VerV), VerW w ad len cap ad2 len2 cap2 v →
    Calls Tryz.prog 12 #[verC ad len cap ad2 len2 cap2 v.2.2] w fun r w' => ∃ ad len cap l, r = .returned (.slice ad len cap) ∧ Ints w' ad len l ∧ LivesV v l ∧ Kept (fun _ => False) w w'

end Go.Proofs.YtjdolimeibpacaaGreat
