/- VersionBytes of layer 14, in the row's form. -/
import Derived.Test.YtjdolimeibpacaaGreatBy14
import Derived.Test.YtjdolimeibpacaaGreatLawB14
namespace Go.Proofs.YtjdolimeibpacaaGreat
open Go.RowKit Go.Proofs Go.Proofs.Pk

theorem below_of {e : Ending} {w w' : World} (h : e = .returned (.bool true) ∧ Kept (fun _ => False) w w') : e = .returned (.bool true) ∧ Below w.heap.size w w' := ⟨h.1, h.2.below (Nat.le_refl _) (fun _ f => f.elim)⟩
theorem bytesU {N : Int} (K : VnB N) (hN : 1048576 ≤ N) (ad : Option Addr) (len cap : Nat) (ad2 : Option Addr) (len2 cap2 : Nat) (ad3 : Option Addr) (len3 cap3 : Nat) (ad4 : Option Addr) (len4 cap4 : Nat) (v : EdV) (b : VTxt) (w : World)
    (h0 : EdW w ad len cap ad2 len2 cap2 ad3 len3 cap3 ad4 len4 cap4 v) (hb : (b.length : Int) ≤ 1048576) :
    Calls Tryz.prog 3 #[edC ad len cap ad2 len2 cap2 ad3 len3 cap3 ad4 len4 cap4 v.2.2.2.2, .string ⟨b.toArray⟩] w fun e w' => e = .returned (.bool true) ∧ Below w.heap.size w w' :=
  (bytes14 K hN ad len cap ad2 len2 cap2 ad3 len3 cap3 ad4 len4 cap4 v b w h0 hb).mono fun _ _ h => below_of h

end Go.Proofs.YtjdolimeibpacaaGreat
