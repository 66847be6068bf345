/- The laws of layer 15, in the rows' form. -/
import Derived.Test.YthkejfhcdodggaaKp15
import Derived.Test.YthkejfhcdodggaaFo15
import Derived.Test.YthkejfhcdodggaaSs15
import Derived.Test.YthkejfhcdodggaaTu15
import Derived.Test.YthkejfhcdodggaaMa15
import Derived.Test.YthkejfhcdodggaaMm15
namespace Go.Proofs.Ythkejfhcdodggaa
open Go.RowKit Go.Proofs Go.Proofs.Pk

theorem below_of15 {e : Ending} {w w' : World} (h : e = .returned (.bool true) ∧ Kept (fun _ => False) w w') : e = .returned (.bool true) ∧ Below w.heap.size w w' := ⟨h.1, h.2.below (Nat.le_refl _) (fun _ f => f.elim)⟩
theorem againF (K : MgK) (ad : Option Addr) (len cap : Nat) (l : List MEnt) (kd : Option Addr) (kl kc : Nat) (ks : List Int) (b : Bool) (w : World) (h0 : EntsW w ad len l) (hb : FlatE ad ∧ len ≤ cap ∧ (len : Int) * 48 ≤ 140737488351232 ∧ (ad = none → len = 0 ∧ cap = 0))
    (hi : Ints w kd kl ks) (hj : Fit64 ks ∧ kl ≤ kc ∧ (kl : Int) * 8 ≤ 140737488351232 ∧ (kd = none → kl = 0 ∧ kc = 0)) :
    Calls Try.prog 7 #[.slice ad len cap, .slice kd kl kc, .bool b] w fun e w' => e = .returned (.bool true) ∧ Below w.heap.size w w' :=
  (again15 K ad len cap l kd kl kc ks b w h0 hb hi hj.1 hj.2.2.1 hj.2.2.2).mono fun _ _ h => below_of15 h
theorem keptF (K : MgK) (J : BkJ) (ad : Option Addr) (len cap : Nat) (l : List MEnt) (kd : Option Addr) (kl kc : Nat) (ks : List Int) (b : Bool) (which : Int) (w : World) (h0 : EntsW w ad len l) (hb : FlatE ad ∧ len ≤ cap ∧ (len : Int) * 48 ≤ 140737488351232 ∧ (ad = none → len = 0 ∧ cap = 0))
    (hi : Ints w kd kl ks) (hj : Fit64 ks ∧ kl ≤ kc ∧ (kl : Int) * 8 ≤ 140737488351232 ∧ (kd = none → kl = 0 ∧ kc = 0)) (hw : -9223372036854775808 ≤ which ∧ which ≤ 9223372036854775807) :
    Calls Try.prog 6 #[.slice ad len cap, .slice kd kl kc, .bool b, .int .i64 which] w fun e w' => e = .returned (.bool true) ∧ Below w.heap.size w w' :=
  (kept15 K J ad len cap l kd kl kc ks b which w h0 hb hi hj.1 hj.2.2.1 hw hj.2.2.2).mono fun _ _ h => below_of15 h

theorem foldsF (K : MgK) (ad : Option Addr) (len cap : Nat) (l : List MEnt) (kd : Option Addr) (kl kc : Nat) (ks : List Int) (b : Bool) (s : Int) (w : World) (h0 : EntsW w ad len l) (hb : FlatE ad ∧ len ≤ cap ∧ (len : Int) * 48 ≤ 140737488351232 ∧ (ad = none → len = 0 ∧ cap = 0))
    (hi : Ints w kd kl ks) (hj : Fit64 ks ∧ kl ≤ kc ∧ (kl : Int) * 8 ≤ 140737488351232 ∧ (kd = none → kl = 0 ∧ kc = 0)) (hs : -9223372036854775808 ≤ s ∧ s ≤ 9223372036854775807) :
    Calls Try.prog 4 #[.slice ad len cap, .slice kd kl kc, .bool b, .int .i64 s] w fun e w' => e = .returned (.bool true) ∧ Below w.heap.size w w' :=
  (folds15 K ad len cap l kd kl kc ks b s w h0 hb hi hj.1 hj.2.2.1 hj.2.2.2 hs).mono fun _ _ h => below_of15 h
theorem seesF (K : MgK) (J : BkJ) (ad : Option Addr) (len cap : Nat) (l : List MEnt) (s : Int) (w : World) (h0 : EntsW w ad len l) (hb : FlatE ad ∧ len ≤ cap ∧ (len : Int) * 48 ≤ 140737488351232 ∧ (ad = none → len = 0 ∧ cap = 0)) (hs : -9223372036854775808 ≤ s ∧ s ≤ 9223372036854775807) :
    Calls Try.prog 8 #[.slice ad len cap, .int .i64 s] w fun e w' => e = .returned (.bool true) ∧ Below w.heap.size w w' :=
  (sees15 K J ad len cap l s w h0 hb hs).mono fun _ _ h => below_of15 h
theorem turnedF (K : MgK) (ad : Option Addr) (len cap : Nat) (L : List RowE) (w : World) (h0 : RowsE w ad len L) (_ : FlatE ad ∧ len ≤ cap ∧ (len : Int) * 24 ≤ 140737488351232 ∧ (ad = none → len = 0 ∧ cap = 0)) :
    Calls Try.prog 9 #[.slice ad len cap] w fun e w' => e = .returned (.bool true) ∧ Below w.heap.size w w' :=
  (turned15 K ad len cap L w h0).mono fun _ _ h => below_of15 h
theorem allF (K : MgK) (J : BkJ) (ad : Option Addr) (len cap : Nat) (L : List RowE) (w : World) (h0 : RowsE w ad len L) (_ : FlatE ad ∧ len ≤ cap ∧ (len : Int) * 24 ≤ 140737488351232 ∧ (ad = none → len = 0 ∧ cap = 0)) :
    Calls Try.prog 5 #[.slice ad len cap] w fun e w' => e = .returned (.bool true) ∧ Below w.heap.size w w' :=
  (all15 K J ad len cap L w h0).mono fun _ _ h => below_of15 h
theorem mergesF (K : MgK) (ad : Option Addr) (len cap : Nat) (L : List RowE) (w : World) (h0 : RowsE w ad len L) (_ : FlatE ad ∧ len ≤ cap ∧ (len : Int) * 24 ≤ 140737488351232 ∧ (ad = none → len = 0 ∧ cap = 0)) :
    Calls Try.prog 3 #[.slice ad len cap] w fun e w' => e = .returned (.bool true) ∧ Below w.heap.size w w' :=
  (merges15 K ad len cap L w h0).mono fun _ _ h => below_of15 h

end Go.Proofs.Ythkejfhcdodggaa
