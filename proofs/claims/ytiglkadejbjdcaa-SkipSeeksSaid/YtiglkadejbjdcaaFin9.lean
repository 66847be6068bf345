/- The laws of layer 9 in the form that their rows want, over the contract of the program's list. -/
import Derived.Test.YtiglkadejbjdcaaPlays9
import Derived.Test.YtiglkadejbjdcaaSorts9
import Derived.Test.YtiglkadejbjdcaaSeeks9
import Derived.Test.YtiglkadejbjdcaaHeights9
namespace Go.Proofs.Ytiglkadejbjdcaa
open Go.RowKit Go.Proofs Go.Proofs.Pk

theorem playsF {At : SkOf} (K : SkK At) (ad : Option Addr) (len cap : Nat) (ps : List PutW) (key : List UInt8) (hh : Int) (w : World) (h0 : PutsW w ad len ps) (_hb : (∀ u ∈ ps, u.key.length ≤ 140737488351232) ∧ len ≤ cap) (_hk : (key.length : Int) ≤ 140737488351232) (hf : -9223372036854775808 ≤ hh ∧ hh ≤ 9223372036854775807) :
    Calls Try.prog 3 #[.slice ad len cap, .string ⟨key.toArray⟩, .int .i64 hh] w fun e w' => e = .returned (.bool true) ∧ Below w.heap.size w w' := plays9 K ad len cap ps key hh w h0 hf
theorem sortsF {At : SkOf} (K : SkK At) (ad : Option Addr) (len cap : Nat) (ps : List PutW) (w : World) (h0 : PutsW w ad len ps) (hb : (∀ u ∈ ps, u.key.length ≤ 140737488351232) ∧ len ≤ cap) :
    Calls Try.prog 4 #[.slice ad len cap] w fun e w' => e = .returned (.bool true) ∧ Below w.heap.size w w' := sorts9 K ad len cap ps w h0 hb.2
theorem seeksF {At : SkOf} (K : SkK At) (ad : Option Addr) (len cap : Nat) (ps : List PutW) (w : World) (h0 : PutsW w ad len ps) (hb : (∀ u ∈ ps, u.key.length ≤ 140737488351232) ∧ len ≤ cap) :
    Calls Try.prog 6 #[.slice ad len cap] w fun e w' => e = .returned (.bool true) ∧ Below w.heap.size w w' := seeks9 K ad len cap ps w h0 hb.1
theorem heightsF {At : SkOf} (K : SkK At) (ad : Option Addr) (len cap : Nat) (ps : List PutW) (hd : Option Addr) (hl hc : Nat) (hs : List Int) (key : List UInt8) (w : World) (h0 : PutsW w ad len ps) (_hb : (∀ u ∈ ps, u.key.length ≤ 140737488351232) ∧ len ≤ cap) (h1 : Ints w hd hl hs) (h2 : Fit64 hs) (_hk : (key.length : Int) ≤ 140737488351232) :
    Calls Try.prog 5 #[.slice ad len cap, .slice hd hl hc, .string ⟨key.toArray⟩] w fun e w' => e = .returned (.bool true) ∧ Below w.heap.size w w' := heights9 K ad len cap ps hd hl hc hs key w h0 h1 h2

end Go.Proofs.Ytiglkadejbjdcaa
