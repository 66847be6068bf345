/- The laws of layer 11 in the form that their rows want, over the contract of the program's filters. -/
import Derived.Test.YtjhninkdpmdpbaaMk11
import Derived.Test.YtjhninkdpmdpbaaYs11
import Derived.Test.YtjhninkdpmdpbaaOd11
import Derived.Test.YtjhninkdpmdpbaaMr11
namespace Go.Proofs.Ytjhninkdpmdpbaa
open Go.RowKit Go.Proofs Go.Proofs.Pk

theorem makesF (K : BlK) (ad : Option Addr) (len cap : Nat) (ks : List TxtB) (bits : Int) (k : TxtB) (w : World) (h : Strs w ad len ks) (hb : (len : Int) ≤ 140737488351232 ∧ ∀ s ∈ ks, s.length ≤ 140737488351232) (hi : FitI bits) (hk : (k.length : Int) ≤ 140737488351232) :
    Calls Try.prog 3 #[.slice ad len cap, .int .i64 bits, .string ⟨k.toArray⟩] w fun e w' => e = .returned (.bool true) ∧ Below w.heap.size w w' := makes11 K ad len cap ks bits k w h hb.2 hb.1 hi hk
theorem asksF (K : BlK) (f k : TxtB) (w : World) (hf : (f.length : Int) ≤ 140737488351232) (hk : (k.length : Int) ≤ 140737488351232) :
    Calls Try.prog 4 #[.string ⟨f.toArray⟩, .string ⟨k.toArray⟩] w fun e w' => e = .returned (.bool true) ∧ Below w.heap.size w w' := asks11 K f k w hf hk
theorem yesF (K : BlK) (ad : Option Addr) (len cap : Nat) (ks : List TxtB) (bits : Int) (k : TxtB) (w : World) (h : Strs w ad len ks) (hb : (len : Int) ≤ 140737488351232 ∧ ∀ s ∈ ks, s.length ≤ 140737488351232) (hi : FitI bits) (hk : (k.length : Int) ≤ 140737488351232) :
    Calls Try.prog 5 #[.slice ad len cap, .int .i64 bits, .string ⟨k.toArray⟩] w fun e w' => e = .returned (.bool true) ∧ Below w.heap.size w w' := yes11 K ad len cap ks bits k w h hb.2 hb.1 hi hk
theorem orderF (K : BlK) (ad : Option Addr) (len cap : Nat) (ks : List TxtB) (bits : Int) (w : World) (h : Strs w ad len ks) (hb : (len : Int) ≤ 140737488351232 ∧ (∀ s ∈ ks, s.length ≤ 140737488351232) ∧ len ≤ cap ∧ (ad = none → cap = 0)) (hi : FitI bits) :
    Calls Try.prog 6 #[.slice ad len cap, .int .i64 bits] w fun e w' => e = .returned (.bool true) ∧ Below w.heap.size w w' := order11 K ad len cap ks bits w h hb.2.1 hb.1 hb.2.2.1 hb.2.2.2 hi
theorem moreF (K : BlK) (f o k : TxtB) (w : World) (hf : (f.length : Int) ≤ 140737488351232) (ho : (o.length : Int) ≤ 140737488351232) (hk : (k.length : Int) ≤ 140737488351232) :
    Calls Try.prog 7 #[.string ⟨f.toArray⟩, .string ⟨o.toArray⟩, .string ⟨k.toArray⟩] w fun e w' => e = .returned (.bool true) ∧ Below w.heap.size w w' := more11 K f o k w hf ho hk

end Go.Proofs.Ytjhninkdpmdpbaa
