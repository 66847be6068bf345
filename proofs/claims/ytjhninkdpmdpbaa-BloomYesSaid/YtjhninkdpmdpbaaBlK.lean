/- The contract that the laws of layer 11 want of the program's filters, whatever they are made by. -/
import Derived.Test.YtjhninkdpmdpbaaProg
import Derived.Test.YtjhninkdpmdpbaaBlM
import Derived.Test.YtjhninkdpmdpbaaGen
import Derived.Test.YtjhninkdpmdpbaaAppend
namespace Go.Proofs.Ytjhninkdpmdpbaa
open Go.RowKit Go.Proofs Go.Proofs.Pk
set_option maxRecDepth 10000

def FitI (n : Int) : Prop := -9223372036854775808 ≤ n ∧ n ≤ 9223372036854775807
structure BlK : Prop where
  hash : ∀ (k : TxtB) (w : World), (k.length : Int) ≤ 140737488351232 → Calls Try.prog 12 #[.string ⟨k.toArray⟩] w fun e w' => e = .returned (.int .u64 (hashN k : Int)) ∧ Kept (fun _ => False) w w'
  make : ∀ (w : World) (ad : Option Addr) (len cap : Nat) (ks : List TxtB) (bits : Int), Strs w ad len ks → (∀ s ∈ ks, s.length ≤ 140737488351232) → FitI bits → (len : Int) ≤ 140737488351232 →
    Calls Try.prog 9 #[.slice ad len cap, .int .i64 bits] w fun e w' => e = .returned (.tuple #[.string ⟨(makeN ks bits).1.toArray⟩, errV 38 (makeN ks bits).2]) ∧ Kept (fun _ => False) w w'
  may : ∀ (f k : TxtB) (w : World), (f.length : Int) ≤ 140737488351232 → (k.length : Int) ≤ 140737488351232 →
    Calls Try.prog 14 #[.string ⟨f.toArray⟩, .string ⟨k.toArray⟩] w fun e w' => e = .returned (.bool (mayN f k)) ∧ Kept (fun _ => False) w w'
theorem strs_keptB {w w' : World} {ad : Option Addr} {len : Nat} {l : List TxtB} (h : Strs w ad len l) (hk : Kept (fun _ => False) w w') : Strs w' ad len l := h.below (hk.below (Nat.le_refl _) (fun _ f => f.elim))
theorem make_len (ks : List TxtB) (bits : Int) : ((makeN ks bits).1.length : Int) ≤ 5002 := by
  unfold makeN
  split
  · simp
  · split
    · simp
    · rename_i h1 h2
      have hb : ks.length * bits.toNat ≤ 40000 := Nat.mul_le_mul (show ks.length ≤ 2000 by omega) (show bits.toNat ≤ 20 by omega)
      rw [List.length_append, fillN_length, List.length_replicate, List.length_singleton]
      unfold sizeB
      omega

end Go.Proofs.Ytjhninkdpmdpbaa
