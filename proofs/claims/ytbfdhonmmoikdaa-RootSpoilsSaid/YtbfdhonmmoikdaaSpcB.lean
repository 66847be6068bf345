/- Runs as cells of memory (layer 5): what lies beneath the reference's and the program's walks. -/
import Derived.Test.YtbfdhonmmoikdaaSpcR
import Derived.Test.YtbfdhonmmoikdaaAppend
import Derived.Laws.IdiomStrings
import Derived.Laws.OwnMore
import Derived.Deep.AppendLies
namespace Go.Proofs.Ytbfdhonmmoikdaa
open Go.RowKit Go.Proofs Go.Proofs.Pk
set_option maxRecDepth 10000

def runN (r : Nat × Nat) : List Value := [.int .i64 (r.1 : Int), .int .i64 (r.2 : Int)]
def flatR (l : List (Nat × Nat)) : List Value := l.flatMap runN
theorem add0 (q j : Nat) : Addr.add ⟨q, 0, none⟩ j = ⟨q, j, none⟩ := by simp [Addr.add]; exact fun h => h.symm
theorem owns_len {w : World} {B : Nat} {e : TypeId} {size : Nat} {v : Value} {n m : Nat} {xs ys : List Value} (h : w.ownsRow B e size v n xs) (hn : n = m) (hx : xs = ys) : w.ownsRow B e size v m ys := by subst hn hx; exact h
theorem own_low {w : World} {B : Nat} {e : TypeId} {size : Nat} {v : Value} {n : Nat} {xs : List Value} (h : w.ownsRow B e size v n xs) (k : Nat) (hk : v.ownBlock = some k) : B ≤ k := by
  rcases h.2 with ⟨rfl, _⟩ | ⟨g, cap, cur, rfl, h1, _⟩
  · cases hk
  · have := Option.some.inj hk; simp only at this; omega

theorem owns_drewN {w : World} {B n : Nat} {e : TypeId} {size : Nat} {v : Value} {m : Nat} {xs : List Value} (h : w.ownsRow B e size v m xs) : (w.drewN n).ownsRow B e size v m xs :=
  owns_of_block h fun _ _ => by simp

end Go.Proofs.Ytbfdhonmmoikdaa
