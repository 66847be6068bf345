/- A disk without a fuse, with power: what its calls do. -/
import Derived.Test.YtgppbbbpekghiaaFuseL
namespace Go.Proofs.Ytgppbbbpekghiaa
open Go.RowKit Go.Proofs Go.Proofs.Pk
set_option maxRecDepth 10000

theorem wr_plain {L : List (List UInt8)} {C : List (Nat × List UInt8)} {n : Nat} (k : Nat) (hk : k < L.length) (s : List UInt8) (hs : s.length ≤ 64) :
    (⟨L, C, -1, false, n⟩ : Dsk).write (k : Int) s = (⟨L, C ++ [(k, padL s)], -1, false, n + 1⟩, 0) := by
  have hc : reachC (⟨L, C, -1, false, n⟩ : Dsk) (k : Int) = 0 := reachC_ok rfl _ (by simp only; omega)
  rw [write_done hc (by omega) (by show (-1 : Int) ≠ 0; decide)]
  rfl

section
variable {B p : Nat} {w0 w : World} {X : Nat → Prop} {L : List (List UInt8)} {C : List (Nat × List UInt8)} {n : Nat}
theorem aWrP (h : Al B w0 w p ⟨L, C, -1, false, n⟩ X) (k : Nat) (hk : k < L.length) (s : List UInt8) (hs : s.length ≤ 64) (hC : C.length ≤ 1000) (hn : n ≤ 1000) :
    Calls Try.prog 14 #[.pointer (some ⟨p, 0, none⟩), .int .i64 (k : Int), .string ⟨s.toArray⟩] w fun e w' => e = .returned .nilIface ∧ ∃ X', Al B w0 w' p ⟨L, C ++ [(k, padL s)], -1, false, n + 1⟩ X' := by
  refine (aWr h k s (by simp only; omega) (by simp only; omega)).mono fun e w' ⟨he, ⟨X', h', _⟩, _⟩ => ?_
  rw [wr_plain k hk s hs] at he h'
  exact ⟨he, X', h'⟩
theorem aSyP (h : Al B w0 w p ⟨L, C, -1, false, n⟩ X) :
    Calls Try.prog 16 #[.pointer (some ⟨p, 0, none⟩)] w fun e w' => e = .returned .nilIface ∧ ∃ X', Al B w0 w' p ⟨syncL L C, [], -1, false, n⟩ X' :=
  (aSy h).mono fun e w' ⟨he, ⟨X', h', _⟩, _⟩ => ⟨he, X', h'⟩
theorem aCrP {f : Int} {o : Bool} (h : Al B w0 w p ⟨L, C, f, o, n⟩ X) (kad : Option Addr) (klen kcap : Nat) (ks : List Int) (torn bytes : Int) (hks : Ints w kad klen ks) (hoff : ks = [] ∨ IntsOff X kad) :
    Calls Try.prog 20 #[.pointer (some ⟨p, 0, none⟩), .slice kad klen kcap, .int .i64 torn, .int .i64 bytes] w fun e w' => e = .returned (.tuple #[]) ∧ ∃ X', Al B w0 w' p ⟨crashL ks torn bytes L 0 C, [], -1, false, n⟩ X' :=
  (aCr h kad klen kcap ks torn bytes hks hoff).mono fun e w' ⟨he, ⟨X', h', _⟩, _⟩ => ⟨he, X', h'⟩
theorem aRdP (h : Al B w0 w p ⟨L, C, -1, false, n⟩ X) (k : Nat) (hk : k < L.length) :
    Calls Try.prog 22 #[.pointer (some ⟨p, 0, none⟩), .int .i64 (k : Int)] w fun e w' => e = .returned (.tuple #[.string ⟨((lastW C k).getD (L.getD k [])).toArray⟩, .nilIface]) ∧ Al B w0 w' p ⟨L, C, -1, false, n⟩ X := by
  refine (aRd h k).mono fun e w' ⟨he, h', _⟩ => ⟨?_, h'⟩
  rw [he, Dsk.read_ok (S := ⟨L, C, -1, false, n⟩) rfl k hk, sec_in L [] hk]
  rfl
end
/-- Numbers among the arguments are read as before, and lie apart. -/
theorem Al.ints {B p : Nat} {w0 w wI : World} {X : Nat → Prop} {S : Dsk} (h : Al B w0 w p S X) {kad : Option Addr} {klen : Nat} {ks : List Int} (hk : Ints wI kad klen ks) (hI : wI.heap.size ≤ B) (hb : Below wI.heap.size wI w) :
    Ints w kad klen ks ∧ (ks = [] ∨ IntsOff X kad) := by
  rcases hk.2 with h0 | ⟨b, off, h1, h2, h3⟩
  · exact ⟨⟨hk.1, .inl h0⟩, .inl h0⟩
  · refine ⟨⟨hk.1, .inr ⟨b, off, h1, Nat.lt_of_lt_of_le h2 hb.size, fun i hi => by rw [hb.cell (p := ⟨b, off + i, none⟩) h2]; exact h3 i hi⟩⟩, .inr fun b' off' e hx => ?_⟩
    rw [h1] at e; injection e with e; injection e with e _ _
    have := (h.lt b' hx).1; omega

end Go.Proofs.Ytgppbbbpekghiaa
