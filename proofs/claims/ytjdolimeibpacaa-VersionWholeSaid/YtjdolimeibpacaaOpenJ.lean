/- A slice of ints among a law's arguments, opened, with how long it may be. -/
import Derived.Test.YtjdolimeibpacaaOpenI
import Derived.SizedLaws
namespace Go.Proofs.Ytjdolimeibpacaa
open Go.ChangeShapes Go.WideShapes Go.ChangeAt Go.RowKit Go.Proofs.Pk
set_option maxRecDepth 10000

theorem lits_length {H : Type} {k : IntKind} (zs : List Int) : (lits k zs : List (DataW H)).length = zs.length := by
  induction zs with
  | nil => rfl
  | cons z zs ih => simp [lits] at *
theorem openIntsJ {H : Type} {enc : TypeId × Value → H} {W : World} {base : Nat} {spare : Nat → Bool} {held : Bool} {fuel : Nat} {ad : Option Addr} {len cap : Nat} {d : DataW H} {p : List MemPlace} {ts : List TypeId} {ds : List (DataW H)} {j : Nat}
    (hf : DataW.trod enc Try.prog W base spare held fuel 23 (Value.slice ad len cap).cells.toList = some (d, p))
    (hsz : (DataW.weightsEach Try.prog ts ds).all (· ≤ reachBytes) = true) (ht : ts[j]? = some 23) (hd : ds[j]? = some d) :
    ∃ l, Ints W ad len l ∧ (Fit64 l ∧ len ≤ cap ∧ (len : Int) * 8 ≤ 140737488351232 ∧ (ad = none → len = 0 ∧ cap = 0)) := by
  obtain ⟨l, hl, hfit⟩ := openInts hf
  refine ⟨l, hl, hfit, ?_⟩
  rcases open_ints Try.underlying23 Try.underlying3 (by kernel_rfl) hf with ⟨hcs, _⟩ | ⟨a, len', cap', zs, hcs, _, hlc, hm, hz, hx, hcell, hws⟩
  · simp [Value.cells] at hcs
    obtain ⟨rfl, rfl, rfl⟩ := hcs
    exact ⟨Nat.le_refl _, by simp, fun _ => ⟨rfl, rfl⟩⟩
  · simp [Value.cells] at hcs
    obtain ⟨rfl, rfl, rfl⟩ := hcs
    obtain ⟨rfl, rfl⟩ := Prod.mk.inj hx
    have hlen : len ≤ zs.length := by rw [hz]; split <;> omega
    have hb : (Try.prog.bytesOf 3) = 8 := by kernel_rfl
    have hbig := sized_slice hsz ht hd Try.underlying23
    rw [hb, lits_length, lits_length, List.length_take, List.length_drop] at hbig
    simp only [reachBytes] at hbig
    exact ⟨hlc, by omega, fun h => by cases h⟩
end Go.Proofs.Ytjdolimeibpacaa
