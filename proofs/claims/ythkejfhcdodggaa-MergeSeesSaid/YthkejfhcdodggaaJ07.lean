/- OpenA, OpenJ. -/
import Derived.Test.YthkejfhcdodggaaJ02
import Derived.Deep.Slices
import Derived.Test.YthkejfhcdodggaaJ04
import Derived.SizedLaws

/- A slice of entries among a law's arguments, opened whole: its length is bounded, its address flat, and nothing lies behind no address. -/
namespace Go.Proofs.Ythkejfhcdodggaa
open Go.ChangeShapes Go.WideShapes Go.ChangeAt Go.RowKit Go.Proofs.Pk
set_option maxRecDepth 10000

def FlatE (ad : Option Addr) : Prop := ad = none ∨ ∃ b off, ad = some ⟨b, off, none⟩
theorem flat_ofE {W : World} {base : Nat} {r : Reach} {ad : Option Addr} {len cap : Nat} (h : Value.okWide Try.prog W r base 24 (.slice ad len cap)) : FlatE ad ∧ len ≤ cap ∧ (ad = none → len = 0 ∧ cap = 0) := by
  simp only [Value.okWide, Try.underlying24, Cell.okWide] at h
  cases ad with
  | none =>
    refine ⟨.inl rfl, ?_⟩
    match len, cap, h with
    | 0, 0, _ => exact ⟨Nat.le_refl _, fun _ => ⟨rfl, rfl⟩⟩
  | some a =>
    simp only [Cell.ok, Try.underlying24] at h
    obtain ⟨h1, _, _, h2, _⟩ := h
    obtain ⟨b, off, spot⟩ := a
    simp only at h2
    subst h2
    exact ⟨.inr ⟨b, off, rfl⟩, h1, fun h => by cases h⟩
theorem openEntsA {H : Type} {enc : TypeId × Value → H} {W : World} {base bas : Nat} {r : Reach} {spare : Nat → Bool} {held : Bool} {fuel : Nat} {ad : Option Addr} {len cap : Nat} {d : DataW H} {p : List MemPlace} {ts : List TypeId} {ds : List (DataW H)} {j : Nat}
    (hf : DataW.trod enc Try.prog W base spare held fuel 24 (Value.slice ad len cap).cells.toList = some (d, p)) (hk : Value.okWide Try.prog W r bas 24 (.slice ad len cap))
    (hsz : (DataW.weightsEach Try.prog ts ds).all (· ≤ reachBytes) = true) (ht : ts[j]? = some 24) (hd : ds[j]? = some d) :
    ∃ l, EntsW W ad len l ∧ (FlatE ad ∧ len ≤ cap ∧ (len : Int) * 48 ≤ 140737488351232 ∧ (ad = none → len = 0 ∧ cap = 0)) := by
  obtain ⟨hfl, hlc, hn⟩ := flat_ofE hk
  obtain ⟨l, hl, _⟩ := openEnts hf
  refine ⟨l, hl, hfl, hlc, ?_, hn⟩
  rcases Go.Deep.open_slice Try.underlying24 hf with ⟨hcs, _⟩ | ⟨a, len', cap', m, n, D, Pl, hcs, _, hl, hm, hmm, hx, hel⟩
  · simp [Value.cells] at hcs
    obtain ⟨rfl, rfl, rfl⟩ := hcs
    simp
  · simp [Value.cells] at hcs
    obtain ⟨rfl, rfl, rfl⟩ := hcs
    obtain ⟨rfl, rfl⟩ := Prod.mk.inj hx
    have hlen : len ≤ m := by rw [hmm]; split <;> omega
    have hb : (Try.prog.bytesOf 34) = 48 := by kernel_rfl
    have hbig := sized_slice hsz ht hd Try.underlying24
    rw [hb] at hbig
    simp only [List.length_map, List.length_range, reachBytes] at hbig
    omega

end Go.Proofs.Ythkejfhcdodggaa

/- A slice of ints among a law's arguments, opened, with how long it may be. -/
namespace Go.Proofs.Ythkejfhcdodggaa
open Go.ChangeShapes Go.WideShapes Go.ChangeAt Go.RowKit Go.Proofs.Pk
set_option maxRecDepth 10000

theorem lits_length {H : Type} {k : IntKind} (zs : List Int) : (lits k zs : List (DataW H)).length = zs.length := by
  induction zs with
  | nil => rfl
  | cons z zs ih => simp [lits] at *
theorem openIntsJ {H : Type} {enc : TypeId × Value → H} {W : World} {base : Nat} {spare : Nat → Bool} {held : Bool} {fuel : Nat} {ad : Option Addr} {len cap : Nat} {d : DataW H} {p : List MemPlace} {ts : List TypeId} {ds : List (DataW H)} {j : Nat}
    (hf : DataW.trod enc Try.prog W base spare held fuel 36 (Value.slice ad len cap).cells.toList = some (d, p))
    (hsz : (DataW.weightsEach Try.prog ts ds).all (· ≤ reachBytes) = true) (ht : ts[j]? = some 36) (hd : ds[j]? = some d) :
    ∃ l, Ints W ad len l ∧ (Fit64 l ∧ len ≤ cap ∧ (len : Int) * 8 ≤ 140737488351232 ∧ (ad = none → len = 0 ∧ cap = 0)) := by
  obtain ⟨l, hl, hfit⟩ := openInts hf
  refine ⟨l, hl, hfit, ?_⟩
  rcases open_ints Try.underlying36 Try.underlying3 (by kernel_rfl) hf with ⟨hcs, _⟩ | ⟨a, len', cap', zs, hcs, _, hlc, hm, hz, hx, hcell, hws⟩
  · simp [Value.cells] at hcs
    obtain ⟨rfl, rfl, rfl⟩ := hcs
    exact ⟨Nat.le_refl _, by simp, fun _ => ⟨rfl, rfl⟩⟩
  · simp [Value.cells] at hcs
    obtain ⟨rfl, rfl, rfl⟩ := hcs
    obtain ⟨rfl, rfl⟩ := Prod.mk.inj hx
    have hlen : len ≤ zs.length := by rw [hz]; split <;> omega
    have hb : (Try.prog.bytesOf 3) = 8 := by kernel_rfl
    have hbig := sized_slice hsz ht hd Try.underlying36
    rw [hb, lits_length, lits_length, List.length_take, List.length_drop] at hbig
    simp only [reachBytes] at hbig
    exact ⟨hlc, by omega, fun h => by cases h⟩
end Go.Proofs.Ythkejfhcdodggaa
