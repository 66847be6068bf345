/- OpenLs. -/
import Derived.Test.YthkejfhcdodggaaJ07
import Derived.Test.YthkejfhcdodggaaJ05
import Derived.Deep.Slices

/- Rows of entries among a law's arguments, opened: they read as a list of lists. -/
namespace Go.Proofs.Ythkejfhcdodggaa
open Go.ChangeShapes Go.WideShapes Go.ChangeAt Go.RowKit Go.Proofs.Pk
set_option maxRecDepth 10000

/-- A row among rows: where it lies, and what it reads as. -/
structure RowE where
  ad : Option Addr
  len : Nat
  cap : Nat
  l : List MEnt
structure RowEAt (w : World) (b o : Nat) (r : RowE) : Prop where
  cell : w.cell? ⟨b, o, none⟩ = some (.slice r.ad r.len r.cap)
  ents : EntsW w r.ad r.len r.l
  few : r.len ≤ r.cap
  bare : r.ad = none → r.cap = 0
def RowsE (w : World) (ad : Option Addr) (len : Nat) (L : List RowE) : Prop :=
  L.length = len ∧ (L = [] ∨ ∃ b off, ad = some ⟨b, off, none⟩ ∧ b < w.heap.size ∧ ∀ i (h : i < L.length), RowEAt w b (off + i) L[i])
theorem RowsE.at {w w' : World} {ad : Option Addr} {len : Nat} {L : List RowE} (h : RowsE w ad len L) (hb : Kept (fun _ => False) w w') (i : Nat) (hi : i < L.length) : ∃ b off, ad = some ⟨b, off, none⟩ ∧ b < w'.heap.size ∧ RowEAt w' b (off + i) L[i] := by
  have hl := h.1
  rcases h.2 with h0 | ⟨b, off, h1, h2, h3⟩
  · rw [h0] at hi; simp at hi
  · have := h3 i (by omega)
    exact ⟨b, off, h1, Nat.lt_of_lt_of_le h2 hb.size, ⟨(hb.cell (p := ⟨b, off + i, none⟩) h2 (fun f => f)).trans this.cell, ents_keptK this.ents hb, this.few, this.bare⟩⟩
theorem flat_ofL {W : World} {base : Nat} {r : Reach} {ad : Option Addr} {len cap : Nat} (h : Value.okWide Try.prog W r base 22 (.slice ad len cap)) : FlatE ad ∧ len ≤ cap ∧ (ad = none → len = 0 ∧ cap = 0) := by
  simp only [Value.okWide, Try.underlying22, Cell.okWide] at h
  cases ad with
  | none =>
    refine ⟨.inl rfl, ?_⟩
    match len, cap, h with
    | 0, 0, _ => exact ⟨Nat.le_refl _, fun _ => ⟨rfl, rfl⟩⟩
  | some a =>
    simp only [Cell.ok, Try.underlying22] at h
    obtain ⟨h1, _, _, h2, _⟩ := h
    obtain ⟨b, off, spot⟩ := a
    simp only at h2
    subst h2
    exact ⟨.inr ⟨b, off, rfl⟩, h1, fun h => by cases h⟩
theorem openLsE {H : Type} {enc : TypeId × Value → H} {W : World} {base bas : Nat} {r : Reach} {spare : Nat → Bool} {held : Bool} {fuel : Nat} {ad : Option Addr} {len cap : Nat} {d : DataW H} {p : List MemPlace} {ts : List TypeId} {ds : List (DataW H)} {j : Nat}
    (hf : DataW.trod enc Try.prog W base spare held fuel 22 (Value.slice ad len cap).cells.toList = some (d, p)) (hk : Value.okWide Try.prog W r bas 22 (.slice ad len cap))
    (hsz : (DataW.weightsEach Try.prog ts ds).all (· ≤ reachBytes) = true) (ht : ts[j]? = some 22) (hd : ds[j]? = some d) :
    ∃ L, RowsE W ad len L ∧ (FlatE ad ∧ len ≤ cap ∧ (len : Int) * 24 ≤ 140737488351232 ∧ (ad = none → len = 0 ∧ cap = 0)) := by
  obtain ⟨hfl, hlc, hn⟩ := flat_ofL hk
  rcases Go.Deep.open_slice1 Try.underlying22 (by kernel_rfl) hf with ⟨hcs, _⟩ | ⟨a, len', cap', m, n, V, D, Pl, hcs, _, hl, hm, hmm, hx, hel⟩
  · simp [Value.cells] at hcs
    obtain ⟨rfl, rfl, rfl⟩ := hcs
    exact ⟨[], ⟨rfl, .inl rfl⟩, hfl, hlc, by simp, hn⟩
  · simp [Value.cells] at hcs
    obtain ⟨rfl, rfl, rfl⟩ := hcs
    obtain ⟨rfl, rfl⟩ := Prod.mk.inj hx
    have hlen : len ≤ m := by rw [hmm]; split <;> omega
    have hb : (Try.prog.bytesOf 24) = 24 := by kernel_rfl
    have hbig := sized_slice hsz ht hd Try.underlying22
    rw [hb] at hbig
    simp only [List.length_map, List.length_range, reachBytes] at hbig
    by_cases h0 : len = 0
    · subst h0; exact ⟨[], ⟨rfl, .inl rfl⟩, hfl, hlc, by simp, hn⟩
    · obtain ⟨b, off, spot⟩ := a
      have hc := (hel 0 (by omega)).1
      have hspot : spot = none := by simpa [Addr.add] using World.cell?_spot hc
      subst hspot
      have hblk : b < W.heap.size := by have := World.block_lt_of_cell? W _ hc; simpa [Addr.add] using this
      have each : ∀ i, i < len → ∃ r, RowEAt W b (off + i) r := fun i hi => by
        obtain ⟨g1, g2⟩ := hel i (by omega)
        have hadd : (⟨b, off, none⟩ : Addr).add i = ⟨b, off + i, none⟩ := by unfold Addr.add; split <;> simp_all
        rw [hadd] at g1
        have hsl : ∃ ad len cap, V i = .slice ad len cap ∧ (ad = none → cap = 0) := by
          rcases Go.Deep.open_slice Try.underlying24 g2 with ⟨hcs, _⟩ | ⟨a, len', cap', m, n, D, Pl, hcs, _⟩
          · exact ⟨none, 0, 0, by simpa using hcs, fun _ => rfl⟩
          · exact ⟨_, _, _, by simpa using hcs, fun h => by cases h⟩
        obtain ⟨ad', len', cap', hv, hbare⟩ := hsl
        rw [hv] at g1 g2
        obtain ⟨l, hs, hb1⟩ := openEnts (by simpa [Value.cells] using g2)
        exact ⟨⟨ad', len', cap', l⟩, g1, hs, hb1, hbare⟩
      obtain ⟨f, hff⟩ : ∃ f : Nat → RowE, ∀ i, i < len → RowEAt W b (off + i) (f i) := by
        refine ⟨fun i => if h : i < len then (each i h).choose else ⟨none, 0, 0, []⟩, fun i hi => ?_⟩
        simp only [hi, dif_pos]
        exact (each i hi).choose_spec
      refine ⟨(List.range len).map f, ⟨by simp, .inr ⟨b, off, rfl, hblk, fun i hi => ?_⟩⟩, hfl, hlc, by omega, hn⟩
      have hi' : i < len := by simpa using hi
      have e : ((List.range len).map f)[i]'hi = f i := by simp
      rw [e]; exact hff i hi'

end Go.Proofs.Ythkejfhcdodggaa
