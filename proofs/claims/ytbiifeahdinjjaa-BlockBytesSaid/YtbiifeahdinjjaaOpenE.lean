/- A slice of entries among a law's arguments, opened: it reads as a list of entries. -/
import Derived.Test.YtbiifeahdinjjaaMmM
import Derived.Test.YtbiifeahdinjjaaGen
import Derived.Test.YtbiifeahdinjjaaProg
import Derived.SizedLaws
import Derived.SliceStrings
import Derived.ProofKit
import Derived.Deep.Slices
import Derived.Deep.MidRow
namespace Go.Proofs.Ytbiifeahdinjjaa
open Go.ChangeShapes Go.WideShapes Go.ChangeAt Go.RowKit Go.Proofs.Pk
set_option maxRecDepth 10000

/-- An entry's cells. -/
def entC (u : MEnt) : List Value := [.string ⟨u.1.toArray⟩, .int .i64 u.2.1, .bool u.2.2.1, .string ⟨u.2.2.2.toArray⟩]
def FitN (n : Int) : Prop := -9223372036854775808 ≤ n ∧ n ≤ 9223372036854775807
structure EntAt (w : World) (b o : Nat) (u : MEnt) : Prop where
  row : ∀ j v, (entC u)[j]? = some v → w.cell? ⟨b, o + j, none⟩ = some v
  fit : FitN u.2.1
def EntsW (w : World) (ad : Option Addr) (len : Nat) (l : List MEnt) : Prop :=
  l.length = len ∧ (l = [] ∨ ∃ b off, ad = some ⟨b, off, none⟩ ∧ b < w.heap.size ∧ ∀ i (h : i < l.length), EntAt w b (off + i * 4) l[i])
/-- An entry of a slice among the arguments, in each later world. -/
theorem entsW_all {w : World} {ad : Option Addr} {len : Nat} {l : List MEnt} (h : EntsW w ad len l) (i : Nat) (hi : i < len) : ∃ b off, ad = some ⟨b, off, none⟩ ∧ b < w.heap.size ∧ ∃ h' : i < l.length, FitN (l[i]).2.1 ∧ ∀ w', Below w.heap.size w w' → w'.rangeAt b (off + i * 4) (entC l[i]) := by
  have hl := h.1
  rcases h.2 with h0 | ⟨b, off, h1, h2, h3⟩
  · rw [h0] at hl; simp at hl; omega
  · have hp := h3 i (by omega)
    exact ⟨b, off, h1, h2, by omega, hp.fit, fun w' hb j v hv => (hb.cell (p := ⟨b, off + i * 4 + j, none⟩) h2).trans (hp.row j v hv)⟩
theorem fit_ofN {n : Int} (h : (Lit.int .i64 n).wf = true) : FitN n := by simpa [FitN, Lit.wf, IntKind.min, IntKind.max, IntKind.signed, IntKind.bits] using h

theorem openEntW {H : Type} {enc : TypeId × Value → H} {W : World} {base : Nat} {spare : Nat → Bool} {held : Bool} {n : Nat} {b o : Nat} {cs : List Value} {x : DataW H × List MemPlace}
    (h1 : W.cells? base ⟨b, o, none⟩ 4 = some cs) (h2 : DataW.trod enc Try.prog W base spare held n 37 cs = some x) : ∃ u, EntAt W b o u := by
  obtain ⟨_, hlen, hcell⟩ := World.cells?_some h1
  obtain ⟨xs, m, _, hx, _, hxl, hf⟩ := DataW.trod_struct Try.underlying37 h2
  have c1 : Try.prog.cellsOf 3 = 1 := by kernel_rfl
  have c2 : Try.prog.cellsOf 9 = 1 := by kernel_rfl
  have c3 : Try.prog.cellsOf 4 = 1 := by kernel_rfl
  match xs, hxl, cs, hlen with
  | [y0, y1, y2, y3], _, [v0, v1, v2, v3], _ =>
    have g0 := hf 0 _ rfl
    have g1 := hf 1 _ rfl
    have g2 := hf 2 _ rfl
    have g3 := hf 3 _ rfl
    simp [c1, c2, c3] at g0 g1 g2 g3
    obtain ⟨⟨⟨s0⟩⟩, e0, _, w0⟩ := DataW.trod_string Try.underlying9 g0
    obtain ⟨n1, e1, _, w1⟩ := DataW.trod_int Try.underlying3 g1
    obtain ⟨b2, e2, _⟩ := DataW.trod_bool Try.underlying4 g2
    obtain ⟨⟨⟨s3⟩⟩, e3, _, w3⟩ := DataW.trod_string Try.underlying9 g3
    simp at e0 e1 e2 e3
    subst e0 e1 e2 e3
    refine ⟨(s0, n1, b2, s3), ?_, fit_ofN w1⟩
    intro j v hv
    have hj : j < 4 := by have := (List.getElem?_eq_some_iff.1 hv).1; simpa [entC] using this
    have := hcell j hj
    rw [Addr.add_mid] at this
    rw [this]
    simpa [entC] using hv

theorem openEnts {H : Type} {enc : TypeId × Value → H} {W : World} {base : Nat} {spare : Nat → Bool} {held : Bool} {fuel : Nat} {ad : Option Addr} {len cap : Nat} {d : DataW H} {p : List MemPlace}
    (hf : DataW.trod enc Try.prog W base spare held fuel 22 (Value.slice ad len cap).cells.toList = some (d, p)) : ∃ l, EntsW W ad len l ∧ len ≤ cap := by
  have c6 : Try.prog.cellsOf 37 = 4 := by kernel_rfl
  rcases Go.Deep.open_slice Try.underlying22 hf with ⟨hcs, _⟩ | ⟨a, len', cap', m, n, D, Pl, hcs, _, hl, hm, hmm, hx, hel⟩
  · simp [Value.cells] at hcs
    obtain ⟨rfl, rfl, rfl⟩ := hcs
    exact ⟨[], ⟨rfl, .inl rfl⟩, Nat.le_refl _⟩
  · simp [Value.cells] at hcs
    obtain ⟨rfl, rfl, rfl⟩ := hcs
    have hlen : len ≤ m := by rw [hmm]; split <;> omega
    by_cases h0 : len = 0
    · subst h0; exact ⟨[], ⟨rfl, .inl rfl⟩, hl⟩
    · rw [c6] at hel
      obtain ⟨b, off, spot⟩ := a
      have hspot : spot = none := by
        obtain ⟨cs', g1, _⟩ := hel 0 (by omega)
        obtain ⟨_, hl3, hc⟩ := World.cells?_some g1
        have hc0 := hc 0 (by omega)
        have : ∃ v, cs'[0]? = some v := ⟨cs'[0]'(by omega), by rw [List.getElem?_eq_getElem (by omega)]⟩
        obtain ⟨v, hv⟩ := this
        rw [hv] at hc0
        simpa [Addr.add] using World.cell?_spot hc0
      subst hspot
      have each : ∀ i, i < len → ∃ u, EntAt W b (off + i * 4) u := fun i hi => by
        obtain ⟨cs', g1, g2⟩ := hel i (by omega)
        rw [Addr.add_mid] at g1
        exact openEntW g1 g2
      obtain ⟨f, hff⟩ : ∃ f : Nat → MEnt, ∀ i, i < len → EntAt W b (off + i * 4) (f i) := by
        refine ⟨fun i => if h : i < len then (each i h).choose else ([], 0, false, []), fun i hi => ?_⟩
        simp only [hi, dif_pos]
        exact (each i hi).choose_spec
      have hblk : b < W.heap.size := by
        have := (hff 0 (by omega)).row 0 _ rfl
        exact World.block_lt_of_cell? W _ this
      refine ⟨(List.range len).map f, ⟨by simp, .inr ⟨b, off, rfl, hblk, fun i hi => ?_⟩⟩, hl⟩
      have hi' : i < len := by simpa using hi
      have e : ((List.range len).map f)[i]'hi = f i := by simp
      rw [e]; exact hff i hi'

end Go.Proofs.Ytbiifeahdinjjaa
