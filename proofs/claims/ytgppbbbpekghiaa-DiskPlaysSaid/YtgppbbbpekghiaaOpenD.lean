/- A slice of deeds among a law's arguments, opened: it reads as a list of deeds. -/
import Derived.Test.YtgppbbbpekghiaaDeedD
import Derived.Test.YtgppbbbpekghiaaOpenI
import Derived.Deep.Slices
namespace Go.Proofs.Ytgppbbbpekghiaa
open Go.ChangeShapes Go.WideShapes Go.ChangeAt Go.RowKit Go.Proofs.Pk
set_option maxRecDepth 10000

theorem fit_of {n : Int} (h : (Lit.int .i64 n).wf = true) : FitI n := by simpa [FitI, Lit.wf, IntKind.min, IntKind.max, IntKind.signed, IntKind.bits] using h

theorem openDeed {H : Type} {enc : TypeId × Value → H} {W : World} {base : Nat} {spare : Nat → Bool} {held : Bool} {n : Nat} {b o : Nat} {cs : List Value} {x : DataW H × List MemPlace}
    (h1 : W.cells? base ⟨b, o, none⟩ 6 = some cs) (h2 : DataW.trod enc Try.prog W base spare held n 35 cs = some x) : ∃ u, DeedAt W b o u := by
  obtain ⟨_, hlen, hcell⟩ := World.cells?_some h1
  obtain ⟨xs, m, _, _, _, hxl, hf⟩ := DataW.trod_struct Try.underlying35 h2
  have c1 : Try.prog.cellsOf 3 = 1 := by kernel_rfl
  have c2 : Try.prog.cellsOf 9 = 1 := by kernel_rfl
  have c3 : Try.prog.cellsOf 33 = 1 := by kernel_rfl
  match xs, hxl, cs, hlen with
  | [y0, y1, y2, y3, y4, y5], _, [v0, v1, v2, v3, v4, v5], _ =>
    have g0 := hf 0 _ rfl
    have g1 := hf 1 _ rfl
    have g2 := hf 2 _ rfl
    have g3 := hf 3 _ rfl
    have g4 := hf 4 _ rfl
    have g5 := hf 5 _ rfl
    simp [c1, c2, c3] at g0 g1 g2 g3 g4 g5
    obtain ⟨n0, e0, _, w0⟩ := DataW.trod_int Try.underlying3 g0
    obtain ⟨n1, e1, _, w1⟩ := DataW.trod_int Try.underlying3 g1
    obtain ⟨n2, e2, _, w2⟩ := DataW.trod_int Try.underlying3 g2
    obtain ⟨n3, e3, _, w3⟩ := DataW.trod_int Try.underlying3 g3
    obtain ⟨⟨⟨s⟩⟩, e4, _, w4⟩ := DataW.trod_string Try.underlying9 g4
    have hsl : ∃ ad len cap, v5 = .slice ad len cap := by
      rcases open_ints Try.underlying33 Try.underlying3 c3 g5 with ⟨hcs, _⟩ | ⟨a, len', cap', zs, hcs, _⟩
      · exact ⟨none, 0, 0, by simpa using hcs⟩
      · exact ⟨_, _, _, by simpa using hcs⟩
    obtain ⟨ad, len, cap, rfl⟩ := hsl
    obtain ⟨l, hl, _⟩ := openInts (by simpa [Value.cells] using g5)
    simp at e0 e1 e2 e3 e4
    subst e0 e1 e2 e3 e4
    refine ⟨⟨n0, n1, n2, n3, s, ad, len, cap, l⟩, ?_, hl, fit_of w0, fit_of w1, fit_of w2, fit_of w3⟩
    intro j v hv
    have hj : j < 6 := by have := (List.getElem?_eq_some_iff.1 hv).1; simpa [dc] using this
    have := hcell j hj
    rw [Addr.add_mid] at this
    rw [this]
    simpa [dc] using hv

theorem openDeeds {H : Type} {enc : TypeId × Value → H} {W : World} {base : Nat} {spare : Nat → Bool} {held : Bool} {fuel : Nat} {ad : Option Addr} {len cap : Nat} {d : DataW H} {p : List MemPlace}
    (hf : DataW.trod enc Try.prog W base spare held fuel 22 (Value.slice ad len cap).cells.toList = some (d, p)) : ∃ l, Deeds W ad len l ∧ True := by
  have c6 : Try.prog.cellsOf 35 = 6 := by kernel_rfl
  rcases Go.Deep.open_slice Try.underlying22 hf with ⟨hcs, _⟩ | ⟨a, len', cap', m, n, D, Pl, hcs, _, hl, hm, hmm, hx, hel⟩
  · simp [Value.cells] at hcs
    obtain ⟨rfl, rfl, rfl⟩ := hcs
    exact ⟨[], ⟨rfl, .inl rfl⟩, trivial⟩
  · simp [Value.cells] at hcs
    obtain ⟨rfl, rfl, rfl⟩ := hcs
    have hlen : len ≤ m := by rw [hmm]; split <;> omega
    by_cases h0 : len = 0
    · subst h0; exact ⟨[], ⟨rfl, .inl rfl⟩, trivial⟩
    · rw [c6] at hel
      obtain ⟨b, off, spot⟩ := a
      have hspot : spot = none := by
        obtain ⟨cs', g1, _⟩ := hel 0 (by omega)
        obtain ⟨_, hl6, hc⟩ := World.cells?_some g1
        have hc0 := hc 0 (by omega)
        have : ∃ v, cs'[0]? = some v := ⟨cs'[0]'(by omega), by rw [List.getElem?_eq_getElem (by omega)]⟩
        obtain ⟨v, hv⟩ := this
        rw [hv] at hc0
        simpa [Addr.add] using World.cell?_spot hc0
      subst hspot
      have each : ∀ i, i < len → ∃ u, DeedAt W b (off + i * 6) u := fun i hi => by
        obtain ⟨cs', g1, g2⟩ := hel i (by omega)
        rw [Addr.add_mid] at g1
        exact openDeed g1 g2
      obtain ⟨f, hff⟩ : ∃ f : Nat → DeedV, ∀ i, i < len → DeedAt W b (off + i * 6) (f i) := by
        refine ⟨fun i => if h : i < len then (each i h).choose else ⟨0, 0, 0, 0, [], none, 0, 0, []⟩, fun i hi => ?_⟩
        simp only [hi, dif_pos]
        exact (each i hi).choose_spec
      have hblk : b < W.heap.size := by
        have := (hff 0 (by omega)).row 0 _ rfl
        exact World.block_lt_of_cell? W _ this
      refine ⟨(List.range len).map f, ⟨by simp, .inr ⟨b, off, rfl, hblk, fun i hi => ?_⟩⟩, trivial⟩
      have hi' : i < len := by simpa using hi
      have e : ((List.range len).map f)[i]'hi = f i := by simp
      rw [e]; exact hff i hi'

end Go.Proofs.Ytgppbbbpekghiaa
