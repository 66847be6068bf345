/- A slice of runs among a law's arguments, opened: it reads as a list of runs. -/
import Derived.Test.YtbfdhonmmoikdaaSlfC
import Derived.Test.YtbfdhonmmoikdaaOpenI
import Derived.Deep.Slices
namespace Go.Proofs.Ytbfdhonmmoikdaa
open Go.ChangeShapes Go.WideShapes Go.ChangeAt Go.RowKit Go.Proofs.Pk
set_option maxRecDepth 10000

theorem fit_of {n : Int} (h : (Lit.int .i64 n).wf = true) : Fit n := by simpa [Fit, Lit.wf, IntKind.min, IntKind.max, IntKind.signed, IntKind.bits] using h

theorem openRun {H : Type} {enc : TypeId × Value → H} {W : World} {base : Nat} {spare : Nat → Bool} {held : Bool} {n : Nat} {b o : Nat} {cs : List Value} {x : DataW H × List MemPlace}
    (h1 : W.cells? base ⟨b, o, none⟩ 2 = some cs) (h2 : DataW.trod enc Try.prog W base spare held n 68 cs = some x) : ∃ u : Int × Int, W.rangeAt b o (runV u) ∧ Fit u.1 ∧ Fit u.2 := by
  obtain ⟨_, hlen, hcell⟩ := World.cells?_some h1
  obtain ⟨xs, m, _, _, _, hxl, hf⟩ := DataW.trod_struct Try.underlying68 h2
  have c1 : Try.prog.cellsOf 3 = 1 := by kernel_rfl
  match xs, hxl, cs, hlen with
  | [y0, y1], _, [v0, v1], _ =>
    have g0 := hf 0 _ rfl
    have g1 := hf 1 _ rfl
    simp [c1] at g0 g1
    obtain ⟨n0, e0, _, w0⟩ := DataW.trod_int Try.underlying3 g0
    obtain ⟨n1, e1, _, w1⟩ := DataW.trod_int Try.underlying3 g1
    simp at e0 e1
    subst e0 e1
    refine ⟨(n0, n1), ?_, fit_of w0, fit_of w1⟩
    intro j v hv
    have hj : j < 2 := by have := (List.getElem?_eq_some_iff.1 hv).1; simpa [runV] using this
    have := hcell j hj
    rw [Addr.add_mid] at this
    rw [this]
    simpa [runV] using hv

theorem flat_of {W : World} {base : Nat} {r : Reach} {ad : Option Addr} {len cap : Nat} (h : Value.okWide Try.prog W r base 66 (.slice ad len cap)) : Flat ad ∧ len ≤ cap := by
  simp only [Value.okWide, Try.underlying66, Cell.okWide] at h
  cases ad with
  | none =>
    refine ⟨.inl rfl, ?_⟩
    match len, cap, h with
    | 0, 0, _ => exact Nat.le_refl _
  | some a =>
    simp only [Cell.ok, Try.underlying66] at h
    obtain ⟨h1, _, _, h2, _⟩ := h
    obtain ⟨b, off, spot⟩ := a
    simp only at h2
    subst h2
    exact ⟨.inr ⟨b, off, rfl⟩, h1⟩

theorem openRuns {H : Type} {enc : TypeId × Value → H} {W : World} {base bas : Nat} {r : Reach} {spare : Nat → Bool} {held : Bool} {fuel : Nat} {ad : Option Addr} {len cap : Nat} {d : DataW H} {p : List MemPlace} {ts : List TypeId} {ds : List (DataW H)} {j : Nat}
    (hf : DataW.trod enc Try.prog W base spare held fuel 66 (Value.slice ad len cap).cells.toList = some (d, p)) (hk : Value.okWide Try.prog W r bas 66 (.slice ad len cap))
    (hsz : (DataW.weightsEach Try.prog ts ds).all (· ≤ reachBytes) = true) (ht : ts[j]? = some 66) (hd : ds[j]? = some d) :
    ∃ l, Runs W ad len l ∧ (Flat ad ∧ len ≤ cap ∧ (len : Int) * 16 ≤ 140737488351232) := by
  have c6 : Try.prog.cellsOf 68 = 2 := by kernel_rfl
  obtain ⟨hfl, hlc⟩ := flat_of hk
  rcases Go.Deep.open_slice Try.underlying66 hf with ⟨hcs, _⟩ | ⟨a, len', cap', m, n, D, Pl, hcs, _, hl, hm, hmm, hx, hel⟩
  · simp [Value.cells] at hcs
    obtain ⟨rfl, rfl, rfl⟩ := hcs
    exact ⟨[], ⟨rfl, .inl rfl⟩, hfl, hlc, by simp⟩
  · simp [Value.cells] at hcs
    obtain ⟨rfl, rfl, rfl⟩ := hcs
    obtain ⟨rfl, rfl⟩ := Prod.mk.inj hx
    have hlen : len ≤ m := by rw [hmm]; split <;> omega
    have hb : (Try.prog.bytesOf 68) = 16 := by kernel_rfl
    have hbig := sized_slice hsz ht hd Try.underlying66
    rw [hb] at hbig
    simp only [List.length_map, List.length_range, reachBytes] at hbig
    by_cases h0 : len = 0
    · subst h0; exact ⟨[], ⟨rfl, .inl rfl⟩, hfl, hlc, by simp⟩
    · rw [c6] at hel
      rcases hfl with hfl | ⟨b, off, hfl⟩
      · cases hfl
      · injection hfl with hfl
        subst hfl
        have each : ∀ i, i < len → ∃ u : Int × Int, W.rangeAt b (off + i * 2) (runV u) ∧ Fit u.1 ∧ Fit u.2 := fun i hi => by
          obtain ⟨cs', g1, g2⟩ := hel i (by omega)
          rw [Addr.add_mid] at g1
          exact openRun g1 g2
        obtain ⟨f, hff⟩ : ∃ f : Nat → Int × Int, ∀ i, i < len → W.rangeAt b (off + i * 2) (runV (f i)) ∧ Fit (f i).1 ∧ Fit (f i).2 := by
          refine ⟨fun i => if h : i < len then (each i h).choose else (0, 0), fun i hi => ?_⟩
          simp only [hi, dif_pos]
          exact (each i hi).choose_spec
        have hblk : b < W.heap.size := World.block_lt_of_cell? W _ ((hff 0 (by omega)).1 0 _ rfl)
        refine ⟨(List.range len).map f, ⟨by simp, .inr ⟨b, off, rfl, hblk, fun i hi => ?_⟩⟩, .inr ⟨b, off, rfl⟩, hlc, by omega⟩
        have hi' : i < len := by simpa using hi
        have e : ((List.range len).map f)[i]'hi = f i := by simp
        rw [e]; exact hff i hi'

theorem nil_cap {W : World} {base : Nat} {r : Reach} {ad : Option Addr} {len cap : Nat} (h : Value.okWide Try.prog W r base 66 (.slice ad len cap)) (h0 : ad = none) : cap = 0 := by
  subst h0
  simp only [Value.okWide, Try.underlying66, Cell.okWide] at h
  match len, cap, h with
  | 0, 0, _ => rfl

end Go.Proofs.Ytbfdhonmmoikdaa
