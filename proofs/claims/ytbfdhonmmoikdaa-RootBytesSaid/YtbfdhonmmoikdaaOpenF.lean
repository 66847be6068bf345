/- A root among a law's arguments, opened: three numbers and a list of files. -/
import Derived.Test.YtbfdhonmmoikdaaRtM
import Derived.Test.YtbfdhonmmoikdaaOpenR
namespace Go.Proofs.Ytbfdhonmmoikdaa
open Go.ChangeShapes Go.WideShapes Go.ChangeAt Go.RowKit Go.Proofs.Pk
set_option maxRecDepth 10000

theorem openFile {H : Type} {enc : TypeId × Value → H} {W : World} {base : Nat} {spare : Nat → Bool} {held : Bool} {n : Nat} {b o : Nat} {cs : List Value} {x : DataW H × List MemPlace}
    (h1 : W.cells? base ⟨b, o, none⟩ 3 = some cs) (h2 : DataW.trod enc Try.prog W base spare held n 39 cs = some x) : ∃ u : FileV, W.rangeAt b o (fileV u) ∧ FitF u := by
  obtain ⟨_, hlen, hcell⟩ := World.cells?_some h1
  obtain ⟨xs, m, _, _, _, hxl, hf⟩ := DataW.trod_struct Try.underlying39 h2
  have c1 : Try.prog.cellsOf 3 = 1 := by kernel_rfl
  match xs, hxl, cs, hlen with
  | [y0, y1, y2], _, [v0, v1, v2], _ =>
    have g0 := hf 0 _ rfl
    have g1 := hf 1 _ rfl
    have g2 := hf 2 _ rfl
    simp [c1] at g0 g1 g2
    obtain ⟨n0, e0, _, w0⟩ := DataW.trod_int Try.underlying3 g0
    obtain ⟨n1, e1, _, w1⟩ := DataW.trod_int Try.underlying3 g1
    obtain ⟨n2, e2, _, w2⟩ := DataW.trod_int Try.underlying3 g2
    simp at e0 e1 e2
    subst e0 e1 e2
    refine ⟨(n0, n1, n2), ?_, fit_of w0, fit_of w1, fit_of w2⟩
    intro j v hv
    have hj : j < 3 := by have := (List.getElem?_eq_some_iff.1 hv).1; simpa [fileV] using this
    have := hcell j hj
    rw [Addr.add_mid] at this
    rw [this]
    simpa [fileV] using hv

/-- The files of a slice, its size known. -/
theorem openFiles {H : Type} {enc : TypeId × Value → H} {W : World} {base : Nat} {spare : Nat → Bool} {held : Bool} {fuel : Nat} {ad : Option Addr} {len cap : Nat} {x : DataW H × List MemPlace}
    (hf : DataW.trod enc Try.prog W base spare held fuel 22 [Value.slice ad len cap] = some x) (hfl : Flat ad) (hlc : len ≤ cap)
    (hsz : (DataW.weights Try.prog 22 x.1).all (· ≤ reachBytes) = true) :
    ∃ l, Files W ad len l ∧ (len : Int) * 24 ≤ 140737488351232 := by
  have c6 : Try.prog.cellsOf 39 = 3 := by kernel_rfl
  rcases Go.Deep.open_slice Try.underlying22 hf with ⟨hcs, _⟩ | ⟨a, len', cap', m, n, D, Pl, hcs, _, hl, hm, hmm, hx, hel⟩
  · simp at hcs
    obtain ⟨rfl, rfl, rfl⟩ := hcs
    exact ⟨[], ⟨rfl, .inl rfl⟩, by simp⟩
  · simp at hcs
    obtain ⟨rfl, rfl, rfl⟩ := hcs
    subst hx
    have hlen : len ≤ m := by rw [hmm]; split <;> omega
    have hb : (Try.prog.bytesOf 39) = 24 := by kernel_rfl
    have hbig : (len + (m - len)) * Try.prog.bytesOf 39 ≤ reachBytes := by
      have := List.all_eq_true.1 hsz ((len + (m - len)) * Try.prog.bytesOf 39) (by simp [DataW.weights, Try.underlying22])
      simpa using this
    rw [hb] at hbig
    simp only [reachBytes] at hbig
    by_cases h0 : len = 0
    · subst h0; exact ⟨[], ⟨rfl, .inl rfl⟩, by simp⟩
    · rw [c6] at hel
      rcases hfl with hfl | ⟨b, off, hfl⟩
      · cases hfl
      · injection hfl with hfl
        subst hfl
        have each : ∀ i, i < len → ∃ u : FileV, W.rangeAt b (off + i * 3) (fileV u) ∧ FitF u := fun i hi => by
          obtain ⟨cs', g1, g2⟩ := hel i (by omega)
          rw [Addr.add_mid] at g1
          exact openFile g1 g2
        obtain ⟨f, hff⟩ : ∃ f : Nat → FileV, ∀ i, i < len → W.rangeAt b (off + i * 3) (fileV (f i)) ∧ FitF (f i) := by
          refine ⟨fun i => if h : i < len then (each i h).choose else (0, 0, 0), fun i hi => ?_⟩
          simp only [hi, dif_pos]
          exact (each i hi).choose_spec
        have hblk : b < W.heap.size := World.block_lt_of_cell? W _ ((hff 0 (by omega)).1 0 _ rfl)
        refine ⟨(List.range len).map f, ⟨by simp, .inr ⟨b, off, rfl, hblk, fun i hi => ?_⟩⟩, by omega⟩
        have hi' : i < len := by simpa using hi
        have e : ((List.range len).map f)[i]'hi = f i := by simp
        rw [e]; exact hff i hi'

theorem openRoot {H : Type} {enc : TypeId × Value → H} {W : World} {base bas : Nat} {r : Reach} {spare : Nat → Bool} {held : Bool} {fuel : Nat} {v : Value} {d : DataW H} {p : List MemPlace} {ts : List TypeId} {ds : List (DataW H)} {j : Nat}
    (hf : DataW.trod enc Try.prog W base spare held fuel 24 v.cells.toList = some (d, p)) (hk : Value.okWide Try.prog W r bas 24 v)
    (hsz : (DataW.weightsEach Try.prog ts ds).all (· ≤ reachBytes) = true) (ht : ts[j]? = some 24) (hd : ds[j]? = some d) :
    ∃ s n c ad len cap l, v = .agg #[.int .i64 s, .int .i64 n, .int .i64 c, .slice ad len cap] ∧ Files W ad len l ∧ (Fit s ∧ Fit n ∧ Fit c ∧ Flat ad ∧ len ≤ cap ∧ (ad = none → cap = 0) ∧ (len : Int) * 24 ≤ 140737488351232) := by
  have hrow : ∃ cs, v = .agg cs ∧ cs.size = Try.prog.cellsOf 24 ∧ Row.okWide Try.prog W r bas 24 cs := by
    simpa only [Value.okWide, Try.underlying24] using hk
  obtain ⟨⟨cs⟩, rfl, hsize, ts', hts, _, hcells⟩ := hrow
  have c4 : Try.prog.cellsOf 24 = 4 := by kernel_rfl
  have hts4 : Try.prog.cellTypes Try.prog.depth 24 = some [3, 3, 3, 22] := by kernel_rfl
  rw [hts4] at hts
  injection hts with hts
  subst hts
  rw [c4] at hsize
  simp only [Value.cells] at hf
  obtain ⟨xs, m, _, hx, _, hxl, hfe⟩ := DataW.trod_struct Try.underlying24 hf
  have c1 : Try.prog.cellsOf 3 = 1 := by kernel_rfl
  have c3 : Try.prog.cellsOf 22 = 1 := by kernel_rfl
  match xs, hxl, cs, hsize with
  | [y0, y1, y2, y3], _, [v0, v1, v2, v3], _ =>
    have g0 := hfe 0 _ rfl
    have g1 := hfe 1 _ rfl
    have g2 := hfe 2 _ rfl
    have g3 := hfe 3 _ rfl
    simp [c1, c3] at g0 g1 g2 g3
    obtain ⟨n0, e0, _, w0⟩ := DataW.trod_int Try.underlying3 g0
    obtain ⟨n1, e1, _, w1⟩ := DataW.trod_int Try.underlying3 g1
    obtain ⟨n2, e2, _, w2⟩ := DataW.trod_int Try.underlying3 g2
    simp at e0 e1 e2
    subst e0 e1 e2
    have hc := hcells 3 v3 rfl
    obtain ⟨u, hu, hok⟩ := hc
    simp at hu
    subst hu
    have hsl : ∃ ad len cap, v3 = .slice ad len cap := by
      rcases Go.Deep.open_slice Try.underlying22 g3 with ⟨hcs, _⟩ | ⟨a, len', cap', m, n, D, Pl, hcs, _⟩
      · exact ⟨none, 0, 0, by simpa using hcs⟩
      · exact ⟨_, _, _, by simpa using hcs⟩
    obtain ⟨ad, len, cap, rfl⟩ := hsl
    have hflat : Flat ad ∧ len ≤ cap ∧ (ad = none → cap = 0) := by
      simp only [Cell.okWide] at hok
      cases ad with
      | none =>
        simp only [Cell.ok, Try.underlying22] at hok
        match len, cap, hok with
        | 0, 0, _ => exact ⟨.inl rfl, Nat.le_refl _, fun _ => rfl⟩
      | some a =>
        simp only [Cell.ok, Try.underlying22] at hok
        obtain ⟨h1, _, _, h2, _⟩ := hok
        obtain ⟨b, off, spot⟩ := a
        simp only at h2
        subst h2
        exact ⟨.inr ⟨b, off, rfl⟩, h1, fun h => by cases h⟩
    have hw : (DataW.weights Try.prog 22 y3.1).all (· ≤ reachBytes) = true := by
      refine List.all_eq_true.2 fun z hz => List.all_eq_true.1 hsz z (DataW.weights_mem_each ht hd z ?_)
      obtain ⟨rfl, _⟩ := Prod.mk.inj hx
      simp only [DataW.weights, Try.underlying24]
      exact DataW.weights_mem_each (j := 3) (t := 22) (d := y3.1) rfl rfl z hz
    obtain ⟨l, hl, hb⟩ := openFiles g3 hflat.1 hflat.2.1 hw
    exact ⟨n0, n1, n2, ad, len, cap, l, rfl, hl, fit_of w0, fit_of w1, fit_of w2, hflat.1, hflat.2.1, hflat.2.2, hb⟩

end Go.Proofs.Ytbfdhonmmoikdaa
