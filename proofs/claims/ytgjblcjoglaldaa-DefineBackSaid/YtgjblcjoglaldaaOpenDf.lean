/- A definition among a law's arguments, opened (layer 18). -/
import Derived.Test.YtgjblcjoglaldaaDfM
import Derived.Test.YtgjblcjoglaldaaGen
import Derived.Test.YtgjblcjoglaldaaProg
import Derived.ChangeSlices
import Derived.SizedLaws
import Derived.SliceStrings
import Derived.ProofKit
import Derived.Deep.Slices
import Derived.Deep.MidRow
namespace Go.Proofs.Ytgjblcjoglaldaa
open Go.ChangeShapes Go.WideShapes Go.ChangeAt Go.RowKit Go.Proofs.Pk
set_option maxRecDepth 10000

/-- A step's cells. -/
def stC (u : StV) : List Value := [.int .i64 u.1, .int .i64 u.2]
def FitI (n : Int) : Prop := -9223372036854775808 ≤ n ∧ n ≤ 9223372036854775807
def FitSt (u : StV) : Prop := FitI u.1 ∧ FitI u.2
structure StAt (w : World) (b o : Nat) (u : StV) : Prop where
  row : w.rangeAt b o (stC u)
  fit : FitSt u
def StepsW (w : World) (ad : Option Addr) (len : Nat) (l : List StV) : Prop :=
  l.length = len ∧ (l = [] ∨ ∃ b off, ad = some ⟨b, off, none⟩ ∧ b < w.heap.size ∧ ∀ i (h : i < l.length), StAt w b (off + i * 2) l[i])
def FlatD (ad : Option Addr) : Prop := ad = none ∨ ∃ b off, ad = some ⟨b, off, none⟩
/-- What is known of a slice of steps among the arguments. -/
def BndS (ad : Option Addr) (len cap : Nat) : Prop := (len = 0 ∨ FlatD ad) ∧ len ≤ cap ∧ (len : Int) * 16 ≤ 140737488353280 ∧ (ad = none → len = 0 ∧ cap = 0)
/-- A definition as a value. -/
def defC (n : DTxt) (ad : Option Addr) (len cap : Nat) : Value := .agg #[.string ⟨n.toArray⟩, .slice ad len cap]
/-- A definition among the arguments. -/
def DefW (w : World) (ad : Option Addr) (len cap : Nat) (d : DefV) : Prop := StepsW w ad len d.2 ∧ BndS ad len cap ∧ (d.1.length : Int) ≤ 140737488351232
/-- .. as it comes among the arguments: its steps leave room for one more. -/
def DefA (w : World) (ad : Option Addr) (len cap : Nat) (d : DefV) : Prop := DefW w ad len cap d ∧ (len : Int) * 16 ≤ 140737488351232
theorem fit_ofI {n : Int} (h : (Lit.int .i64 n).wf = true) : FitI n := by simpa [FitI, Lit.wf, IntKind.min, IntKind.max, IntKind.signed, IntKind.bits] using h
theorem openStepW {H : Type} {enc : TypeId × Value → H} {W : World} {base : Nat} {spare : Nat → Bool} {held : Bool} {n : Nat} {b o : Nat} {cs : List Value} {x : DataW H × List MemPlace}
    (h1 : W.cells? base ⟨b, o, none⟩ 2 = some cs) (h2 : DataW.trod enc Try.prog W base spare held n 43 cs = some x) : ∃ u, StAt W b o u := by
  obtain ⟨_, hlen, hcell⟩ := World.cells?_some h1
  obtain ⟨xs, m, _, hx, _, hxl, hf⟩ := DataW.trod_struct Try.underlying43 h2
  have c1 : Try.prog.cellsOf 3 = 1 := by kernel_rfl
  match xs, hxl, cs, hlen with
  | [y0, y1], _, [v0, v1], _ =>
    have g0 := hf 0 _ rfl
    have g1 := hf 1 _ rfl
    simp [c1] at g0 g1
    obtain ⟨n0, e0, _, w0⟩ := DataW.trod_int Try.underlying3 g0
    obtain ⟨n1, e1, _, w1⟩ := DataW.trod_int Try.underlying3 g1
    simp at e0 e1
    subst e0 e1
    refine ⟨(n0, n1), ?_, fit_ofI w0, fit_ofI w1⟩
    intro j v hv
    have hj : j < 2 := by have := (List.getElem?_eq_some_iff.1 hv).1; simpa [stC] using this
    have := hcell j hj
    rw [Addr.add_mid] at this
    rw [this]
    simpa [stC] using hv
theorem openStepsX {H : Type} {enc : TypeId × Value → H} {W : World} {base : Nat} {spare : Nat → Bool} {held : Bool} {fuel : Nat} {ad : Option Addr} {len cap : Nat} {x : DataW H × List MemPlace}
    (hf : DataW.trod enc Try.prog W base spare held fuel 22 [Value.slice ad len cap] = some x) (hfl : FlatD ad) (hlc : len ≤ cap) (hn : ad = none → len = 0 ∧ cap = 0)
    (hsz : (DataW.weights Try.prog 22 x.1).all (· ≤ reachBytes) = true) : ∃ l, StepsW W ad len l ∧ BndS ad len cap ∧ (len : Int) * 16 ≤ 140737488351232 := by
  have c6 : Try.prog.cellsOf 43 = 2 := by kernel_rfl
  rcases Go.Deep.open_slice Try.underlying22 hf with ⟨hcs, _⟩ | ⟨a, len', cap', m, n, D, Pl, hcs, _, hl, hm, hmm, hx, hel⟩
  · simp at hcs
    obtain ⟨rfl, rfl, rfl⟩ := hcs
    exact ⟨[], ⟨rfl, .inl rfl⟩, ⟨.inr hfl, hlc, by simp, hn⟩, by simp⟩
  · simp at hcs
    obtain ⟨rfl, rfl, rfl⟩ := hcs
    subst hx
    have hlen : len ≤ m := by rw [hmm]; split <;> omega
    have hb : (Try.prog.bytesOf 43) = 16 := by kernel_rfl
    have hbig : (len + (m - len)) * Try.prog.bytesOf 43 ≤ reachBytes := by
      have := List.all_eq_true.1 hsz ((len + (m - len)) * Try.prog.bytesOf 43) (by simp [DataW.weights, Try.underlying22])
      simpa using this
    rw [hb] at hbig
    simp only [reachBytes] at hbig
    have hB : BndS (some a) len cap := ⟨.inr hfl, hlc, by omega, hn⟩
    by_cases h0 : len = 0
    · subst h0; exact ⟨[], ⟨rfl, .inl rfl⟩, hB, by simp⟩
    · rw [c6] at hel
      rcases hfl with hfl | ⟨b, off, hfl⟩
      · cases hfl
      · injection hfl with hfl
        subst hfl
        have each : ∀ i, i < len → ∃ u, StAt W b (off + i * 2) u := fun i hi => by
          obtain ⟨cs', g1, g2⟩ := hel i (by omega)
          rw [Addr.add_mid] at g1
          exact openStepW g1 g2
        obtain ⟨f, hff⟩ : ∃ f : Nat → StV, ∀ i, i < len → StAt W b (off + i * 2) (f i) := by
          refine ⟨fun i => if h : i < len then (each i h).choose else (0, 0), fun i hi => ?_⟩
          simp only [hi, dif_pos]
          exact (each i hi).choose_spec
        have hblk : b < W.heap.size := World.block_lt_of_cell? W _ ((hff 0 (by omega)).row 0 _ rfl)
        refine ⟨(List.range len).map f, ⟨by simp, .inr ⟨b, off, rfl, hblk, fun i hi => ?_⟩⟩, hB, by omega⟩
        have hi' : i < len := by simpa using hi
        have e : ((List.range len).map f)[i]'hi = f i := by simp
        rw [e]; exact hff i hi'
theorem cell_steps {W : World} {base : Nat} {r : Reach} {ad : Option Addr} {len cap : Nat} (h : Cell.okWide Try.prog W r base 22 (.slice ad len cap)) : FlatD ad ∧ len ≤ cap ∧ (ad = none → len = 0 ∧ cap = 0) := by
  simp only [Cell.okWide] at h
  cases ad with
  | none =>
    simp only [Cell.ok, Try.underlying22] at h
    match len, cap, h with
    | 0, 0, _ => exact ⟨.inl rfl, Nat.le_refl _, fun _ => ⟨rfl, rfl⟩⟩
  | some a =>
    simp only [Cell.ok, Try.underlying22] at h
    obtain ⟨h1, _, _, h2, _⟩ := h
    obtain ⟨b, off, spot⟩ := a
    simp only at h2
    subst h2
    exact ⟨.inr ⟨b, off, rfl⟩, h1, fun h => by cases h⟩
theorem slice_steps {H : Type} {enc : TypeId × Value → H} {W : World} {base : Nat} {spare : Nat → Bool} {held : Bool} {fuel : Nat} {v : Value} {x : DataW H × List MemPlace} (h : DataW.trod enc Try.prog W base spare held fuel 22 [v] = some x) : ∃ ad len cap, v = .slice ad len cap := by
  rcases Go.Deep.open_slice Try.underlying22 h with ⟨hcs, _⟩ | ⟨a, len', cap', m, n, D, Pl, hcs, _⟩
  · exact ⟨none, 0, 0, by simpa using hcs⟩
  · exact ⟨_, _, _, by simpa using hcs⟩
theorem openDef {H : Type} {enc : TypeId × Value → H} {W : World} {base bas : Nat} {r : Reach} {spare : Nat → Bool} {held : Bool} {fuel : Nat} {v : Value} {d : DataW H} {p : List MemPlace} {ts : List TypeId} {ds : List (DataW H)} {j : Nat}
    (hf : DataW.trod enc Try.prog W base spare held fuel 24 v.cells.toList = some (d, p)) (hk : Value.okWide Try.prog W r bas 24 v)
    (hsz : (DataW.weightsEach Try.prog ts ds).all (· ≤ reachBytes) = true) (ht : ts[j]? = some 24) (hd : ds[j]? = some d) :
    ∃ ad len cap u, v = defC u.1 ad len cap ∧ DefA W ad len cap u := by
  have hrow : ∃ cs, v = .agg cs ∧ cs.size = Try.prog.cellsOf 24 ∧ Row.okWide Try.prog W r bas 24 cs := by
    simpa only [Value.okWide, Try.underlying24] using hk
  obtain ⟨⟨cs⟩, rfl, hsize, ts', hts, _, hcells⟩ := hrow
  have c3 : Try.prog.cellsOf 24 = 2 := by kernel_rfl
  have hts3 : Try.prog.cellTypes Try.prog.depth 24 = some [9, 22] := by kernel_rfl
  rw [hts3] at hts
  injection hts with hts
  subst hts
  rw [c3] at hsize
  simp only [Value.cells] at hf
  obtain ⟨xs, m, _, hx, _, hxl, hfe⟩ := DataW.trod_struct Try.underlying24 hf
  have c1 : Try.prog.cellsOf 9 = 1 := by kernel_rfl
  have c2 : Try.prog.cellsOf 22 = 1 := by kernel_rfl
  match xs, hxl, cs, hsize with
  | [y0, y1], _, [v0, v1], _ =>
    have g0 := hfe 0 _ rfl
    have g1 := hfe 1 _ rfl
    simp [c1, c2] at g0 g1
    obtain ⟨⟨⟨s0⟩⟩, e0, e0', w0⟩ := DataW.trod_string Try.underlying9 g0
    simp at e0
    subst e0
    obtain ⟨ad, len, cap, rfl⟩ := slice_steps g1
    obtain ⟨u, hu, hok⟩ := hcells 1 _ rfl
    simp at hu
    subst hu
    obtain ⟨f1, f2, f3⟩ := cell_steps hok
    obtain ⟨rfl, _⟩ := Prod.mk.inj hx
    have hw : ∀ (k : Nat) (t : TypeId) (y : DataW H), [9, 22][k]? = some t → [y0.1, y1.1][k]? = some y → (DataW.weights Try.prog t y).all (· ≤ reachBytes) = true := fun k t y hk1 hk2 => by
      refine List.all_eq_true.2 fun z hz => List.all_eq_true.1 hsz z (DataW.weights_mem_each ht hd z ?_)
      simp only [DataW.weights, Try.underlying24]
      exact DataW.weights_mem_each (j := k) (t := t) (d := y) hk1 hk2 z hz
    obtain ⟨l, hl, hb, hst⟩ := openStepsX g1 f1 f2 f3 (hw 1 _ _ rfl rfl)
    refine ⟨ad, len, cap, (s0, l), rfl, ⟨hl, hb, ?_⟩, hst⟩
    have hs := hw 0 _ _ rfl rfl
    rw [congrArg Prod.fst e0'] at hs
    simp [DataW.weights, reachBytes] at hs
    have := of_decide_eq_true hs
    simp only
    omega

end Go.Proofs.Ytgjblcjoglaldaa
