/- OpenI, OpenJ, OpenM. -/
import Derived.Test.YtgcepbpdicadnaaJ03
import Derived.Test.YtgcepbpdicadnaaProg
import Derived.SizedLaws
import Derived.ChangeSlices
import Derived.ProofKit
import Derived.Test.YtgcepbpdicadnaaJ01
import Derived.Test.YtgcepbpdicadnaaJ02
import Derived.SliceStrings
import Derived.Deep.Slices
import Derived.Deep.MidRow

/- A slice of numbers among a law's arguments, opened: it reads as a list of numbers. -/
namespace Go.Proofs.Ytgcepbpdicadnaa
open Go.ChangeShapes Go.WideShapes Go.ChangeAt Go.RowKit Go.Proofs.Pk
set_option maxRecDepth 10000

/-- Each number is one of int64. -/
def Fit64 (l : List Int) : Prop := ∀ n ∈ l, -9223372036854775808 ≤ n ∧ n ≤ 9223372036854775807

theorem openInts {H : Type} {enc : TypeId × Value → H} {W : World} {base : Nat} {spare : Nat → Bool} {held : Bool} {fuel : Nat} {ad : Option Addr} {len cap : Nat} {d : DataW H} {p : List MemPlace}
    (hf : DataW.trod enc Try.prog W base spare held fuel 23 (Value.slice ad len cap).cells.toList = some (d, p)) : ∃ l, Ints W ad len l ∧ Fit64 l := by
  rcases open_ints Try.underlying23 Try.underlying3 (by kernel_rfl) hf with ⟨hcs, _⟩ | ⟨a, len', cap', zs, hcs, _, hl, hm, hz, hx, hcell, hws⟩
  · simp [Value.cells] at hcs
    obtain ⟨rfl, rfl, rfl⟩ := hcs
    exact ⟨[], ⟨rfl, .inl rfl⟩, fun n hn => by cases hn⟩
  · simp [Value.cells] at hcs
    obtain ⟨rfl, rfl, rfl⟩ := hcs
    have hlen : len ≤ zs.length := by
      rw [hz]; split <;> omega
    refine ⟨zs.take len, ⟨by simp; omega, ?_⟩, fun n hn => by simpa [Lit.wf, IntKind.min, IntKind.max, IntKind.signed, IntKind.bits] using hws n (List.mem_of_mem_take hn)⟩
    by_cases h0 : len = 0
    · subst h0; exact .inl (by simp)
    · right
      obtain ⟨b, off, spot⟩ := a
      have hc := hcell 0 (by omega)
      have hspot : spot = none := by simpa [Addr.add] using World.cell?_spot hc
      subst hspot
      have hblk := World.block_lt_of_cell? W _ hc
      refine ⟨b, off, rfl, by simpa [Addr.add] using hblk, fun i hi => ?_⟩
      have hi' : i < len := by simp at hi; omega
      have hci := hcell i (by omega)
      have hi2 : i < zs.length := by omega
      have e : zs.getD i 0 = (zs.take len)[i]'hi := by simp [List.getD, hi2]
      rw [e] at hci
      have hadd : (⟨b, off, none⟩ : Addr).add i = ⟨b, off + i, none⟩ := by unfold Addr.add; split <;> simp_all
      rw [hadd] at hci
      exact hci
end Go.Proofs.Ytgcepbpdicadnaa

/- A slice of ints among a law's arguments, opened, with how long it may be. -/
namespace Go.Proofs.Ytgcepbpdicadnaa
open Go.ChangeShapes Go.WideShapes Go.ChangeAt Go.RowKit Go.Proofs.Pk
set_option maxRecDepth 10000

theorem lits_length {H : Type} {k : IntKind} (zs : List Int) : (lits k zs : List (DataW H)).length = zs.length := by
  induction zs with
  | nil => rfl
  | cons z zs ih => simp [lits] at *
theorem openIntsJ {H : Type} {enc : TypeId × Value → H} {W : World} {base : Nat} {spare : Nat → Bool} {held : Bool} {fuel : Nat} {ad : Option Addr} {len cap : Nat} {d : DataW H} {p : List MemPlace} {ts : List TypeId} {ds : List (DataW H)} {j : Nat}
    (hf : DataW.trod enc Try.prog W base spare held fuel 23 (Value.slice ad len cap).cells.toList = some (d, p))
    (hsz : (DataW.weightsEach Try.prog ts ds).all (· ≤ reachBytes) = true) (ht : ts[j]? = some 23) (hd : ds[j]? = some d) :
    ∃ l, Ints W ad len l ∧ (Fit64 l ∧ len ≤ cap ∧ (len : Int) * 8 ≤ 140737488351232 ∧ (ad = none → len = 0 ∧ cap = 0)) := by
  obtain ⟨l, hl, hfit⟩ := openInts hf
  refine ⟨l, hl, hfit, ?_⟩
  rcases open_ints Try.underlying23 Try.underlying3 (by kernel_rfl) hf with ⟨hcs, _⟩ | ⟨a, len', cap', zs, hcs, _, hlc, hm, hz, hx, hcell, hws⟩
  · simp [Value.cells] at hcs
    obtain ⟨rfl, rfl, rfl⟩ := hcs
    exact ⟨Nat.le_refl _, by simp, fun _ => ⟨rfl, rfl⟩⟩
  · simp [Value.cells] at hcs
    obtain ⟨rfl, rfl, rfl⟩ := hcs
    obtain ⟨rfl, rfl⟩ := Prod.mk.inj hx
    have hlen : len ≤ zs.length := by rw [hz]; split <;> omega
    have hb : (Try.prog.bytesOf 3) = 8 := by kernel_rfl
    have hbig := sized_slice hsz ht hd Try.underlying23
    rw [hb, lits_length, lits_length, List.length_take, List.length_drop] at hbig
    simp only [reachBytes] at hbig
    exact ⟨hlc, by omega, fun h => by cases h⟩
end Go.Proofs.Ytgcepbpdicadnaa

/- A slice of tables' descriptions among a law's arguments, a version, an edit, opened. -/
namespace Go.Proofs.Ytgcepbpdicadnaa
open Go.ChangeShapes Go.WideShapes Go.ChangeAt Go.RowKit Go.Proofs.Pk
set_option maxRecDepth 10000

/-- A table's cells. -/
def metaC (u : MetaV) : List Value := [.int .i64 u.1, .int .i64 u.2.1, .string ⟨u.2.2.1.toArray⟩, .string ⟨u.2.2.2.1.toArray⟩, .int .i64 u.2.2.2.2]
def FitV (n : Int) : Prop := -9223372036854775808 ≤ n ∧ n ≤ 9223372036854775807
def FitMV (u : MetaV) : Prop := FitV u.1 ∧ FitV u.2.1 ∧ FitV u.2.2.2.2
structure MetaAt (w : World) (b o : Nat) (u : MetaV) : Prop where
  row : w.rangeAt b o (metaC u)
  fit : FitMV u
def MetasW (w : World) (ad : Option Addr) (len : Nat) (l : List MetaV) : Prop :=
  l.length = len ∧ (l = [] ∨ ∃ b off, ad = some ⟨b, off, none⟩ ∧ b < w.heap.size ∧ ∀ i (h : i < l.length), MetaAt w b (off + i * 5) l[i])
def FlatV (ad : Option Addr) : Prop := ad = none ∨ ∃ b off, ad = some ⟨b, off, none⟩
theorem fit_ofV {n : Int} (h : (Lit.int .i64 n).wf = true) : FitV n := by simpa [FitV, Lit.wf, IntKind.min, IntKind.max, IntKind.signed, IntKind.bits] using h

theorem openMetaW {H : Type} {enc : TypeId × Value → H} {W : World} {base : Nat} {spare : Nat → Bool} {held : Bool} {n : Nat} {b o : Nat} {cs : List Value} {x : DataW H × List MemPlace}
    (h1 : W.cells? base ⟨b, o, none⟩ 5 = some cs) (h2 : DataW.trod enc Try.prog W base spare held n 49 cs = some x) : ∃ u, MetaAt W b o u := by
  obtain ⟨_, hlen, hcell⟩ := World.cells?_some h1
  obtain ⟨xs, m, _, hx, _, hxl, hf⟩ := DataW.trod_struct Try.underlying49 h2
  have c1 : Try.prog.cellsOf 3 = 1 := by kernel_rfl
  have c2 : Try.prog.cellsOf 9 = 1 := by kernel_rfl
  match xs, hxl, cs, hlen with
  | [y0, y1, y2, y3, y4], _, [v0, v1, v2, v3, v4], _ =>
    have g0 := hf 0 _ rfl
    have g1 := hf 1 _ rfl
    have g2 := hf 2 _ rfl
    have g3 := hf 3 _ rfl
    have g4 := hf 4 _ rfl
    simp [c1, c2] at g0 g1 g2 g3 g4
    obtain ⟨n0, e0, _, w0⟩ := DataW.trod_int Try.underlying3 g0
    obtain ⟨n1, e1, _, w1⟩ := DataW.trod_int Try.underlying3 g1
    obtain ⟨⟨⟨s2⟩⟩, e2, _, w2⟩ := DataW.trod_string Try.underlying9 g2
    obtain ⟨⟨⟨s3⟩⟩, e3, _, w3⟩ := DataW.trod_string Try.underlying9 g3
    obtain ⟨n4, e4, _, w4⟩ := DataW.trod_int Try.underlying3 g4
    simp at e0 e1 e2 e3 e4
    subst e0 e1 e2 e3 e4
    refine ⟨(n0, n1, s2, s3, n4), ?_, fit_ofV w0, fit_ofV w1, fit_ofV w4⟩
    intro j v hv
    have hj : j < 5 := by have := (List.getElem?_eq_some_iff.1 hv).1; simpa [metaC] using this
    have := hcell j hj
    rw [Addr.add_mid] at this
    rw [this]
    simpa [metaC] using hv
theorem flat_ofM {W : World} {base : Nat} {r : Reach} {ad : Option Addr} {len cap : Nat} (h : Value.okWide Try.prog W r base 22 (.slice ad len cap)) : FlatV ad ∧ len ≤ cap ∧ (ad = none → len = 0 ∧ cap = 0) := by
  simp only [Value.okWide, Try.underlying22, Cell.okWide] at h
  cases ad with
  | none =>
    refine ⟨.inl rfl, ?_⟩
    match len, cap, h with
    | 0, 0, _ => exact ⟨Nat.le_refl _, fun _ => ⟨rfl, rfl⟩⟩
  | some a =>
    simp only [Cell.ok, Try.underlying22] at h
    obtain ⟨h1, _, _, h2, _⟩ := h
    obtain ⟨b, off, spot⟩ := a
    simp only at h2
    subst h2
    exact ⟨.inr ⟨b, off, rfl⟩, h1, fun h => by cases h⟩
/-- What is known of a slice of tables' descriptions among the arguments. -/
def BndM (ad : Option Addr) (len cap : Nat) : Prop := FlatV ad ∧ len ≤ cap ∧ (len : Int) * 56 ≤ 140737488351232 ∧ (ad = none → len = 0 ∧ cap = 0)
theorem openMetasX {H : Type} {enc : TypeId × Value → H} {W : World} {base : Nat} {spare : Nat → Bool} {held : Bool} {fuel : Nat} {ad : Option Addr} {len cap : Nat} {x : DataW H × List MemPlace}
    (hf : DataW.trod enc Try.prog W base spare held fuel 22 [Value.slice ad len cap] = some x) (hfl : FlatV ad) (hlc : len ≤ cap) (hn : ad = none → len = 0 ∧ cap = 0)
    (hsz : (DataW.weights Try.prog 22 x.1).all (· ≤ reachBytes) = true) : ∃ l, MetasW W ad len l ∧ BndM ad len cap := by
  have c6 : Try.prog.cellsOf 49 = 5 := by kernel_rfl
  rcases Go.Deep.open_slice Try.underlying22 hf with ⟨hcs, _⟩ | ⟨a, len', cap', m, n, D, Pl, hcs, _, hl, hm, hmm, hx, hel⟩
  · simp at hcs
    obtain ⟨rfl, rfl, rfl⟩ := hcs
    exact ⟨[], ⟨rfl, .inl rfl⟩, hfl, hlc, by simp, hn⟩
  · simp at hcs
    obtain ⟨rfl, rfl, rfl⟩ := hcs
    subst hx
    have hlen : len ≤ m := by rw [hmm]; split <;> omega
    have hb : (Try.prog.bytesOf 49) = 56 := by kernel_rfl
    have hbig : (len + (m - len)) * Try.prog.bytesOf 49 ≤ reachBytes := by
      have := List.all_eq_true.1 hsz ((len + (m - len)) * Try.prog.bytesOf 49) (by simp [DataW.weights, Try.underlying22])
      simpa using this
    rw [hb] at hbig
    simp only [reachBytes] at hbig
    have hB : BndM (some a) len cap := ⟨hfl, hlc, by omega, hn⟩
    by_cases h0 : len = 0
    · subst h0; exact ⟨[], ⟨rfl, .inl rfl⟩, hB⟩
    · rw [c6] at hel
      rcases hfl with hfl | ⟨b, off, hfl⟩
      · cases hfl
      · injection hfl with hfl
        subst hfl
        have each : ∀ i, i < len → ∃ u, MetaAt W b (off + i * 5) u := fun i hi => by
          obtain ⟨cs', g1, g2⟩ := hel i (by omega)
          rw [Addr.add_mid] at g1
          exact openMetaW g1 g2
        obtain ⟨f, hff⟩ : ∃ f : Nat → MetaV, ∀ i, i < len → MetaAt W b (off + i * 5) (f i) := by
          refine ⟨fun i => if h : i < len then (each i h).choose else (0, 0, [], [], 0), fun i hi => ?_⟩
          simp only [hi, dif_pos]
          exact (each i hi).choose_spec
        have hblk : b < W.heap.size := World.block_lt_of_cell? W _ ((hff 0 (by omega)).row 0 _ rfl)
        refine ⟨(List.range len).map f, ⟨by simp, .inr ⟨b, off, rfl, hblk, fun i hi => ?_⟩⟩, hB⟩
        have hi' : i < len := by simpa using hi
        have e : ((List.range len).map f)[i]'hi = f i := by simp
        rw [e]; exact hff i hi'
theorem openMetas {H : Type} {enc : TypeId × Value → H} {W : World} {base bas : Nat} {r : Reach} {spare : Nat → Bool} {held : Bool} {fuel : Nat} {ad : Option Addr} {len cap : Nat} {d : DataW H} {p : List MemPlace} {ts : List TypeId} {ds : List (DataW H)} {j : Nat}
    (hf : DataW.trod enc Try.prog W base spare held fuel 22 (Value.slice ad len cap).cells.toList = some (d, p)) (hk : Value.okWide Try.prog W r bas 22 (.slice ad len cap))
    (hsz : (DataW.weightsEach Try.prog ts ds).all (· ≤ reachBytes) = true) (ht : ts[j]? = some 22) (hd : ds[j]? = some d) :
    ∃ l, MetasW W ad len l ∧ BndM ad len cap := by
  obtain ⟨h1, h2, h3⟩ := flat_ofM hk
  exact openMetasX hf h1 h2 h3 (List.all_eq_true.2 fun z hz => List.all_eq_true.1 hsz z (DataW.weights_mem_each ht hd z hz))

/-- What is known of a slice of numbers among the arguments. -/
def BndI (ad : Option Addr) (len cap : Nat) (l : List Int) : Prop := Fit64 l ∧ len ≤ cap ∧ (len : Int) * 8 ≤ 140737488351232 ∧ (ad = none → len = 0 ∧ cap = 0)
theorem openIntsX {H : Type} {enc : TypeId × Value → H} {W : World} {base : Nat} {spare : Nat → Bool} {held : Bool} {fuel : Nat} {ad : Option Addr} {len cap : Nat} {x : DataW H × List MemPlace}
    (hf : DataW.trod enc Try.prog W base spare held fuel 23 [Value.slice ad len cap] = some x) (hsz : (DataW.weights Try.prog 23 x.1).all (· ≤ reachBytes) = true) : ∃ l, Ints W ad len l ∧ BndI ad len cap l := by
  obtain ⟨d, p⟩ := x
  obtain ⟨l, h1, h2⟩ := openIntsJ (ts := [23]) (ds := [d]) (j := 0) hf (List.all_eq_true.2 fun z hz => List.all_eq_true.1 hsz z (by simpa [DataW.weightsEach] using hz)) rfl rfl
  exact ⟨l, h1, h2⟩

/-- A version as a value. -/
def verC (ad : Option Addr) (len cap : Nat) (ad2 : Option Addr) (len2 cap2 : Nat) (s : Int) : Value := .agg #[.slice ad len cap, .slice ad2 len2 cap2, .int .i64 s]
/-- An edit as a value. -/
def edC (ad : Option Addr) (len cap : Nat) (ad2 : Option Addr) (len2 cap2 : Nat) (ad3 : Option Addr) (len3 cap3 : Nat) (ad4 : Option Addr) (len4 cap4 : Nat) (s : Int) : Value :=
  .agg #[.slice ad len cap, .slice ad2 len2 cap2, .slice ad3 len3 cap3, .slice ad4 len4 cap4, .int .i64 s]
/-- A version among the arguments. -/
def VerW (w : World) (ad : Option Addr) (len cap : Nat) (ad2 : Option Addr) (len2 cap2 : Nat) (v : VerV) : Prop :=
  MetasW w ad len v.1 ∧ BndM ad len cap ∧ Ints w ad2 len2 v.2.1 ∧ BndI ad2 len2 cap2 v.2.1 ∧ FitV v.2.2
def EdW (w : World) (ad : Option Addr) (len cap : Nat) (ad2 : Option Addr) (len2 cap2 : Nat) (ad3 : Option Addr) (len3 cap3 : Nat) (ad4 : Option Addr) (len4 cap4 : Nat) (e : EdV) : Prop :=
  MetasW w ad len e.1 ∧ BndM ad len cap ∧ Ints w ad2 len2 e.2.1 ∧ BndI ad2 len2 cap2 e.2.1 ∧ Ints w ad3 len3 e.2.2.1 ∧ BndI ad3 len3 cap3 e.2.2.1 ∧ Ints w ad4 len4 e.2.2.2.1 ∧ BndI ad4 len4 cap4 e.2.2.2.1 ∧ FitV e.2.2.2.2
theorem cell_metas {W : World} {base : Nat} {r : Reach} {ad : Option Addr} {len cap : Nat} (h : Cell.okWide Try.prog W r base 22 (.slice ad len cap)) : FlatV ad ∧ len ≤ cap ∧ (ad = none → len = 0 ∧ cap = 0) := by
  simp only [Cell.okWide] at h
  cases ad with
  | none =>
    simp only [Cell.ok, Try.underlying22] at h
    match len, cap, h with
    | 0, 0, _ => exact ⟨.inl rfl, Nat.le_refl _, fun _ => ⟨rfl, rfl⟩⟩
  | some a =>
    simp only [Cell.ok, Try.underlying22] at h
    obtain ⟨h1, _, _, h2, _⟩ := h
    obtain ⟨b, off, spot⟩ := a
    simp only at h2
    subst h2
    exact ⟨.inr ⟨b, off, rfl⟩, h1, fun h => by cases h⟩
theorem slice_metas {H : Type} {enc : TypeId × Value → H} {W : World} {base : Nat} {spare : Nat → Bool} {held : Bool} {fuel : Nat} {v : Value} {x : DataW H × List MemPlace} (h : DataW.trod enc Try.prog W base spare held fuel 22 [v] = some x) : ∃ ad len cap, v = .slice ad len cap := by
  rcases Go.Deep.open_slice Try.underlying22 h with ⟨hcs, _⟩ | ⟨a, len', cap', m, n, D, Pl, hcs, _⟩
  · exact ⟨none, 0, 0, by simpa using hcs⟩
  · exact ⟨_, _, _, by simpa using hcs⟩
theorem slice_ints {H : Type} {enc : TypeId × Value → H} {W : World} {base : Nat} {spare : Nat → Bool} {held : Bool} {fuel : Nat} {v : Value} {x : DataW H × List MemPlace} (h : DataW.trod enc Try.prog W base spare held fuel 23 [v] = some x) : ∃ ad len cap, v = .slice ad len cap := by
  rcases Go.Deep.open_slice Try.underlying23 h with ⟨hcs, _⟩ | ⟨a, len', cap', m, n, D, Pl, hcs, _⟩
  · exact ⟨none, 0, 0, by simpa using hcs⟩
  · exact ⟨_, _, _, by simpa using hcs⟩

theorem openVer {H : Type} {enc : TypeId × Value → H} {W : World} {base bas : Nat} {r : Reach} {spare : Nat → Bool} {held : Bool} {fuel : Nat} {v : Value} {d : DataW H} {p : List MemPlace} {ts : List TypeId} {ds : List (DataW H)} {j : Nat}
    (hf : DataW.trod enc Try.prog W base spare held fuel 25 v.cells.toList = some (d, p)) (hk : Value.okWide Try.prog W r bas 25 v)
    (hsz : (DataW.weightsEach Try.prog ts ds).all (· ≤ reachBytes) = true) (ht : ts[j]? = some 25) (hd : ds[j]? = some d) :
    ∃ ad len cap ad2 len2 cap2 u, v = verC ad len cap ad2 len2 cap2 u.2.2 ∧ VerW W ad len cap ad2 len2 cap2 u := by
  have hrow : ∃ cs, v = .agg cs ∧ cs.size = Try.prog.cellsOf 25 ∧ Row.okWide Try.prog W r bas 25 cs := by
    simpa only [Value.okWide, Try.underlying25] using hk
  obtain ⟨⟨cs⟩, rfl, hsize, ts', hts, _, hcells⟩ := hrow
  have c3 : Try.prog.cellsOf 25 = 3 := by kernel_rfl
  have hts3 : Try.prog.cellTypes Try.prog.depth 25 = some [22, 23, 3] := by kernel_rfl
  rw [hts3] at hts
  injection hts with hts
  subst hts
  rw [c3] at hsize
  simp only [Value.cells] at hf
  obtain ⟨xs, m, _, hx, _, hxl, hfe⟩ := DataW.trod_struct Try.underlying25 hf
  have c1 : Try.prog.cellsOf 3 = 1 := by kernel_rfl
  have c2 : Try.prog.cellsOf 22 = 1 := by kernel_rfl
  have c4 : Try.prog.cellsOf 23 = 1 := by kernel_rfl
  match xs, hxl, cs, hsize with
  | [y0, y1, y2], _, [v0, v1, v2], _ =>
    have g0 := hfe 0 _ rfl
    have g1 := hfe 1 _ rfl
    have g2 := hfe 2 _ rfl
    simp [c1, c2, c4] at g0 g1 g2
    obtain ⟨n2, e2, _, w2⟩ := DataW.trod_int Try.underlying3 g2
    simp at e2
    subst e2
    obtain ⟨ad, len, cap, rfl⟩ := slice_metas g0
    obtain ⟨ad2, len2, cap2, rfl⟩ := slice_ints g1
    obtain ⟨u, hu, hok⟩ := hcells 0 _ rfl
    simp at hu
    subst hu
    obtain ⟨f1, f2, f3⟩ := cell_metas hok
    obtain ⟨rfl, _⟩ := Prod.mk.inj hx
    have hw0 : (DataW.weights Try.prog 22 y0.1).all (· ≤ reachBytes) = true := by
      refine List.all_eq_true.2 fun z hz => List.all_eq_true.1 hsz z (DataW.weights_mem_each ht hd z ?_)
      simp only [DataW.weights, Try.underlying25]
      exact DataW.weights_mem_each (j := 0) (t := 22) (d := y0.1) rfl rfl z hz
    have hw1 : (DataW.weights Try.prog 23 y1.1).all (· ≤ reachBytes) = true := by
      refine List.all_eq_true.2 fun z hz => List.all_eq_true.1 hsz z (DataW.weights_mem_each ht hd z ?_)
      simp only [DataW.weights, Try.underlying25]
      exact DataW.weights_mem_each (j := 1) (t := 23) (d := y1.1) rfl rfl z hz
    obtain ⟨l, hl, hb⟩ := openMetasX g0 f1 f2 f3 hw0
    obtain ⟨l1, hl1, hb1⟩ := openIntsX g1 hw1
    exact ⟨ad, len, cap, ad2, len2, cap2, (l, l1, n2), rfl, hl, hb, hl1, hb1, fit_ofV w2⟩

end Go.Proofs.Ytgcepbpdicadnaa
