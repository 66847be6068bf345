/- OpenI, OpenLL. -/
import Derived.Test.YtfbgagpihhbllaaGreatDoorJ10
import Derived.Test.YtfbgagpihhbllaaGreatDoorProg
import Derived.SizedLaws
import Derived.ChangeSlices
import Derived.ProofKit
import Derived.Test.YtfbgagpihhbllaaGreatDoorJ42
import Derived.Deep.Slices

/- A slice of numbers among a law's arguments, opened: it reads as a list of numbers. -/
namespace Go.Proofs.YtfbgagpihhbllaaGreatDoor
open Go.ChangeShapes Go.WideShapes Go.ChangeAt Go.RowKit Go.Proofs.Pk
set_option maxRecDepth 10000

/-- Each number is one of int64. -/
def Fit64 (l : List Int) : Prop := ∀ n ∈ l, -9223372036854775808 ≤ n ∧ n ≤ 9223372036854775807

theorem openInts {H : Type} {enc : TypeId × Value → H} {W : World} {base : Nat} {spare : Nat → Bool} {held : Bool} {fuel : Nat} {ad : Option Addr} {len cap : Nat} {d : DataW H} {p : List MemPlace}
    (hf : DataW.trod enc Tryz.prog W base spare held fuel 37 (Value.slice ad len cap).cells.toList = some (d, p)) : ∃ l, Ints W ad len l ∧ Fit64 l := by
  rcases open_ints Tryz.underlying37 Tryz.underlying3 (by kernel_rfl) hf with ⟨hcs, _⟩ | ⟨a, len', cap', zs, hcs, _, hl, hm, hz, hx, hcell, hws⟩
  · simp [Value.cells] at hcs
    obtain ⟨rfl, rfl, rfl⟩ := hcs
    exact ⟨[], ⟨rfl, .inl rfl⟩, fun n hn => by cases hn⟩
  · simp [Value.cells] at hcs
    obtain ⟨rfl, rfl, rfl⟩ := hcs
    have hlen : len ≤ zs.length := by
      rw [hz]; split <;> omega
    refine ⟨zs.take len, ⟨by simp; omega, ?_⟩, fun n hn => by simpa [Lit.wf, IntKind.min, IntKind.max, IntKind.signed, IntKind.bits] using hws n (List.mem_of_mem_take hn)⟩
    by_cases h0 : len = 0
    · subst h0; exact .inl (by simp)
    · right
      obtain ⟨b, off, spot⟩ := a
      have hc := hcell 0 (by omega)
      have hspot : spot = none := by simpa [Addr.add] using World.cell?_spot hc
      subst hspot
      have hblk := World.block_lt_of_cell? W _ hc
      refine ⟨b, off, rfl, by simpa [Addr.add] using hblk, fun i hi => ?_⟩
      have hi' : i < len := by simp at hi; omega
      have hci := hcell i (by omega)
      have hi2 : i < zs.length := by omega
      have e : zs.getD i 0 = (zs.take len)[i]'hi := by simp [List.getD, hi2]
      rw [e] at hci
      have hadd : (⟨b, off, none⟩ : Addr).add i = ⟨b, off + i, none⟩ := by unfold Addr.add; split <;> simp_all
      rw [hadd] at hci
      exact hci
end Go.Proofs.YtfbgagpihhbllaaGreatDoor

/- Rows of texts, and rows of numbers, among a law's arguments, opened: they read as lists of lists. -/
namespace Go.Proofs.YtfbgagpihhbllaaGreatDoor
open Go.ChangeShapes Go.WideShapes Go.ChangeAt Go.RowKit Go.Proofs.Pk
set_option maxRecDepth 10000

/-- A row among rows: where it lies, and what it reads as. -/
structure RowS where
  ad : Option Addr
  len : Nat
  cap : Nat
  l : List (List UInt8)
structure RowI where
  ad : Option Addr
  len : Nat
  cap : Nat
  l : List Int
structure RowSAt (w : World) (b o : Nat) (r : RowS) : Prop where
  cell : w.cell? ⟨b, o, none⟩ = some (.slice r.ad r.len r.cap)
  strs : Strs w r.ad r.len r.l
  few : (r.len : Int) ≤ 140737488351232
  short : ∀ s ∈ r.l, s.length ≤ 140737488351232
structure RowIAt (w : World) (b o : Nat) (r : RowI) : Prop where
  cell : w.cell? ⟨b, o, none⟩ = some (.slice r.ad r.len r.cap)
  ints : Ints w r.ad r.len r.l
  fit : Fit64 r.l
def RowsS (w : World) (ad : Option Addr) (len : Nat) (L : List RowS) : Prop :=
  L.length = len ∧ (L = [] ∨ ∃ b off, ad = some ⟨b, off, none⟩ ∧ b < w.heap.size ∧ ∀ i (h : i < L.length), RowSAt w b (off + i) L[i])
def RowsI (w : World) (ad : Option Addr) (len : Nat) (L : List RowI) : Prop :=
  L.length = len ∧ (L = [] ∨ ∃ b off, ad = some ⟨b, off, none⟩ ∧ b < w.heap.size ∧ ∀ i (h : i < L.length), RowIAt w b (off + i) L[i])
theorem Strs.kept' {w w' : World} {ad : Option Addr} {len : Nat} {l : List (List UInt8)} (h : Strs w ad len l) (hb : Below w.heap.size w w') : Strs w' ad len l := h.below hb
theorem RowsS.at {w w' : World} {ad : Option Addr} {len : Nat} {L : List RowS} (h : RowsS w ad len L) (hb : Below w.heap.size w w') (i : Nat) (hi : i < len) : ∃ b off r, ad = some ⟨b, off, none⟩ ∧ RowSAt w' b (off + i) r ∧ r = L[i]'(by rw [h.1]; exact hi) := by
  have hl := h.1
  rcases h.2 with h0 | ⟨b, off, h1, h2, h3⟩
  · rw [h0] at hl; simp at hl; omega
  · have := h3 i (by omega)
    exact ⟨b, off, _, h1, ⟨by rw [hb.cell (p := ⟨b, off + i, none⟩) h2]; exact this.cell, this.strs.below hb, this.few, this.short⟩, rfl⟩
theorem RowsI.at {w w' : World} {ad : Option Addr} {len : Nat} {L : List RowI} (h : RowsI w ad len L) (hb : Below w.heap.size w w') (i : Nat) (hi : i < len) : ∃ b off r, ad = some ⟨b, off, none⟩ ∧ w'.cell? ⟨b, off + i, none⟩ = some (.slice r.ad r.len r.cap) ∧ Ints w r.ad r.len r.l ∧ Fit64 r.l ∧ r = L[i]'(by rw [h.1]; exact hi) := by
  have hl := h.1
  rcases h.2 with h0 | ⟨b, off, h1, h2, h3⟩
  · rw [h0] at hl; simp at hl; omega
  · have := h3 i (by omega)
    exact ⟨b, off, _, h1, by rw [hb.cell (p := ⟨b, off + i, none⟩) h2]; exact this.cell, this.ints, this.fit, rfl⟩

theorem weights_inner {H : Type} {P : Program} {t e : TypeId} {d : DataW H} {els rest : List (DataW H)} (hu : P.underlying t = some (.slice e)) (hd : d ∈ els) {ts : List TypeId} {ds : List (DataW H)} {j : Nat}
    (hsz : (DataW.weightsEach P ts ds).all (· ≤ reachBytes) = true) (ht : ts[j]? = some t) (hds : ds[j]? = some (.slice els rest)) : (DataW.weightsEach P [e] [d]).all (· ≤ reachBytes) = true := by
  rw [List.all_eq_true]
  intro n hn
  have hn' : n ∈ d.weights P e := by simpa [DataW.weightsEach] using hn
  have hw : n ∈ (DataW.slice els rest : DataW H).weights P t := by
    rw [DataW.weights, hu]
    simp only [List.mem_cons, List.mem_append]
    exact .inr (.inl (mem_weightsAll hn' hd))
  exact List.all_eq_true.1 hsz _ (DataW.weights_mem_each ht hds _ hw)

theorem openRowsS {H : Type} {enc : TypeId × Value → H} {W : World} {base : Nat} {spare : Nat → Bool} {held : Bool} {fuel : Nat} {ad : Option Addr} {len cap : Nat} {d : DataW H} {p : List MemPlace} {ts : List TypeId} {ds : List (DataW H)} {j : Nat}
    (hf : DataW.trod enc Tryz.prog W base spare held fuel 36 (Value.slice ad len cap).cells.toList = some (d, p))
    (hsz : (DataW.weightsEach Tryz.prog ts ds).all (· ≤ reachBytes) = true) (ht : ts[j]? = some 36) (hd : ds[j]? = some d) :
    ∃ L, RowsS W ad len L ∧ True := by
  rcases Go.Deep.open_slice1 Tryz.underlying36 (by kernel_rfl) hf with ⟨hcs, _⟩ | ⟨a, len', cap', m, n, V, D, Pl, hcs, _, hl, hm, hmm, hx, hel⟩
  · simp [Value.cells] at hcs
    obtain ⟨rfl, rfl, rfl⟩ := hcs
    exact ⟨[], ⟨rfl, .inl rfl⟩, trivial⟩
  · simp [Value.cells] at hcs
    obtain ⟨rfl, rfl, rfl⟩ := hcs
    obtain ⟨rfl, rfl⟩ := Prod.mk.inj hx
    have hlen : len ≤ m := by rw [hmm]; split <;> omega
    by_cases h0 : len = 0
    · subst h0; exact ⟨[], ⟨rfl, .inl rfl⟩, trivial⟩
    · obtain ⟨b, off, spot⟩ := a
      have hc := (hel 0 (by omega)).1
      have hspot : spot = none := by simpa [Addr.add] using World.cell?_spot hc
      subst hspot
      have hblk : b < W.heap.size := by have := World.block_lt_of_cell? W _ hc; simpa [Addr.add] using this
      have each : ∀ i, i < len → ∃ r, RowSAt W b (off + i) r := fun i hi => by
        obtain ⟨g1, g2⟩ := hel i (by omega)
        have hadd : (⟨b, off, none⟩ : Addr).add i = ⟨b, off + i, none⟩ := by unfold Addr.add; split <;> simp_all
        rw [hadd] at g1
        have hin := weights_inner (d := D i) Tryz.underlying36 (List.mem_map.2 ⟨i, List.mem_range.2 hi, rfl⟩) hsz ht hd
        have hsl : ∃ ad len cap, V i = .slice ad len cap := by
          rcases open_strings Tryz.underlying46 Tryz.underlying9 (by kernel_rfl) g2 with ⟨hcs, _⟩ | ⟨a, len', cap', zs, hcs, _⟩
          · exact ⟨none, 0, 0, by simpa using hcs⟩
          · exact ⟨_, _, _, by simpa using hcs⟩
        obtain ⟨ad', len', cap', hv⟩ := hsl
        rw [hv] at g1 g2
        obtain ⟨l, hs, hb1, hb2⟩ := openStrs (ts := [46]) (ds := [D i]) (j := 0) (by simpa [Value.cells] using g2) hin rfl rfl
        exact ⟨⟨ad', len', cap', l⟩, g1, hs, hb1, hb2⟩
      obtain ⟨f, hff⟩ : ∃ f : Nat → RowS, ∀ i, i < len → RowSAt W b (off + i) (f i) := by
        refine ⟨fun i => if h : i < len then (each i h).choose else ⟨none, 0, 0, []⟩, fun i hi => ?_⟩
        simp only [hi, dif_pos]
        exact (each i hi).choose_spec
      refine ⟨(List.range len).map f, ⟨by simp, .inr ⟨b, off, rfl, hblk, fun i hi => ?_⟩⟩, trivial⟩
      have hi' : i < len := by simpa using hi
      have e : ((List.range len).map f)[i]'hi = f i := by simp
      rw [e]; exact hff i hi'
theorem openRowsI {H : Type} {enc : TypeId × Value → H} {W : World} {base : Nat} {spare : Nat → Bool} {held : Bool} {fuel : Nat} {ad : Option Addr} {len cap : Nat} {d : DataW H} {p : List MemPlace}
    (hf : DataW.trod enc Tryz.prog W base spare held fuel 38 (Value.slice ad len cap).cells.toList = some (d, p)) :
    ∃ L, RowsI W ad len L ∧ True := by
  rcases Go.Deep.open_slice1 Tryz.underlying38 (by kernel_rfl) hf with ⟨hcs, _⟩ | ⟨a, len', cap', m, n, V, D, Pl, hcs, _, hl, hm, hmm, hx, hel⟩
  · simp [Value.cells] at hcs
    obtain ⟨rfl, rfl, rfl⟩ := hcs
    exact ⟨[], ⟨rfl, .inl rfl⟩, trivial⟩
  · simp [Value.cells] at hcs
    obtain ⟨rfl, rfl, rfl⟩ := hcs
    have hlen : len ≤ m := by rw [hmm]; split <;> omega
    by_cases h0 : len = 0
    · subst h0; exact ⟨[], ⟨rfl, .inl rfl⟩, trivial⟩
    · obtain ⟨b, off, spot⟩ := a
      have hc := (hel 0 (by omega)).1
      have hspot : spot = none := by simpa [Addr.add] using World.cell?_spot hc
      subst hspot
      have hblk : b < W.heap.size := by have := World.block_lt_of_cell? W _ hc; simpa [Addr.add] using this
      have each : ∀ i, i < len → ∃ r, RowIAt W b (off + i) r := fun i hi => by
        obtain ⟨g1, g2⟩ := hel i (by omega)
        have hadd : (⟨b, off, none⟩ : Addr).add i = ⟨b, off + i, none⟩ := by unfold Addr.add; split <;> simp_all
        rw [hadd] at g1
        have hsl : ∃ ad len cap, V i = .slice ad len cap := by
          rcases open_ints Tryz.underlying37 Tryz.underlying3 (by kernel_rfl) g2 with ⟨hcs, _⟩ | ⟨a, len', cap', zs, hcs, _⟩
          · exact ⟨none, 0, 0, by simpa using hcs⟩
          · exact ⟨_, _, _, by simpa using hcs⟩
        obtain ⟨ad', len', cap', hv⟩ := hsl
        rw [hv] at g1 g2
        obtain ⟨l, hs, hb1⟩ := openInts (by simpa [Value.cells] using g2)
        exact ⟨⟨ad', len', cap', l⟩, g1, hs, hb1⟩
      obtain ⟨f, hff⟩ : ∃ f : Nat → RowI, ∀ i, i < len → RowIAt W b (off + i) (f i) := by
        refine ⟨fun i => if h : i < len then (each i h).choose else ⟨none, 0, 0, []⟩, fun i hi => ?_⟩
        simp only [hi, dif_pos]
        exact (each i hi).choose_spec
      refine ⟨(List.range len).map f, ⟨by simp, .inr ⟨b, off, rfl, hblk, fun i hi => ?_⟩⟩, trivial⟩
      have hi' : i < len := by simpa using hi
      have e : ((List.range len).map f)[i]'hi = f i := by simp
      rw [e]; exact hff i hi'

end Go.Proofs.YtfbgagpihhbllaaGreatDoor
