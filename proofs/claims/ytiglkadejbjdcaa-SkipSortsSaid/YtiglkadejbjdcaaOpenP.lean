/- A slice of puts among a law's arguments, opened: it reads as a list of puts. -/
import Derived.Test.YtiglkadejbjdcaaSkK
import Derived.Test.YtiglkadejbjdcaaProg
import Derived.SizedLaws
import Derived.SliceStrings
import Derived.ProofKit
import Derived.Deep.Slices
namespace Go.Proofs.Ytiglkadejbjdcaa
open Go.ChangeShapes Go.WideShapes Go.ChangeAt Go.RowKit Go.Proofs.Pk
set_option maxRecDepth 10000

/-- A put among a law's arguments. -/
structure PutW where
  key : List UInt8
  value : List UInt8
  h : Int
def pcW (u : PutW) : List Value := [.string ⟨u.key.toArray⟩, .string ⟨u.value.toArray⟩, .int .i64 u.h]
structure PutWAt (w : World) (b o : Nat) (u : PutW) : Prop where
  row : ∀ j v, (pcW u)[j]? = some v → w.cell? ⟨b, o + j, none⟩ = some v
  fit : FitH u.h
def PutsW (w : World) (ad : Option Addr) (len : Nat) (l : List PutW) : Prop :=
  l.length = len ∧ (l = [] ∨ ∃ b off, ad = some ⟨b, off, none⟩ ∧ b < w.heap.size ∧ ∀ i (h : i < l.length), PutWAt w b (off + i * 3) l[i])
theorem putsW_at {w w' : World} {ad : Option Addr} {len : Nat} {l : List PutW} (h : PutsW w ad len l) (hb : Below w.heap.size w w') (i : Nat) (hi : i < len) : ∃ b off, ad = some ⟨b, off, none⟩ ∧ b < w.heap.size ∧ ∃ h' : i < l.length, FitH (l[i]).h ∧
    w'.cell? ⟨b, off + i * 3, none⟩ = some (.string ⟨(l[i]).key.toArray⟩) ∧ w'.cell? ⟨b, off + i * 3 + 1, none⟩ = some (.string ⟨(l[i]).value.toArray⟩) ∧ w'.cell? ⟨b, off + i * 3 + 2, none⟩ = some (.int .i64 (l[i]).h) := by
  have hl := h.1
  rcases h.2 with h0 | ⟨b, off, h1, h2, h3⟩
  · rw [h0] at hl; simp at hl; omega
  · have hp := h3 i (by omega)
    have c := fun (j : Nat) (v : Value) (hv : (pcW (l[i]'(by omega)))[j]? = some v) => (hb.cell (p := ⟨b, off + i * 3 + j, none⟩) h2).trans (hp.row j v hv)
    exact ⟨b, off, h1, h2, by omega, hp.fit, c 0 _ rfl, c 1 _ rfl, c 2 _ rfl⟩
theorem fit_ofH {n : Int} (h : (Lit.int .i64 n).wf = true) : FitH n := by simpa [FitH, Lit.wf, IntKind.min, IntKind.max, IntKind.signed, IntKind.bits] using h

theorem mem_weightsAllP {H : Type} {P : Program} {e : TypeId} {d : DataW H} {n : Nat} (hn : n ∈ d.weights P e) : ∀ {l : List (DataW H)}, d ∈ l → n ∈ DataW.weightsAll P e l
  | a :: l, h => by
    rw [DataW.weightsAll, List.mem_append]
    rcases List.mem_cons.1 h with rfl | h
    · exact .inl hn
    · exact .inr (mem_weightsAllP hn h)
theorem openPutW {H : Type} {enc : TypeId × Value → H} {W : World} {base : Nat} {spare : Nat → Bool} {held : Bool} {n : Nat} {b o : Nat} {cs : List Value} {x : DataW H × List MemPlace}
    (h1 : W.cells? base ⟨b, o, none⟩ 3 = some cs) (h2 : DataW.trod enc Try.prog W base spare held n 31 cs = some x) : ∃ u, PutWAt W b o u ∧ u.key.length ∈ x.1.weights Try.prog 31 := by
  obtain ⟨_, hlen, hcell⟩ := World.cells?_some h1
  obtain ⟨xs, m, _, hx, _, hxl, hf⟩ := DataW.trod_struct Try.underlying31 h2
  have c1 : Try.prog.cellsOf 3 = 1 := by kernel_rfl
  have c2 : Try.prog.cellsOf 9 = 1 := by kernel_rfl
  match xs, hxl, cs, hlen with
  | [y0, y1, y2], _, [v0, v1, v2], _ =>
    have g0 := hf 0 _ rfl
    have g1 := hf 1 _ rfl
    have g2 := hf 2 _ rfl
    simp [c1, c2] at g0 g1 g2
    obtain ⟨⟨⟨s0⟩⟩, e0, x0, w0⟩ := DataW.trod_string Try.underlying9 g0
    obtain ⟨⟨⟨s1⟩⟩, e1, _, w1⟩ := DataW.trod_string Try.underlying9 g1
    obtain ⟨n2, e2, _, w2⟩ := DataW.trod_int Try.underlying3 g2
    simp at e0 e1 e2
    subst e0 e1 e2
    refine ⟨⟨s0, s1, n2⟩, ⟨?_, fit_ofH w2⟩, ?_⟩
    · intro j v hv
      have hj : j < 3 := by have := (List.getElem?_eq_some_iff.1 hv).1; simpa [pcW] using this
      have := hcell j hj
      rw [Addr.add_mid] at this
      rw [this]
      simpa [pcW] using hv
    · rw [hx, x0]
      simp [DataW.weights, DataW.weightsEach, Try.underlying31]

theorem openPutsW {H : Type} {enc : TypeId × Value → H} {W : World} {base : Nat} {spare : Nat → Bool} {held : Bool} {fuel : Nat} {ad : Option Addr} {len cap : Nat} {d : DataW H} {p : List MemPlace} {ts : List TypeId} {ds : List (DataW H)} {j : Nat}
    (hf : DataW.trod enc Try.prog W base spare held fuel 22 (Value.slice ad len cap).cells.toList = some (d, p))
    (hsz : (DataW.weightsEach Try.prog ts ds).all (· ≤ reachBytes) = true) (ht : ts[j]? = some 22) (hd : ds[j]? = some d) :
    ∃ l, PutsW W ad len l ∧ ((∀ u ∈ l, u.key.length ≤ 140737488351232) ∧ len ≤ cap) := by
  have c6 : Try.prog.cellsOf 31 = 3 := by kernel_rfl
  rcases Go.Deep.open_slice Try.underlying22 hf with ⟨hcs, _⟩ | ⟨a, len', cap', m, n, D, Pl, hcs, _, hl, hm, hmm, hx, hel⟩
  · simp [Value.cells] at hcs
    obtain ⟨rfl, rfl, rfl⟩ := hcs
    exact ⟨[], ⟨rfl, .inl rfl⟩, by simp, Nat.le_refl _⟩
  · simp [Value.cells] at hcs
    obtain ⟨rfl, rfl, rfl⟩ := hcs
    obtain ⟨rfl, rfl⟩ := Prod.mk.inj hx
    have hlen : len ≤ m := by rw [hmm]; split <;> omega
    have hbig : ∀ i, i < len → ∀ z ∈ (D i).weights Try.prog 31, z ≤ 140737488351232 := fun i hi z hz => by
      have hw : z ∈ (DataW.slice ((List.range len).map D) ((List.range (m - len)).map fun j => D (len + j)) : DataW H).weights Try.prog 22 := by
        rw [DataW.weights, Try.underlying22]
        simp only [List.mem_cons, List.mem_append]
        exact .inr (.inl (mem_weightsAllP hz (List.mem_map.2 ⟨i, by simpa using hi, rfl⟩)))
      have := List.all_eq_true.1 hsz _ (DataW.weights_mem_each ht hd _ hw)
      exact of_decide_eq_true this
    by_cases h0 : len = 0
    · subst h0; exact ⟨[], ⟨rfl, .inl rfl⟩, by simp, hl⟩
    · rw [c6] at hel
      obtain ⟨b, off, spot⟩ := a
      have hspot : spot = none := by
        obtain ⟨cs', g1, _⟩ := hel 0 (by omega)
        obtain ⟨_, hl3, hc⟩ := World.cells?_some g1
        have hc0 := hc 0 (by omega)
        have : ∃ v, cs'[0]? = some v := ⟨cs'[0]'(by omega), by rw [List.getElem?_eq_getElem (by omega)]⟩
        obtain ⟨v, hv⟩ := this
        rw [hv] at hc0
        simpa [Addr.add] using World.cell?_spot hc0
      subst hspot
      have each : ∀ i, i < len → ∃ u, PutWAt W b (off + i * 3) u ∧ u.key.length ≤ 140737488351232 := fun i hi => by
        obtain ⟨cs', g1, g2⟩ := hel i (by omega)
        rw [Addr.add_mid] at g1
        obtain ⟨u, hu, hk⟩ := openPutW g1 g2
        exact ⟨u, hu, hbig i hi _ hk⟩
      obtain ⟨f, hff⟩ : ∃ f : Nat → PutW, ∀ i, i < len → PutWAt W b (off + i * 3) (f i) ∧ (f i).key.length ≤ 140737488351232 := by
        refine ⟨fun i => if h : i < len then (each i h).choose else ⟨[], [], 0⟩, fun i hi => ?_⟩
        simp only [hi, dif_pos]
        exact (each i hi).choose_spec
      have hblk : b < W.heap.size := by
        have := (hff 0 (by omega)).1.row 0 _ rfl
        exact World.block_lt_of_cell? W _ this
      refine ⟨(List.range len).map f, ⟨by simp, .inr ⟨b, off, rfl, hblk, fun i hi => ?_⟩⟩, fun u hu => ?_, hl⟩
      · have hi' : i < len := by simpa using hi
        have e : ((List.range len).map f)[i]'hi = f i := by simp
        rw [e]; exact (hff i hi').1
      · obtain ⟨i, hi, rfl⟩ := List.mem_map.1 hu
        exact (hff i (by simpa using hi)).2

end Go.Proofs.Ytiglkadejbjdcaa
