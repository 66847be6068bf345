/- An edit among a law's arguments, opened (layer 14). -/
import Derived.Test.YtjdolimeibpacaaGreatJ04
namespace Go.Proofs.YtjdolimeibpacaaGreat
open Go.ChangeShapes Go.WideShapes Go.ChangeAt Go.RowKit Go.Proofs.Pk
set_option maxRecDepth 10000

theorem openEd {H : Type} {enc : TypeId × Value → H} {W : World} {base bas : Nat} {r : Reach} {spare : Nat → Bool} {held : Bool} {fuel : Nat} {v : Value} {d : DataW H} {p : List MemPlace} {ts : List TypeId} {ds : List (DataW H)} {j : Nat}
    (hf : DataW.trod enc Tryz.prog W base spare held fuel 25 v.cells.toList = some (d, p)) (hk : Value.okWide Tryz.prog W r bas 25 v)
    (hsz : (DataW.weightsEach Tryz.prog ts ds).all (· ≤ reachBytes) = true) (ht : ts[j]? = some 25) (hd : ds[j]? = some d) :
    ∃ ad len cap ad2 len2 cap2 ad3 len3 cap3 ad4 len4 cap4 u, v = edC ad len cap ad2 len2 cap2 ad3 len3 cap3 ad4 len4 cap4 u.2.2.2.2 ∧ EdW W ad len cap ad2 len2 cap2 ad3 len3 cap3 ad4 len4 cap4 u := by
  have hrow : ∃ cs, v = .agg cs ∧ cs.size = Tryz.prog.cellsOf 25 ∧ Row.okWide Tryz.prog W r bas 25 cs := by
    simpa only [Value.okWide, Tryz.underlying25] using hk
  obtain ⟨⟨cs⟩, rfl, hsize, ts', hts, _, hcells⟩ := hrow
  have c3 : Tryz.prog.cellsOf 25 = 5 := by kernel_rfl
  have hts3 : Tryz.prog.cellTypes Tryz.prog.depth 25 = some [22, 23, 23, 23, 3] := by kernel_rfl
  rw [hts3] at hts
  injection hts with hts
  subst hts
  rw [c3] at hsize
  simp only [Value.cells] at hf
  obtain ⟨xs, m, _, hx, _, hxl, hfe⟩ := DataW.trod_struct Tryz.underlying25 hf
  have c1 : Tryz.prog.cellsOf 3 = 1 := by kernel_rfl
  have c2 : Tryz.prog.cellsOf 22 = 1 := by kernel_rfl
  have c4 : Tryz.prog.cellsOf 23 = 1 := by kernel_rfl
  match xs, hxl, cs, hsize with
  | [y0, y1, y2, y3, y4], _, [v0, v1, v2, v3, v4], _ =>
    have g0 := hfe 0 _ rfl
    have g1 := hfe 1 _ rfl
    have g2 := hfe 2 _ rfl
    have g3 := hfe 3 _ rfl
    have g4 := hfe 4 _ rfl
    simp [c1, c2, c4] at g0 g1 g2 g3 g4
    obtain ⟨n4, e4, _, w4⟩ := DataW.trod_int Tryz.underlying3 g4
    simp at e4
    subst e4
    obtain ⟨ad, len, cap, rfl⟩ := slice_metas g0
    obtain ⟨ad2, len2, cap2, rfl⟩ := slice_ints g1
    obtain ⟨ad3, len3, cap3, rfl⟩ := slice_ints g2
    obtain ⟨ad4, len4, cap4, rfl⟩ := slice_ints g3
    obtain ⟨u, hu, hok⟩ := hcells 0 _ rfl
    simp at hu
    subst hu
    obtain ⟨f1, f2, f3⟩ := cell_metas hok
    obtain ⟨rfl, _⟩ := Prod.mk.inj hx
    have hw : ∀ (k : Nat) (t : TypeId) (y : DataW H), [22, 23, 23, 23, 3][k]? = some t → [y0.1, y1.1, y2.1, y3.1, y4.1][k]? = some y → (DataW.weights Tryz.prog t y).all (· ≤ reachBytes) = true := fun k t y hk1 hk2 => by
      refine List.all_eq_true.2 fun z hz => List.all_eq_true.1 hsz z (DataW.weights_mem_each ht hd z ?_)
      simp only [DataW.weights, Tryz.underlying25]
      exact DataW.weights_mem_each (j := k) (t := t) (d := y) hk1 hk2 z hz
    obtain ⟨l, hl, hb⟩ := openMetasX g0 f1 f2 f3 (hw 0 _ _ rfl rfl)
    obtain ⟨l1, hl1, hb1⟩ := openIntsX g1 (hw 1 _ _ rfl rfl)
    obtain ⟨l2, hl2, hb2⟩ := openIntsX g2 (hw 2 _ _ rfl rfl)
    obtain ⟨l3, hl3, hb3⟩ := openIntsX g3 (hw 3 _ _ rfl rfl)
    exact ⟨ad, len, cap, ad2, len2, cap2, ad3, len3, cap3, ad4, len4, cap4, (l, l1, l2, l3, n4), rfl, hl, hb, hl1, hb1, hl2, hb2, hl3, hb3, fit_ofV w4⟩

end Go.Proofs.YtjdolimeibpacaaGreat
