/- Steps and definitions in memory, kept; a definition in a box of its own (layer 18). No condition. -/
import Derived.Test.YtgjblcjoglaldaaOpenDf
import Derived.Test.YtgjblcjoglaldaaFoot
import Derived.Test.YtgjblcjoglaldaaMid
namespace Go.Proofs.Ytgjblcjoglaldaa
open Go.RowKit Go.Proofs Go.Proofs.Pk
set_option maxRecDepth 10000

theorem stepsC_get : ∀ (T : List StV) (i : Nat) (hi : i < T.length) (j : Nat) (v : Value), (stC T[i])[j]? = some v → (T.flatMap stC)[i * 2 + j]? = some v
  | [], i, hi, _, _, _ => by simp at hi
  | u :: r, 0, hi, j, v, h => by
    rw [List.flatMap_cons, Nat.zero_mul, Nat.zero_add]
    have hj : j < (stC u).length := (List.getElem?_eq_some_iff.1 h).1
    rw [List.getElem?_append_left hj]; exact h
  | u :: r, i + 1, hi, j, v, h => by
    have hl : (stC u).length = 2 := rfl
    rw [List.flatMap_cons, List.getElem?_append_right (by rw [hl]; omega), hl, show (i + 1) * 2 + j - 2 = i * 2 + j by omega]
    exact stepsC_get r i (by simpa using hi) j v h
/-! Steps and definitions in memory, kept. -/
theorem steps_keptX {w w' : World} {ad : Option Addr} {len : Nat} {T : List StV} {X : Nat → Prop} (h : StepsW w ad len T) (hk : Kept X w w') (hx : ∀ b off sp, ad = some ⟨b, off, sp⟩ → ¬X b) : StepsW w' ad len T := by
  refine ⟨h.1, h.2.imp_right ?_⟩
  rintro ⟨b, off, h1, h2, h3⟩
  exact ⟨b, off, h1, Nat.lt_of_lt_of_le h2 hk.size, fun i hi => ⟨fun j v hv => (hk.cell (p := ⟨b, off + i * 2 + j, none⟩) h2 (hx b off none h1)).trans ((h3 i hi).row j v hv), (h3 i hi).fit⟩⟩
theorem steps_kept {w w' : World} {ad : Option Addr} {len : Nat} {T : List StV} (h : StepsW w ad len T) (hk : Kept (fun _ => False) w w') : StepsW w' ad len T := steps_keptX h hk fun _ _ _ _ f => f
theorem DefW.kept {w w' : World} {ad : Option Addr} {len cap : Nat} {d : DefV} (h : DefW w ad len cap d) (hk : Kept (fun _ => False) w w') : DefW w' ad len cap d := ⟨steps_kept h.1 hk, h.2⟩
theorem StepsW.at {w : World} {ad : Option Addr} {len : Nat} {T : List StV} (h : StepsW w ad len T) (i : Nat) (hi : i < T.length) : ∃ b off, ad = some ⟨b, off, none⟩ ∧ b < w.heap.size ∧ w.cell? ⟨b, off + i * 2, none⟩ = some (.int .i64 T[i].1) ∧ w.cell? ⟨b, off + i * 2 + 1, none⟩ = some (.int .i64 T[i].2) ∧ FitSt T[i] := by
  rcases h.2 with h0 | ⟨b, off, h1, h2, h3⟩
  · rw [h0] at hi; simp at hi
  · have hr := (h3 i hi).row
    exact ⟨b, off, h1, h2, hr 0 _ rfl, hr 1 _ rfl, (h3 i hi).fit⟩
theorem steps_none (w : World) : StepsW w none 0 [] ∧ BndS none 0 0 := ⟨⟨rfl, .inl rfl⟩, .inl rfl, Nat.le_refl _, by simp, fun _ => ⟨rfl, rfl⟩⟩
/-- A definition in a box of its own. -/
structure DBox (w wx : World) (g : Nat) (ad : Option Addr) (len cap : Nat) (d : DefV) : Prop where
  kept : Kept (fun _ => False) w wx
  box : Holds wx g [.string ⟨d.1.toArray⟩, .slice ad len cap] 24
  df : DefW wx ad len cap d
theorem DBox.quiet {w wx w' : World} {g : Nat} {ad : Option Addr} {len cap : Nat} {d : DefV} (h : DBox w wx g ad len cap d) (k : Kept (fun _ => False) wx w') : DBox w w' g ad len cap d :=
  ⟨h.kept.trans k (fun _ f => f.elim), h.box.of_block (k.block g h.box.lt (fun f => f)), h.df.kept k⟩
theorem DBox.new {w wx : World} {ad : Option Addr} {len cap : Nat} {d : DefV} (k : Kept (fun _ => False) w wx) (h : DefW wx ad len cap d) :
    DBox w (wx.alloc (.cells #[.string ⟨d.1.toArray⟩, .slice ad len cap] 24)) wx.heap.size ad len cap d :=
  ⟨k.alloc _, Holds.new wx _ _, h.kept ((Kept.refl _ wx).alloc _)⟩
theorem DBox.cells {w wx : World} {g : Nat} {ad : Option Addr} {len cap : Nat} {d : DefV} (h : DBox w wx g ad len cap d) :
    wx.cell? ⟨g, 0, none⟩ = some (.string ⟨d.1.toArray⟩) ∧ wx.cell? ⟨g, 1, none⟩ = some (.slice ad len cap) := ⟨h.box.cell 0 _ rfl, h.box.cell 1 _ rfl⟩

end Go.Proofs.Ytgjblcjoglaldaa
