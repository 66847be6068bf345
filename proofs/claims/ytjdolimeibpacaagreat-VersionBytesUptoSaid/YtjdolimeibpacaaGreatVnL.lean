/- Versions and edits in memory, kept (layer 14). -/
import Derived.Test.YtjdolimeibpacaaGreatJ04
namespace Go.Proofs.YtjdolimeibpacaaGreat
open Go.RowKit Go.Proofs Go.Proofs.Pk
set_option maxRecDepth 10000

theorem metas_kept {w w' : World} {ad : Option Addr} {len : Nat} {l : List MetaV} (h : MetasW w ad len l) (hk : Kept (fun _ => False) w w') : MetasW w' ad len l := by
  refine ⟨h.1, h.2.imp_right ?_⟩
  rintro ⟨b, off, h1, h2, h3⟩
  exact ⟨b, off, h1, Nat.lt_of_lt_of_le h2 hk.size, fun i hi => ⟨fun j v hv => (hk.cell (p := ⟨b, off + i * 5 + j, none⟩) h2 (fun f => f)).trans ((h3 i hi).row j v hv), (h3 i hi).fit⟩⟩
theorem ints_keptV {w w' : World} {ad : Option Addr} {len : Nat} {l : List Int} (h : Ints w ad len l) (hk : Kept (fun _ => False) w w') : Ints w' ad len l := h.kept hk (.inr fun _ _ _ f => f)
theorem VerW.kept {w w' : World} {ad : Option Addr} {len cap : Nat} {ad2 : Option Addr} {len2 cap2 : Nat} {v : VerV} (h : VerW w ad len cap ad2 len2 cap2 v) (hk : Kept (fun _ => False) w w') : VerW w' ad len cap ad2 len2 cap2 v :=
  ⟨metas_kept h.1 hk, h.2.1, ints_keptV h.2.2.1 hk, h.2.2.2⟩
theorem EdW.kept {w w' : World} {ad : Option Addr} {len cap : Nat} {ad2 : Option Addr} {len2 cap2 : Nat} {ad3 : Option Addr} {len3 cap3 : Nat} {ad4 : Option Addr} {len4 cap4 : Nat} {e : EdV} (h : EdW w ad len cap ad2 len2 cap2 ad3 len3 cap3 ad4 len4 cap4 e) (hk : Kept (fun _ => False) w w') :
    EdW w' ad len cap ad2 len2 cap2 ad3 len3 cap3 ad4 len4 cap4 e :=
  ⟨metas_kept h.1 hk, h.2.1, ints_keptV h.2.2.1 hk, h.2.2.2.1, ints_keptV h.2.2.2.2.1 hk, h.2.2.2.2.2.1, ints_keptV h.2.2.2.2.2.2.1 hk, h.2.2.2.2.2.2.2⟩
theorem MetasW.at {w : World} {ad : Option Addr} {len : Nat} {T : List MetaV} (h : MetasW w ad len T) (i : Nat) (hi : i < T.length) : ∃ b off, ad = some ⟨b, off, none⟩ ∧ b < w.heap.size ∧ w.cell? ⟨b, off + i * 5, none⟩ = some (.int .i64 T[i].1) ∧
    w.cell? ⟨b, off + i * 5 + 1, none⟩ = some (.int .i64 T[i].2.1) ∧ w.cell? ⟨b, off + i * 5 + 2, none⟩ = some (.string ⟨T[i].2.2.1.toArray⟩) ∧ w.cell? ⟨b, off + i * 5 + 3, none⟩ = some (.string ⟨T[i].2.2.2.1.toArray⟩) ∧ w.cell? ⟨b, off + i * 5 + 4, none⟩ = some (.int .i64 T[i].2.2.2.2) ∧ FitMV T[i] := by
  rcases h.2 with h0 | ⟨b, off, h1, h2, h3⟩
  · rw [h0] at hi; simp at hi
  · have hr := (h3 i hi).row
    exact ⟨b, off, h1, h2, hr 0 _ rfl, hr 1 _ rfl, hr 2 _ rfl, hr 3 _ rfl, hr 4 _ rfl, (h3 i hi).fit⟩
theorem ints_at {w : World} {ad : Option Addr} {len : Nat} {T : List Int} (h : Ints w ad len T) (i : Nat) (hi : i < T.length) : ∃ b off, ad = some ⟨b, off, none⟩ ∧ b < w.heap.size ∧ w.cell? ⟨b, off + i, none⟩ = some (.int .i64 T[i]) := by
  rcases h.2 with h0 | ⟨b, off, h1, h2, h3⟩
  · rw [h0] at hi; simp at hi
  · exact ⟨b, off, h1, h2, h3 i hi⟩
/-- No slices. -/
theorem metas_none (w : World) : MetasW w none 0 [] ∧ BndM none 0 0 := ⟨⟨rfl, .inl rfl⟩, .inl rfl, Nat.le_refl _, by simp, fun _ => ⟨rfl, rfl⟩⟩
theorem ints_none (w : World) : Ints w none 0 [] ∧ BndI none 0 0 [] := ⟨⟨rfl, .inl rfl⟩, fun _ h => (by cases h), Nat.le_refl _, by simp, fun _ => ⟨rfl, rfl⟩⟩
theorem ver_zero (w : World) : VerW w none 0 0 none 0 0 zeroV := ⟨(metas_none w).1, (metas_none w).2, (ints_none w).1, (ints_none w).2, by unfold FitV zeroV; simp only; omega⟩

end Go.Proofs.YtjdolimeibpacaaGreat
