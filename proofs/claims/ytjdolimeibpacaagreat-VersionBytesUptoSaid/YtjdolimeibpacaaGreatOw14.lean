/- Slices of numbers and of tables' descriptions that a call has built by append. -/
import Derived.Test.YtjdolimeibpacaaGreatVnL
import Derived.Test.YtjdolimeibpacaaGreatAppend
import Derived.Laws.AppendOwnNone
namespace Go.Proofs.YtjdolimeibpacaaGreat
open Go.RowKit Go.Proofs Go.Proofs.Pk
set_option maxRecDepth 10000

def intC (n : Int) : Value := .int .i64 n
theorem int_info : (Tryz.prog.info? 3).map (fun i => (i.zero, i.size, i.bytes)) = some (some (.int .i64 0), 1, 8) := by kernel_rfl
theorem meta_info : (Tryz.prog.info? 45).map (fun i => (i.zero, i.size, i.bytes)) = some (some (.agg (metaC (0, 0, [], [], 0)).toArray), 5, 56) := by kernel_rfl
theorem parts_of {P : Program} {t : TypeId} {z : Value} {s b : Nat} (h : (P.info? t).map (fun i => (i.zero, i.size, i.bytes)) = some (some z, s, b)) : ∃ i, P.info? t = some i ∧ i.zero = some z ∧ i.size = s ∧ i.bytes = b := by
  cases hi : P.info? t with
  | none => rw [hi] at h; cases h
  | some i =>
    rw [hi] at h
    simp only [Option.map_some, Option.some.injEq, Prod.mk.injEq] at h
    exact ⟨i, rfl, h.1, h.2.1, h.2.2⟩
theorem meta_one (u : MetaV) : ∀ x ∈ metaC u, x.oneCell' = true := by
  intro x hx
  simp only [metaC, List.mem_cons, List.not_mem_nil, or_false] at hx
  rcases hx with rfl | rfl | rfl | rfl | rfl <;> rfl
theorem meta_size : (Tryz.prog.info? 45).map (·.size) = some 5 := by kernel_rfl
theorem metasC_length : ∀ T : List MetaV, (T.flatMap metaC).length = T.length * 5
  | [] => rfl
  | e :: T => by
    rw [List.flatMap_cons, List.length_append, metasC_length T, List.length_cons]
    show 5 + T.length * 5 = _
    omega
theorem metasC_get : ∀ (T : List MetaV) (i : Nat) (h : i < T.length) (t : Nat) (u : Value), (metaC T[i])[t]? = some u → (T.flatMap metaC)[i * 5 + t]? = some u
  | e :: T, 0, _, t, u, hu => by
    have ht : t < 5 := by have := (List.getElem?_eq_some_iff.1 hu).1; simpa [metaC] using this
    rw [List.flatMap_cons, List.getElem?_append_left (by show 0 * 5 + t < 5; omega), show 0 * 5 + t = t from by omega]
    exact hu
  | e :: T, i + 1, h, t, u, hu => by
    have := metasC_get T i (by simpa using h) t u (by simpa using hu)
    rw [List.flatMap_cons, List.getElem?_append_right (by show 5 ≤ (i + 1) * 5 + t; omega), show (i + 1) * 5 + t - (metaC e).length = i * 5 + t from by show (i + 1) * 5 + t - 5 = _; omega]
    exact this
theorem owns_ints {w : World} {B n : Nat} {v : Value} {l : List Int} (h : w.ownsRow B 3 1 v n (l.map intC)) (hl : l.length = n) : ∃ ad cap, v = .slice ad n cap ∧ Ints w ad n l ∧ n ≤ cap ∧ (ad = none → n = 0 ∧ cap = 0) := by
  rcases h.2 with ⟨h1, h2⟩ | ⟨g, cap, cur, h1, h2, h3, h4, h5, h6, h7⟩
  · subst h2
    have : l = [] := List.length_eq_zero_iff.1 hl
    subst this
    exact ⟨none, 0, h1, ⟨rfl, .inl rfl⟩, Nat.le_refl _, fun _ => ⟨rfl, rfl⟩⟩
  · refine ⟨some ⟨g, 0, none⟩, cap, h1, ⟨hl, .inr ⟨g, 0, rfl, World.ownsRow.lt h g (by rw [h1]; rfl) |>.2, fun i hi => ?_⟩⟩, h4, fun h => by cases h⟩
    have := World.ownsRow.cells h (g := g) (by rw [h1]; rfl) i (intC l[i]) (by rw [List.getElem?_map, List.getElem?_eq_getElem hi]; rfl)
    rw [Addr.add_mid] at this
    exact this
theorem owns_metas {w : World} {B n : Nat} {v : Value} {T : List MetaV} (h : w.ownsRow B 45 5 v n (T.flatMap metaC)) (hl : T.length = n) (hf : ∀ m ∈ T, FitMV m) :
    ∃ ad cap, v = .slice ad n cap ∧ MetasW w ad n T ∧ n ≤ cap ∧ FlatV ad ∧ (ad = none → n = 0 ∧ cap = 0) := by
  rcases h.2 with ⟨h1, h2⟩ | ⟨g, cap, cur, h1, h2, h3, h4, h5, h6, h7⟩
  · subst h2
    have : T = [] := List.length_eq_zero_iff.1 hl
    subst this
    exact ⟨none, 0, h1, ⟨rfl, .inl rfl⟩, Nat.le_refl _, .inl rfl, fun _ => ⟨rfl, rfl⟩⟩
  · refine ⟨some ⟨g, 0, none⟩, cap, h1, ⟨hl, .inr ⟨g, 0, rfl, World.ownsRow.lt h g (by rw [h1]; rfl) |>.2, fun i hi => ⟨fun j u hu => ?_, hf _ (List.getElem_mem hi)⟩⟩⟩, h4, .inr ⟨_, _, rfl⟩, fun h => by cases h⟩
    have := World.ownsRow.cells h (g := g) (by rw [h1]; rfl) (i * 5 + j) u (metasC_get T i hi j u hu)
    rw [Addr.add_mid, ← Nat.add_assoc] at this
    exact this

end Go.Proofs.YtjdolimeibpacaaGreat
