/- Rows of entries in memory. -/
import Derived.Test.YtbiifeahdinjjaaRMa
import Derived.Laws.AppendOwnNone
import Derived.Deep.Cut
namespace Go.Proofs.Ytbiifeahdinjjaa
open Go.RowKit Go.Proofs Go.Proofs.Pk
set_option maxRecDepth 10000

def cellsM (T : List MEnt) : List Value := T.flatMap entC
theorem cellsM_length : ∀ T : List MEnt, (cellsM T).length = T.length * 4
  | [] => rfl
  | e :: T => by
    show (entC e ++ cellsM T).length = _
    rw [List.length_append, cellsM_length T, List.length_cons]
    simp only [entC, List.length_cons, List.length_nil]; omega
theorem cellsM_get : ∀ (T : List MEnt) (i : Nat) (h : i < T.length) (t : Nat) (u : Value), (entC T[i])[t]? = some u → (cellsM T)[i * 4 + t]? = some u
  | e :: T, 0, _, t, u, hu => by
    show (entC e ++ cellsM T)[0 * 4 + t]? = _
    have ht := (List.getElem?_eq_some_iff.1 hu).1
    rw [Nat.zero_mul, Nat.zero_add, List.getElem?_append_left (by simpa using ht)]
    simpa using hu
  | e :: T, i + 1, h, t, u, hu => by
    have := cellsM_get T i (by simpa using h) t u (by simpa using hu)
    show (entC e ++ cellsM T)[(i + 1) * 4 + t]? = _
    have hl : (entC e).length = 4 := rfl
    rw [List.getElem?_append_right (by rw [hl]; omega), hl, show (i + 1) * 4 + t - 4 = i * 4 + t from by omega]
    exact this
theorem cellsM_append (E F : List MEnt) : cellsM (E ++ F) = cellsM E ++ cellsM F := by unfold cellsM; rw [List.flatMap_append]
theorem cellsM_take : ∀ (E : List MEnt) (i : Nat), cellsM (E.take i) = (cellsM E).take (i * 4)
  | [], i => by simp [cellsM]
  | e :: E, 0 => by simp [cellsM]
  | e :: E, i + 1 => by
    rw [List.take_succ_cons]
    show entC e ++ cellsM (E.take i) = (entC e ++ cellsM E).take _
    rw [cellsM_take E i, show (i + 1) * 4 = 4 + i * 4 from by omega, show 4 + i * 4 = (entC e).length + i * 4 from rfl, List.take_append, List.take_of_length_le (Nat.le_add_right _ _), Nat.add_sub_cancel_left]
theorem cellsM_drop : ∀ (E : List MEnt) (i : Nat), cellsM (E.drop i) = (cellsM E).drop (i * 4)
  | [], i => by simp [cellsM]
  | e :: E, 0 => by simp
  | e :: E, i + 1 => by
    rw [List.drop_succ_cons]
    show _ = (entC e ++ cellsM E).drop _
    rw [cellsM_drop E i, show (i + 1) * 4 = 4 + i * 4 from by omega, show 4 + i * 4 = (entC e).length + i * 4 from rfl, List.drop_append, List.drop_eq_nil_of_le (Nat.le_add_right _ _), List.nil_append, Nat.add_sub_cancel_left]
theorem entC_one (e : MEnt) : ∀ u ∈ entC e, u.oneCell' = true := by
  intro u hu
  simp only [entC, List.mem_cons, List.not_mem_nil, or_false] at hu
  rcases hu with rfl | rfl | rfl | rfl <;> rfl
theorem cellsM_one (E : List MEnt) : ∀ u ∈ cellsM E, u.oneCell' = true := by
  intro u hu
  obtain ⟨e, _, he⟩ := List.mem_flatMap.1 hu
  exact entC_one e u he
theorem ent_info : (Try.prog.info? 37).map (fun i => (i.zero, i.size, i.bytes)) = some (some (.agg (entC zeroM).toArray), 4, 48) := by kernel_rfl
theorem ent_size : (Try.prog.info? 37).map (·.size) = some 4 := by kernel_rfl

theorem range_kept {w w' : World} {g o : Nat} {cs : List Value} (h : w.rangeAt g o cs) (hk : Kept (fun _ => False) w w') (hg : g < w.heap.size) : w'.rangeAt g o cs := fun j v hv => (hk.cell (p := ⟨g, o + j, none⟩) hg (fun f => f)).trans (h j v hv)
/-- A row of entries in memory that reads as a list. -/
theorem rows_range {w : World} {B : Nat} {v : Value} {T : List MEnt} (h : w.ownsRow B 37 4 v T.length (cellsM T)) (i : Nat) (hi : i < T.length) : ∃ g cap, v = .slice (some ⟨g, 0, none⟩) T.length cap ∧ g < w.heap.size ∧ B ≤ g ∧ w.rangeAt g (i * 4) (entC T[i]) := by
  rcases h.2 with ⟨_, hn⟩ | ⟨g, cap, cur, hv, hB, h2, _⟩
  · omega
  · refine ⟨g, cap, hv, (Array.getElem?_eq_some_iff.1 h2).1, hB, fun j u hu => ?_⟩
    have := h.cells (by rw [hv]; rfl) (i * 4 + j) u (cellsM_get T i hi j u hu)
    rw [show ((⟨g, 0, none⟩ : Addr).add (i * 4 + j)) = ⟨g, 0 + (i * 4 + j), none⟩ from by unfold Addr.add; split <;> simp_all] at this
    rwa [Nat.zero_add] at this
theorem owns_ents {w : World} {B : Nat} {ad : Option Addr} {cap : Nat} {T : List MEnt} (h : w.ownsRow B 37 4 (.slice ad T.length cap) T.length (cellsM T)) (hf : ∀ e ∈ T, FitN e.2.1) : EntsW w ad T.length T := by
  refine ⟨rfl, ?_⟩
  by_cases h0 : T = []
  · exact .inl h0
  · have hpos : 0 < T.length := List.length_pos_iff.2 h0
    obtain ⟨g, cap', e, hg, _, _⟩ := rows_range h 0 hpos
    refine .inr ⟨g, 0, by injection e, hg, fun i hi => ⟨?_, hf _ (List.getElem_mem hi)⟩⟩
    obtain ⟨g', cap2, e2, _, _, hr⟩ := rows_range h i hi
    rw [e] at e2
    cases e2
    rw [Nat.zero_add]
    exact hr
theorem ents_keptK {w w' : World} {ad : Option Addr} {len : Nat} {l : List MEnt} (h : EntsW w ad len l) (hk : Kept (fun _ => False) w w') : EntsW w' ad len l := by
  refine ⟨h.1, h.2.imp_right ?_⟩
  rintro ⟨b, off, h1, h2, h3⟩
  exact ⟨b, off, h1, Nat.lt_of_lt_of_le h2 hk.size, fun i hi => ⟨fun j v hv => (hk.cell (p := ⟨b, off + i * 4 + j, none⟩) h2 (fun f => f)).trans ((h3 i hi).row j v hv), (h3 i hi).fit⟩⟩
theorem EntsW.atS {w : World} {ad : Option Addr} {len : Nat} {T : List MEnt} (h : EntsW w ad len T) (i : Nat) (hi : i < T.length) : ∃ b off, ad = some ⟨b, off, none⟩ ∧ b < w.heap.size ∧ w.cell? ⟨b, off + i * 4, none⟩ = some (.string ⟨T[i].1.toArray⟩) ∧
    w.cell? ⟨b, off + i * 4 + 1, none⟩ = some (.int .i64 T[i].2.1) ∧ w.cell? ⟨b, off + i * 4 + 2, none⟩ = some (.bool T[i].2.2.1) ∧ w.cell? ⟨b, off + i * 4 + 3, none⟩ = some (.string ⟨T[i].2.2.2.toArray⟩) := by
  rcases h.2 with h0 | ⟨b, off, h1, h2, h3⟩
  · rw [h0] at hi; simp at hi
  · have hr := (h3 i hi).row
    exact ⟨b, off, h1, h2, hr 0 _ rfl, hr 1 _ rfl, hr 2 _ rfl, hr 3 _ rfl⟩
/-- A part of a slice of entries. -/
theorem EntsW.part {w : World} {b off len : Nat} {l : List MEnt} (h : EntsW w (some ⟨b, off, none⟩) len l) (i n : Nat) (hi : i + n ≤ len) : EntsW w (some ⟨b, off + i * 4, none⟩) n ((l.drop i).take n) := by
  have hl := h.1
  refine ⟨by simp; omega, ?_⟩
  rcases h.2 with h0 | ⟨b', off', h1, h2, h3⟩
  · exact .inl (by rw [h0]; simp)
  · injection h1 with h1
    injection h1 with e1 e2
    subst e1; subst e2
    refine .inr ⟨_, _, rfl, h2, fun j hj => ?_⟩
    have hj2 : i + j < l.length := by simp at hj; omega
    have e : ((l.drop i).take n)[j] = l[i + j] := by simp
    rw [e, show off + i * 4 + j * 4 = off + (i + j) * 4 from by omega]
    exact h3 (i + j) hj2
theorem EntsW.head {w : World} {b off len : Nat} {l : List MEnt} (h : EntsW w (some ⟨b, off, none⟩) len l) (n : Nat) (hn : n ≤ len) : EntsW w (some ⟨b, off, none⟩) n (l.take n) := by
  have := h.part 0 n (by omega)
  rwa [Nat.zero_mul, Nat.add_zero, List.drop_zero] at this
theorem EntsW.tail {w : World} {b off len : Nat} {l : List MEnt} (h : EntsW w (some ⟨b, off, none⟩) len l) (n : Nat) (hn : n ≤ len) : EntsW w (some ⟨b, off + n * 4, none⟩) (len - n) (l.drop n) := by
  have := h.part n (len - n) (by omega)
  rwa [List.take_of_length_le (by simp; have := h.1; omega)] at this
theorem EntsW.empty {w : World} {ad : Option Addr} : EntsW w ad 0 [] := ⟨rfl, .inl rfl⟩
theorem owns_lenM {w : World} {B : Nat} {e : TypeId} {size n m : Nat} {v : Value} {xs ys : List Value} (h : w.ownsRow B e size v n xs) (hn : n = m) (hx : xs = ys) : w.ownsRow B e size v m ys := by subst hn hx; exact h
theorem own_anyM {w : World} {B n size : Nat} {e : TypeId} {v : Value} {xs : List Value} (h : w.ownsRow B e size v n xs) : ∃ ad m cap, v = .slice ad m cap := by
  rcases h.2 with ⟨rfl, rfl⟩ | ⟨g, cap, cur, rfl, _⟩
  · exact ⟨none, 0, 0, rfl⟩
  · exact ⟨_, n, cap, rfl⟩

end Go.Proofs.Ytbiifeahdinjjaa
