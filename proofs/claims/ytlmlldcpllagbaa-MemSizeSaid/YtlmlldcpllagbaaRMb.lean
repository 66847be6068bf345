/- The reference of layer 10: where its table lies. -/
import Derived.Test.YtlmlldcpllagbaaRMa
import Derived.Laws.AppendOwnNone
import Derived.Deep.Cut
namespace Go.Proofs.Ytlmlldcpllagbaa
open Go.RowKit Go.Proofs Go.Proofs.Pk
set_option maxRecDepth 10000

def cellsM (T : List MEnt) : List Value := T.flatMap entC
theorem cellsM_length : ∀ T : List MEnt, (cellsM T).length = T.length * 4
  | [] => rfl
  | e :: T => by
    show (entC e ++ cellsM T).length = _
    rw [List.length_append, cellsM_length T, List.length_cons]
    simp only [entC, List.length_cons, List.length_nil]; omega
theorem cellsM_get : ∀ (T : List MEnt) (i : Nat) (h : i < T.length) (t : Nat) (u : Value), (entC T[i])[t]? = some u → (cellsM T)[i * 4 + t]? = some u
  | e :: T, 0, _, t, u, hu => by
    show (entC e ++ cellsM T)[0 * 4 + t]? = _
    have ht := (List.getElem?_eq_some_iff.1 hu).1
    rw [Nat.zero_mul, Nat.zero_add, List.getElem?_append_left (by simpa using ht)]
    simpa using hu
  | e :: T, i + 1, h, t, u, hu => by
    have := cellsM_get T i (by simpa using h) t u (by simpa using hu)
    show (entC e ++ cellsM T)[(i + 1) * 4 + t]? = _
    have hl : (entC e).length = 4 := rfl
    rw [List.getElem?_append_right (by rw [hl]; omega), hl, show (i + 1) * 4 + t - 4 = i * 4 + t from by omega]
    exact this
theorem cellsM_append (E F : List MEnt) : cellsM (E ++ F) = cellsM E ++ cellsM F := by unfold cellsM; rw [List.flatMap_append]
theorem cellsM_take : ∀ (E : List MEnt) (i : Nat), cellsM (E.take i) = (cellsM E).take (i * 4)
  | [], i => by simp [cellsM]
  | e :: E, 0 => by simp [cellsM]
  | e :: E, i + 1 => by
    rw [List.take_succ_cons]
    show entC e ++ cellsM (E.take i) = (entC e ++ cellsM E).take _
    rw [cellsM_take E i, show (i + 1) * 4 = 4 + i * 4 from by omega, show 4 + i * 4 = (entC e).length + i * 4 from rfl, List.take_append, List.take_of_length_le (Nat.le_add_right _ _), Nat.add_sub_cancel_left]
theorem cellsM_drop : ∀ (E : List MEnt) (i : Nat), cellsM (E.drop i) = (cellsM E).drop (i * 4)
  | [], i => by simp [cellsM]
  | e :: E, 0 => by simp
  | e :: E, i + 1 => by
    rw [List.drop_succ_cons]
    show _ = (entC e ++ cellsM E).drop _
    rw [cellsM_drop E i, show (i + 1) * 4 = 4 + i * 4 from by omega, show 4 + i * 4 = (entC e).length + i * 4 from rfl, List.drop_append, List.drop_eq_nil_of_le (Nat.le_add_right _ _), List.nil_append, Nat.add_sub_cancel_left]
theorem entC_one (e : MEnt) : ∀ u ∈ entC e, u.oneCell' = true := by
  intro u hu
  simp only [entC, List.mem_cons, List.not_mem_nil, or_false] at hu
  rcases hu with rfl | rfl | rfl | rfl <;> rfl
theorem cellsM_one (E : List MEnt) : ∀ u ∈ cellsM E, u.oneCell' = true := by
  intro u hu
  obtain ⟨e, _, he⟩ := List.mem_flatMap.1 hu
  exact entC_one e u he
theorem ent_info : (Try.prog.info? 34).map (fun i => (i.zero, i.size, i.bytes)) = some (some (.agg (entC zeroM).toArray), 4, 48) := by kernel_rfl
theorem ent_size : (Try.prog.info? 34).map (·.size) = some 4 := by kernel_rfl

theorem range_kept {w w' : World} {g o : Nat} {cs : List Value} (h : w.rangeAt g o cs) (hk : Kept (fun _ => False) w w') (hg : g < w.heap.size) : w'.rangeAt g o cs := fun j v hv => (hk.cell (p := ⟨g, o + j, none⟩) hg (fun f => f)).trans (h j v hv)
/-- A row of entries in memory that reads as a list. -/
theorem rows_range {w : World} {B : Nat} {v : Value} {T : List MEnt} (h : w.ownsRow B 34 4 v T.length (cellsM T)) (i : Nat) (hi : i < T.length) : ∃ g cap, v = .slice (some ⟨g, 0, none⟩) T.length cap ∧ g < w.heap.size ∧ B ≤ g ∧ w.rangeAt g (i * 4) (entC T[i]) := by
  rcases h.2 with ⟨_, hn⟩ | ⟨g, cap, cur, hv, hB, h2, _⟩
  · omega
  · refine ⟨g, cap, hv, (Array.getElem?_eq_some_iff.1 h2).1, hB, fun j u hu => ?_⟩
    have := h.cells (by rw [hv]; rfl) (i * 4 + j) u (cellsM_get T i hi j u hu)
    rw [show ((⟨g, 0, none⟩ : Addr).add (i * 4 + j)) = ⟨g, 0 + (i * 4 + j), none⟩ from by unfold Addr.add; split <;> simp_all] at this
    rwa [Nat.zero_add] at this

/-- The reference's table at the block q. -/
structure RmAt (w : World) (B q : Nat) (vL : Value) (T : List MEnt) : Prop where
  obj : Holds w q [vL] 29
  row : w.ownsRow B 34 4 vL T.length (cellsM T)
  base : B ≤ q
  ne : vL.ownBlock ≠ some q
theorem RmAt.kept {w w' : World} {B q : Nat} {vL : Value} {T : List MEnt} {Y : Nat → Prop} (h : RmAt w B q vL T) (hk : Kept Y w w') (hY : ∀ k, k = q ∨ vL.ownBlock = some k → ¬Y k) : RmAt w' B q vL T :=
  ⟨h.obj.of_block (hk.block q h.obj.lt (hY q (.inl rfl))), owns_of_block h.row fun g hg => hk.block g (h.row.lt g hg).2 (hY g (.inr hg)), h.base, h.ne⟩
theorem RmAt.still {w w' : World} {B q : Nat} {vL : Value} {T : List MEnt} (h : RmAt w B q vL T) (hk : Kept (fun _ => False) w w') : RmAt w' B q vL T := h.kept hk (fun _ _ hf => hf)
theorem RmAt.form {w : World} {B q : Nat} {vL : Value} {T : List MEnt} (h : RmAt w B q vL T) : ∃ ad cap, vL = .slice ad T.length cap ∧ ((ad = none ∧ cap = 0 ∧ T = []) ∨ ∃ g, ad = some ⟨g, 0, none⟩ ∧ g ≠ q ∧ g < w.heap.size ∧ T.length ≤ cap ∧ ∀ i (hi : i < T.length), w.rangeAt g (i * 4) (entC T[i])) := by
  rcases h.row.2 with ⟨hv, hn⟩ | ⟨g, cap, cur, hv, _, h2, h3, _⟩
  · exact ⟨none, 0, by rw [hv, hn], .inl ⟨rfl, rfl, List.length_eq_zero_iff.1 hn⟩⟩
  · refine ⟨_, cap, hv, .inr ⟨g, rfl, fun e => h.ne (by rw [hv, e]; rfl), (Array.getElem?_eq_some_iff.1 h2).1, h3, fun i hi => ?_⟩⟩
    obtain ⟨g', cap', e, _, _, hr⟩ := rows_range h.row i hi
    rw [hv] at e
    cases e
    exact hr
theorem owns_lenM {w : World} {B : Nat} {e : TypeId} {size n m : Nat} {v : Value} {xs ys : List Value} (h : w.ownsRow B e size v n xs) (hn : n = m) (hx : xs = ys) : w.ownsRow B e size v m ys := by subst hn hx; exact h
theorem own_anyM {w : World} {B n size : Nat} {e : TypeId} {v : Value} {xs : List Value} (h : w.ownsRow B e size v n xs) : ∃ ad m cap, v = .slice ad m cap := by
  rcases h.2 with ⟨rfl, rfl⟩ | ⟨g, cap, cur, rfl, _⟩
  · exact ⟨none, 0, 0, rfl⟩
  · exact ⟨_, n, cap, rfl⟩
/-- What a Put of the reference leaves. -/
def RmPut (w : World) (B q : Nat) (vL : Value) (T' : List MEnt) (w' : World) : Prop :=
  ∃ vL', RmAt w' B q vL' T' ∧ (∀ b, vL'.ownBlock = some b → vL.ownBlock = some b ∨ w.heap.size ≤ b) ∧ Kept (fun k => k = q ∨ vL.ownBlock = some k) w w'

end Go.Proofs.Ytlmlldcpllagbaa
