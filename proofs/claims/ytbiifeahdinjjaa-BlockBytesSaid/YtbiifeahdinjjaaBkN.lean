/- Mathematics of layer 12 (block): a block written entry by entry. No program. -/
import Derived.Test.YtbiifeahdinjjaaBkM
namespace Go.Proofs.Pk
set_option maxRecDepth 10000

def lastK (last : Txt) (l : List MEnt) : Txt := match l.getLast? with | some x => x.1 | none => last
theorem body_snoc : ∀ (l : List MEnt) (e : MEnt) (last : Txt) (i : Nat), bodyB last i (l ++ [e]) = bodyB last i l ++ recB (lastK last l) (i + l.length) e
  | [], e, last, i => by simp [bodyB, lastK]
  | x :: r, e, last, i => by
    show recB last i x ++ bodyB x.1 (i + 1) (r ++ [e]) = recB last i x ++ bodyB x.1 (i + 1) r ++ _
    rw [body_snoc r e x.1 (i + 1), List.append_assoc]
    congr 3
    · cases r with
      | nil => simp [lastK]
      | cons y r => simp [lastK, List.getLast?_cons]
    · simp only [List.length_cons]; omega
/-- What stands of the bytes when j entries are written. -/
def outB (l : List MEnt) (j : Nat) : Txt := numL l.length ++ bodyB [] 0 (l.take j)
theorem out_step {l : List MEnt} {j : Nat} (hj : j < l.length) : outB l (j + 1) = outB l j ++ recB (lastK [] (l.take j)) j l[j] := by
  unfold outB
  rw [List.take_succ_eq_append_getElem hj, body_snoc, List.append_assoc, Nat.zero_add, List.length_take]
  congr 3
  omega
theorem last_take {l : List MEnt} {j : Nat} (h0 : 0 < j) (hj : j ≤ l.length) : lastK [] (l.take j) = (l[j - 1]'(by omega)).1 := by
  unfold lastK
  rw [List.getLast?_eq_getElem?, List.length_take, Nat.min_eq_left hj, List.getElem?_take, if_pos (by omega), List.getElem?_eq_getElem (by omega)]
theorem share_zero {last : Txt} {i : Nat} {k : Txt} (h : i % 4 = 0) : shareB last i k = 0 := by unfold shareB; rw [if_pos h]
theorem share_at {l : List MEnt} {j : Nat} (hj : j < l.length) (h : ¬j % 4 = 0) : shareB (lastK [] (l.take j)) j l[j].1 = lcpL (l[j - 1]'(by omega)).1 l[j].1 := by
  unfold shareB
  rw [if_neg h, last_take (by omega) (by omega)]
theorem rec_bound (last : Txt) (i : Nat) (e : MEnt) (he : rightM e = true) : (recB last i e).length ≤ 424 := by
  obtain ⟨_, h2, h3, _⟩ := right_of he
  unfold recB dropB txtL
  have a1 := numL_len_le (shareB last i e.1)
  have a2 := numL_len_le (e.1.drop (shareB last i e.1)).length
  have a3 := numL_len_le e.2.1.toNat
  have a4 := numL_len_le 1
  have a5 := numL_len_le 0
  have a6 := numL_len_le e.2.2.2.length
  have a7 : (e.1.drop (shareB last i e.1)).length ≤ 80 := by rw [List.length_drop]; omega
  split <;> simp only [List.length_append] <;> omega
theorem out_bound {l : List MEnt} (hs : sortB l = true) : ∀ j, j ≤ l.length → (outB l j).length ≤ 8 + 424 * j
  | 0, _ => by unfold outB; have := numL_len_le l.length; simp [bodyB]; omega
  | j + 1, h => by
    have h1 := out_bound hs j (by omega)
    have h2 := rec_bound (lastK [] (l.take j)) j l[j] (sort_mem l none hs _ (List.getElem_mem (by omega)))
    rw [out_step (by omega), List.length_append]
    omega
theorem out_all {l : List MEnt} (hl : ¬200 < l.length) (hs : sortB l = true) : encB l = (outB l l.length, 0) := by
  unfold encB outB
  rw [if_neg hl, if_pos hs, List.take_length]
end Go.Proofs.Pk
