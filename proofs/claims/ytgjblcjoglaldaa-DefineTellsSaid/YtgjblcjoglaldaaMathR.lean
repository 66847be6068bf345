/- Plain mathematics for layer 1 (pack): rows of texts as bytes, and what is read as a row. No Go, no program. -/
import Derived.Test.YtgjblcjoglaldaaMath
namespace Go.Proofs.Pk

def rowL (l : List (List UInt8)) : List UInt8 := numL l.length ++ l.flatMap txtL

/-- k texts, and nothing behind. -/
def rdTexts : Nat → List UInt8 → List (List UInt8) × Nat
  | 0, r => ([], if r = [] then 0 else 3)
  | k + 1, r => if (rdTxt r).2.2 ≠ 0 then ([], (rdTxt r).2.2)
    else if (rdTexts k (rdTxt r).2.1).2 = 0 then ((rdTxt r).1 :: (rdTexts k (rdTxt r).2.1).1, 0) else ([], (rdTexts k (rdTxt r).2.1).2)

def lift (T : List (List UInt8)) (p : List (List UInt8) × Nat) : List (List UInt8) × Nat := if p.2 = 0 then (T ++ p.1, 0) else ([], p.2)

theorem lift_nil : ∀ (k : Nat) (r : List UInt8), lift [] (rdTexts k r) = rdTexts k r
  | 0, r => by unfold lift rdTexts; split <;> simp_all
  | k + 1, r => by
    unfold lift rdTexts
    repeat' split
    all_goals simp_all
theorem lift_lift (T U : List (List UInt8)) (p : List (List UInt8) × Nat) : lift T (lift U p) = lift (T ++ U) p := by
  unfold lift; repeat' split
  all_goals simp_all
theorem rdTexts_ok (k : Nat) (r : List UInt8) (h : (rdTxt r).2.2 = 0) : rdTexts (k + 1) r = lift [(rdTxt r).1] (rdTexts k (rdTxt r).2.1) := by
  rw [rdTexts, if_neg (by omega)]; unfold lift; split <;> simp
theorem rdTexts_no (k : Nat) (r : List UInt8) (h : (rdTxt r).2.2 ≠ 0) : rdTexts (k + 1) r = ([], (rdTxt r).2.2) := by
  rw [rdTexts, if_pos h]
theorem lift_err (T : List (List UInt8)) (c : Nat) (h : c ≠ 0) : lift T ([], c) = ([], c) := by unfold lift; rw [if_neg h]

/-- Behind k texts of n: T were read, s is left. -/
def Goes (n : Nat) (r : List UInt8) (k : Nat) (T : List (List UInt8)) (s : List UInt8) : Prop :=
  T.length = k ∧ k ≤ n ∧ rdTexts n r = lift T (rdTexts (n - k) s) ∧ s.length ≤ r.length
theorem rdNum_len (b : List UInt8) : (rdNum b).2.1.length ≤ b.length := by
  by_cases h : (rdNum b).2.2 = 0
  · have := congrArg List.length (rdNum_back b h)
    rw [List.length_append] at this; omega
  · rw [(rdNum_err b h).2]; simp
theorem rdTxt_len (b : List UInt8) : (rdTxt b).2.1.length ≤ b.length := by
  have := rdNum_len b
  unfold rdTxt
  repeat' split
  all_goals simp only [List.length_nil, List.length_drop]
  all_goals omega
theorem Goes.start (n : Nat) (r : List UInt8) : Goes n r 0 [] r := ⟨rfl, Nat.zero_le _, by rw [lift_nil]; rfl, Nat.le_refl _⟩
theorem Goes.step {n k : Nat} {r s : List UInt8} {T : List (List UInt8)} (h : Goes n r k T s) (hk : k < n) (hc : (rdTxt s).2.2 = 0) : Goes n r (k + 1) (T ++ [(rdTxt s).1]) (rdTxt s).2.1 := by
  obtain ⟨a, b, c, d⟩ := h
  refine ⟨by simp [a], hk, ?_, Nat.le_trans (rdTxt_len s) d⟩
  rw [c, show n - k = (n - (k + 1)) + 1 from by omega, rdTexts_ok _ _ hc, lift_lift]
theorem Goes.fail {n k : Nat} {r s : List UInt8} {T : List (List UInt8)} (h : Goes n r k T s) (hk : k < n) (hc : (rdTxt s).2.2 ≠ 0) : rdTexts n r = ([], (rdTxt s).2.2) := by
  obtain ⟨a, b, c, d⟩ := h
  rw [c, show n - k = (n - (k + 1)) + 1 from by omega, rdTexts_no _ _ hc, lift_err _ _ hc]
theorem Goes.over {n : Nat} {r s : List UInt8} {T : List (List UInt8)} (h : Goes n r n T s) : rdTexts n r = if s = [] then (T, 0) else ([], 3) := by
  obtain ⟨a, b, c, d⟩ := h
  rw [c, Nat.sub_self, rdTexts]
  by_cases hs : s = []
  · rw [if_pos hs, if_pos hs]; simp [lift]
  · rw [if_neg hs, if_neg hs]; simp [lift]

def rdRow (b : List UInt8) : List (List UInt8) × Nat :=
  if MaxT < b.length then ([], 5) else if (rdNum b).2.2 ≠ 0 then ([], (rdNum b).2.2) else if 1000 < (rdNum b).1 then ([], 5)
  else rdTexts (rdNum b).1 (rdNum b).2.1

theorem flat_goes : ∀ (l : List (List UInt8)) (more : List UInt8), (∀ s ∈ l, s.length ≤ MaxT) → rdTexts l.length (l.flatMap txtL ++ more) = if more = [] then (l, 0) else ([], 3)
  | [], more, _ => by
    simp only [List.flatMap_nil, List.nil_append, List.length_nil, rdTexts]
    split <;> rfl
  | s :: l, more, h => by
    have hs := rdTxt_txtL s (l.flatMap txtL ++ more) (h s (by simp))
    rw [List.flatMap_cons, List.append_assoc, List.length_cons, rdTexts_ok _ _ (by rw [hs]), hs]
    simp only []
    rw [flat_goes l more (fun x hx => h x (by simp [hx]))]
    split <;> simp [lift]

theorem mem_row {l : List (List UInt8)} {s : List UInt8} (h : s ∈ l) : s.length ≤ (l.flatMap txtL).length := by
  induction l with
  | nil => simp at h
  | cons a l ih =>
    rw [List.flatMap_cons, List.length_append]
    rcases List.mem_cons.1 h with rfl | h
    · have : (txtL s).length = (numL s.length).length + s.length := by rw [txtL, List.length_append]
      omega
    · have := ih h; omega

theorem rowL_length (l : List (List UInt8)) : (rowL l).length = (numL l.length).length + (l.flatMap txtL).length := by rw [rowL, List.length_append]

theorem rdRow_rowL (l : List (List UInt8)) (h1 : l.length ≤ 1000) (h2 : (rowL l).length ≤ MaxT) (more : List UInt8) :
    rdRow (rowL l ++ more) = if MaxT < (rowL l).length + more.length then ([], 5) else if more = [] then (l, 0) else ([], 3) := by
  have hm : MaxT = 1048576 := rfl
  have hN : l.length ≤ MaxN := by unfold MaxN; omega
  have hr : rdNum (rowL l ++ more) = (l.length, l.flatMap txtL ++ more, 0) := by rw [rowL, List.append_assoc, rdNum_numL _ hN]
  unfold rdRow
  rw [List.length_append]
  by_cases hl : MaxT < (rowL l).length + more.length
  · rw [if_pos hl, if_pos hl]
  · rw [if_neg hl, if_neg hl, hr]
    simp only []
    rw [if_neg (by simp), if_neg (by omega)]
    exact flat_goes l more (fun s hs => by have := mem_row hs; rw [rowL_length] at h2; omega)

theorem rdRow_no (b : List UInt8) (h : (rdRow b).2 ≠ 0) : (rdRow b).1 = [] := by
  have hT : ∀ k r, (rdTexts k r).2 ≠ 0 → (rdTexts k r).1 = [] := by
    intro k
    induction k with
    | zero => intro r _; rfl
    | succ k ih =>
      intro r
      by_cases hc : (rdTxt r).2.2 = 0
      · rw [rdTexts_ok _ _ hc]; unfold lift; split <;> simp
      · rw [rdTexts_no _ _ hc]; simp
  unfold rdRow at h ⊢
  repeat' split
  all_goals (first | rfl | skip)
  rename_i h1 h2 h3
  rw [if_neg h1, if_neg h2, if_neg h3] at h
  exact hT _ _ h

theorem rdRow_len (b : List UInt8) : (rdRow b).1.length ≤ 1000 := by
  have hT : ∀ k r, (rdTexts k r).1.length ≤ k := by
    intro k
    induction k with
    | zero => intro r; simp [rdTexts]
    | succ k ih =>
      intro r
      by_cases hc : (rdTxt r).2.2 = 0
      · rw [rdTexts_ok _ _ hc]; unfold lift; split
        · have := ih (rdTxt r).2.1; simp; omega
        · simp
      · rw [rdTexts_no _ _ hc]; simp
  unfold rdRow
  repeat' split
  all_goals (first | (simp; done) | skip)
  exact Nat.le_trans (hT _ _) (by omega)

end Go.Proofs.Pk
