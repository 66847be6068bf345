/- Plain mathematics for layer 3 (frame): frames, what is read of bytes. No Go, no program. -/
import Derived.Test.YtaiklhcgimpajaaMathR
import Derived.Test.YtaiklhcgimpajaaCrc
namespace Go.Proofs.Pk
set_option maxRecDepth 10000

/-- The bytes of a frame. -/
def frmL (s : List UInt8) : List UInt8 := txtL s ++ big 4 (crcSum s)
/-- What Put of any text returns. -/
def encF (s : List UInt8) : List UInt8 × Nat := if s.length ≤ MaxT then (frmL s, 0) else ([], 5)
/-- What Take of any bytes returns. -/
def rdFrm (b : List UInt8) : List UInt8 × List UInt8 × Nat :=
  if (rdTxt b).2.2 ≠ 0 then ([], [], (rdTxt b).2.2) else if (rdTxt b).2.1.length < 4 then ([], [], 2)
  else if (rdTxt b).2.1.take 4 ≠ big 4 (crcSum (rdTxt b).1) then ([], [], 4)
  else ((rdTxt b).1, (rdTxt b).2.1.drop 4, 0)

theorem big4_inj {a b : Nat} (ha : a < 4294967296) (hb : b < 4294967296) (h : big 4 a = big 4 b) : a = b := by
  have := congrArg val h
  rw [val_big, val_big, Nat.mod_eq_of_lt (by omega), Nat.mod_eq_of_lt (by omega)] at this
  exact this
theorem rdTxt_back (b : List UInt8) (h : (rdTxt b).2.2 = 0) : txtL (rdTxt b).1 ++ (rdTxt b).2.1 = b ∧ (rdTxt b).1.length ≤ MaxT := by
  unfold rdTxt at h ⊢
  by_cases h1 : (rdNum b).2.2 ≠ 0
  · rw [if_pos h1] at h; exact absurd h h1
  rw [if_neg h1] at h ⊢
  by_cases h2 : MaxT < (rdNum b).1
  · rw [if_pos h2] at h; simp at h
  rw [if_neg h2] at h ⊢
  by_cases h3 : (rdNum b).2.1.length < (rdNum b).1
  · rw [if_pos h3] at h; simp at h
  rw [if_neg h3]
  have hl : ((rdNum b).2.1.take (rdNum b).1).length = (rdNum b).1 := by rw [List.length_take]; omega
  refine ⟨?_, by rw [hl]; omega⟩
  simp only [txtL]
  rw [hl, List.append_assoc, List.take_append_drop]
  exact rdNum_back b (by simpa using h1)
theorem frmL_length (s : List UInt8) : (frmL s).length = (txtL s).length + 4 := by rw [frmL, List.length_append, big_length]
theorem frmL_le (s : List UInt8) : (frmL s).length ≤ s.length + 12 := by
  rw [frmL_length, txtL, List.length_append]; have := numL_len_le s.length; omega
theorem frmL_pos (s : List UInt8) : 4 < (frmL s).length := by
  rw [frmL_length, txtL, List.length_append, numL_length]; omega
theorem rdFrm_frmL (s t : List UInt8) (h : s.length ≤ MaxT) : rdFrm (frmL s ++ t) = (s, t, 0) := by
  have e : rdTxt (frmL s ++ t) = (s, big 4 (crcSum s) ++ t, 0) := by rw [frmL, List.append_assoc, rdTxt_txtL s _ h]
  have hl := big_length 4 (crcSum s)
  unfold rdFrm
  rw [e]
  simp only []
  rw [if_neg (by simp), if_neg (by rw [List.length_append, hl]; omega), List.take_left' hl, List.drop_left' hl, if_neg (by simp)]
theorem rdFrm_back (b : List UInt8) (h : (rdFrm b).2.2 = 0) : frmL (rdFrm b).1 ++ (rdFrm b).2.1 = b ∧ (rdFrm b).1.length ≤ MaxT := by
  unfold rdFrm at h ⊢
  by_cases h1 : (rdTxt b).2.2 ≠ 0
  · rw [if_pos h1] at h; exact absurd h h1
  rw [if_neg h1] at h ⊢
  by_cases h2 : (rdTxt b).2.1.length < 4
  · rw [if_pos h2] at h; simp at h
  rw [if_neg h2] at h ⊢
  by_cases h3 : (rdTxt b).2.1.take 4 ≠ big 4 (crcSum (rdTxt b).1)
  · rw [if_pos h3] at h; simp at h
  rw [if_neg h3]
  obtain ⟨a, c⟩ := rdTxt_back b (by simpa using h1)
  refine ⟨?_, c⟩
  have h3' : (rdTxt b).2.1.take 4 = big 4 (crcSum (rdTxt b).1) := by simpa using h3
  simp only [frmL]
  rw [← h3', List.append_assoc, List.take_append_drop]
  exact a
theorem rdFrm_err (b : List UInt8) (h : (rdFrm b).2.2 ≠ 0) : (rdFrm b).1 = [] ∧ (rdFrm b).2.1 = [] := by
  unfold rdFrm at h ⊢
  repeat' split
  all_goals (first | exact ⟨rfl, rfl⟩ | simp_all)
theorem rdFrm_cut (s : List UInt8) (j : Nat) (h : s.length ≤ MaxT) (hj : j < (frmL s).length) : (rdFrm ((frmL s).take j)).2.2 = 2 := by
  rw [frmL_length] at hj
  by_cases hc : j < (txtL s).length
  · have := rdTxt_cut s j h hc
    unfold rdFrm frmL
    rw [List.take_append_of_le_length (by omega), if_pos (by omega)]
    exact this
  · unfold rdFrm frmL
    rw [List.take_append, List.take_of_length_le (by omega), rdTxt_txtL s _ h]
    simp only []
    rw [if_neg (by simp), if_pos (by rw [List.length_take, big_length]; omega)]
theorem rdFrm_turned (s t : List UInt8) (h : t.length ≤ MaxT) (hn : crcSum s ≠ crcSum t) : (rdFrm (txtL t ++ big 4 (crcSum s))).2.2 = 4 := by
  unfold rdFrm
  rw [rdTxt_txtL t _ h]
  simp only []
  rw [if_neg (by simp), if_neg (by rw [big_length]; omega), List.take_of_length_le (by rw [big_length]; omega), if_pos]
  intro e
  exact hn (big4_inj (crcSum_lt s) (crcSum_lt t) e)
theorem rdFrm_len (b : List UInt8) (h : (rdFrm b).2.2 = 0) : (rdFrm b).2.1.length + 5 ≤ b.length ∧ (rdFrm b).1.length + 5 ≤ b.length := by
  have e := congrArg List.length (rdFrm_back b h).1
  have := frmL_pos (rdFrm b).1
  have e2 : (frmL (rdFrm b).1).length = nb (rdFrm b).1.length + 1 + (rdFrm b).1.length + 4 := by rw [frmL_length, txtL, List.length_append, numL_length]
  rw [List.length_append] at e
  omega
theorem rdFrm_rest (b : List UInt8) : (rdFrm b).2.1.length ≤ b.length := by
  by_cases h : (rdFrm b).2.2 = 0
  · have := rdFrm_len b h; omega
  · rw [(rdFrm_err b h).2]; simp

/-- All frames of some bytes: the texts, what is left, the error's number. -/
def rdAll : Nat → List UInt8 → List (List UInt8) × List UInt8 × Nat
  | 0, b => ([], b, 0)
  | k + 1, b =>
    if b = [] then ([], [], 0) else if (rdFrm b).2.2 ≠ 0 then ([], b, (rdFrm b).2.2)
    else ((rdFrm b).1 :: (rdAll k (rdFrm b).2.1).1, (rdAll k (rdFrm b).2.1).2)
def rdEvery (b : List UInt8) : List (List UInt8) × List UInt8 × Nat := rdAll b.length b

theorem rdAll_fuel : ∀ (k m : Nat) (b : List UInt8), b.length ≤ k → b.length ≤ m → rdAll k b = rdAll m b
  | 0, 0, _, _, _ => rfl
  | 0, m + 1, b, h, _ => by
    have : b = [] := by simpa using h
    subst this; rfl
  | k + 1, 0, b, _, h => by
    have : b = [] := by simpa using h
    subst this; rfl
  | k + 1, m + 1, b, h1, h2 => by
    rw [rdAll, rdAll]
    by_cases hb : b = []
    · rw [if_pos hb, if_pos hb]
    rw [if_neg hb, if_neg hb]
    by_cases he : (rdFrm b).2.2 ≠ 0
    · rw [if_pos he, if_pos he]
    rw [if_neg he, if_neg he]
    have := rdFrm_len b (by simpa using he)
    rw [rdAll_fuel k m (rdFrm b).2.1 (by omega) (by omega)]
theorem rdEvery_nil : rdEvery [] = ([], [], 0) := rfl
theorem rdEvery_no (b : List UInt8) (hb : b ≠ []) (he : (rdFrm b).2.2 ≠ 0) : rdEvery b = ([], b, (rdFrm b).2.2) := by
  unfold rdEvery
  cases b with
  | nil => exact absurd rfl hb
  | cons c t => rw [List.length_cons, rdAll, if_neg hb, if_pos he]
theorem rdEvery_ok (b : List UInt8) (hb : b ≠ []) (he : (rdFrm b).2.2 = 0) : rdEvery b = ((rdFrm b).1 :: (rdEvery (rdFrm b).2.1).1, (rdEvery (rdFrm b).2.1).2) := by
  have hl := rdFrm_len b he
  unfold rdEvery
  obtain ⟨k, hk⟩ : ∃ k, b.length = k + 1 := ⟨b.length - 1, by omega⟩
  rw [hk, rdAll, if_neg hb, if_neg (by simpa using he), rdAll_fuel k (rdFrm b).2.1.length _ (by omega) (Nat.le_refl _)]

/-- The texts T have been read of b; r is left. -/
def AGoes (b : List UInt8) (T : List (List UInt8)) (r : List UInt8) : Prop :=
  rdEvery b = (T ++ (rdEvery r).1, (rdEvery r).2) ∧ T.length + r.length ≤ b.length ∧ (∀ s ∈ T, s.length ≤ b.length)
theorem AGoes.start (b : List UInt8) : AGoes b [] b := ⟨rfl, by simp, by simp⟩
theorem AGoes.step {b r : List UInt8} {T : List (List UInt8)} (h : AGoes b T r) (hr : r ≠ []) (he : (rdFrm r).2.2 = 0) : AGoes b (T ++ [(rdFrm r).1]) (rdFrm r).2.1 := by
  have hl := rdFrm_len r he
  refine ⟨?_, by have := h.2.1; rw [List.length_append]; simp; omega, ?_⟩
  · rw [h.1, rdEvery_ok r hr he, List.append_assoc]; rfl
  · intro s hs
    rcases List.mem_append.1 hs with hs | hs
    · exact h.2.2 s hs
    · have : s = (rdFrm r).1 := by simpa using hs
      subst this
      have := h.2.1; omega
theorem AGoes.over {b : List UInt8} {T : List (List UInt8)} (h : AGoes b T []) : rdEvery b = (T, [], 0) := by
  rw [h.1, rdEvery_nil, List.append_nil]
theorem AGoes.fail {b r : List UInt8} {T : List (List UInt8)} (h : AGoes b T r) (hr : r ≠ []) (he : (rdFrm r).2.2 ≠ 0) : rdEvery b = (T, r, (rdFrm r).2.2) := by
  rw [h.1, rdEvery_no r hr he, List.append_nil]
theorem rdEvery_goes (b : List UInt8) : ∃ T, T = (rdEvery b).1 ∧ AGoes b T (rdEvery b).2.1 := by
  refine ⟨_, rfl, ?_⟩
  have key : ∀ (n : Nat) (r : List UInt8) (T : List (List UInt8)), r.length ≤ n → AGoes b T r → AGoes b (rdEvery b).1 (rdEvery b).2.1 := by
    intro n
    induction n with
    | zero =>
      intro r T hn hg
      have : r = [] := by simpa using hn
      subst this
      rw [hg.over]; exact hg
    | succ n ih =>
      intro r T hn hg
      by_cases hr : r = []
      · subst hr; rw [hg.over]; exact hg
      by_cases he : (rdFrm r).2.2 = 0
      · have := rdFrm_len r he
        exact ih _ _ (by omega) (hg.step hr he)
      · rw [hg.fail hr he]; exact hg
  exact key b.length b [] (Nat.le_refl _) (AGoes.start b)

theorem rdEvery_row : ∀ (l : List (List UInt8)) (more : List UInt8), (∀ s ∈ l, s.length ≤ MaxT) → rdEvery (l.flatMap frmL ++ more) = (l ++ (rdEvery more).1, (rdEvery more).2)
  | [], _, _ => rfl
  | s :: l, more, h => by
    have e : (s :: l).flatMap frmL ++ more = frmL s ++ (l.flatMap frmL ++ more) := by simp
    have hf := rdFrm_frmL s (l.flatMap frmL ++ more) (h s (by simp))
    have hne : frmL s ++ (l.flatMap frmL ++ more) ≠ [] := by
      intro h0
      have hp := frmL_pos s
      rw [(List.append_eq_nil_iff.1 h0).1] at hp
      simp at hp
    rw [e, rdEvery_ok _ hne (by rw [hf]), hf]
    simp only []
    rw [rdEvery_row l more (fun t ht => h t (by simp [ht]))]; rfl

/-- The frames of the first k texts. -/
def rowF (l : List (List UInt8)) (k : Nat) : List UInt8 := (l.take k).flatMap frmL
theorem rowF_zero (l : List (List UInt8)) : rowF l 0 = [] := by simp [rowF]
theorem rowF_succ (l : List (List UInt8)) (k : Nat) (h : k < l.length) : rowF l (k + 1) = rowF l k ++ frmL l[k] := by
  rw [rowF, rowF, List.take_succ_eq_append_getElem h, List.flatMap_append]; simp
/-- The first k texts are framed, none of them too long: the bytes B. -/
def Framed (l : List (List UInt8)) (k : Nat) (B : List UInt8) : Prop := B = rowF l k ∧ (∀ s ∈ l.take k, s.length ≤ MaxT) ∧ B.length ≤ k * 1048588
theorem Framed.start (l : List (List UInt8)) : Framed l 0 [] := ⟨by rw [rowF_zero], by simp, by simp⟩
theorem Framed.step {l : List (List UInt8)} {k : Nat} {B : List UInt8} (h : Framed l k B) (hk : k < l.length) (hs : l[k].length ≤ MaxT) : Framed l (k + 1) (B ++ frmL l[k]) := by
  refine ⟨by rw [h.1, rowF_succ l k hk], ?_, ?_⟩
  · intro s hm
    rw [List.take_succ_eq_append_getElem hk] at hm
    rcases List.mem_append.1 hm with hm | hm
    · exact h.2.1 s hm
    · have : s = l[k] := by simpa using hm
      subst this; exact hs
  · have := h.2.2
    have := frmL_le l[k]
    unfold MaxT at hs
    rw [List.length_append]; omega
theorem Framed.all {l : List (List UInt8)} {k : Nat} {B : List UInt8} (h : Framed l k B) (hk : l.length ≤ k) (more : List UInt8) : rdEvery (B ++ more) = (l ++ (rdEvery more).1, (rdEvery more).2) := by
  have ht : l.take k = l := List.take_of_length_le hk
  rw [h.1, rowF, ht]
  exact rdEvery_row l more (fun s hs => h.2.1 s (by rw [ht]; exact hs))
theorem rdEvery_cut (s : List UInt8) (j : Nat) (h : s.length ≤ MaxT) (h0 : 0 < j) (hj : j < (frmL s).length) : rdEvery ((frmL s).take j) = ([], (frmL s).take j, 2) := by
  have hc := rdFrm_cut s j h hj
  rw [rdEvery_no _ (by
    intro e
    have e2 : ((frmL s).take j).length = 0 := by rw [e]; rfl
    rw [List.length_take] at e2
    omega) (by omega), hc]

end Go.Proofs.Pk
