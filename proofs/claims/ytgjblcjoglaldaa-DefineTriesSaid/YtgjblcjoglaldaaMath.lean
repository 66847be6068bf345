/- Plain mathematics for layer 1 (pack): the bytes of a number, a text, a row; what is read off bytes. No Go, no program. -/
import Derived.Lib.BitFns
namespace Go.Proofs.Pk
set_option maxRecDepth 10000

def MaxN : Nat := 9007199254740991
def MaxT : Nat := 1048576

/-- k digits of n to the base 256, the greatest first. -/
def big : Nat → Nat → List UInt8
  | 0, _ => []
  | k + 1, n => big k (n / 256) ++ [UInt8.ofNat n]

/-- How many bytes n needs (n below 2^56). -/
def nb (n : Nat) : Nat :=
  if n = 0 then 0 else if n < 256 then 1 else if n < 65536 then 2 else if n < 16777216 then 3 else if n < 4294967296 then 4
  else if n < 1099511627776 then 5 else if n < 281474976710656 then 6 else 7

/-- The bytes of a number. -/
def numL (n : Nat) : List UInt8 := UInt8.ofNat (nb n) :: big (nb n) n

def val (l : List UInt8) : Nat := l.foldl (fun a c => 256 * a + c.toNat) 0

theorem val_nil : val [] = 0 := rfl
theorem val_snoc (l : List UInt8) (c : UInt8) : val (l ++ [c]) = 256 * val l + c.toNat := by
  unfold val; rw [List.foldl_append]; rfl
theorem big_length : ∀ k n, (big k n).length = k
  | 0, _ => rfl
  | k + 1, n => by simp [big, big_length k]
theorem val_big : ∀ k n, val (big k n) = n % 256 ^ k
  | 0, n => by simp [big, val, Nat.mod_one]
  | k + 1, n => by
    have e : (UInt8.ofNat n).toNat = n % 256 := by simp
    rw [big, val_snoc, val_big k, e, Nat.pow_succ, Nat.mul_comm (256 ^ k) 256, Nat.mod_mul]
    omega
theorem snoc_cases {α : Type} (l : List α) : l = [] ∨ ∃ r c, l = r ++ [c] := by
  rcases List.eq_nil_or_concat l with h | ⟨r, c, h⟩
  · exact .inl h
  · exact .inr ⟨r, c, by simpa using h⟩
theorem val_lt : ∀ k (l : List UInt8), l.length = k → val l < 256 ^ k
  | 0, l, h => by
    have : l = [] := by simpa using h
    subst this; simp [val]
  | k + 1, l, h => by
    rcases snoc_cases l with rfl | ⟨r, c, rfl⟩
    · simp at h
    · have := val_lt k r (by simpa using h)
      have hc := c.toNat_lt
      rw [val_snoc, Nat.pow_succ]; omega
theorem big_val : ∀ k (l : List UInt8), l.length = k → big k (val l) = l
  | 0, l, h => by
    have : l = [] := by simpa using h
    subst this; rfl
  | k + 1, l, h => by
    rcases snoc_cases l with rfl | ⟨r, c, rfl⟩
    · simp at h
    · have hc := c.toNat_lt
      rw [val_snoc, big, show (256 * val r + c.toNat) / 256 = val r from by omega, big_val k r (by simpa using h)]
      congr 2
      apply UInt8.toNat_inj.1
      simp
theorem val_pos : ∀ (l : List UInt8), (∀ c, l.head? = some c → c ≠ 0) → l ≠ [] → 256 ^ (l.length - 1) ≤ val l
  | l, h, hne => by
    obtain ⟨k, hk⟩ : ∃ k, l.length = k := ⟨_, rfl⟩
    induction k generalizing l with
    | zero => exact absurd (by simpa using hk) hne
    | succ k ih =>
      rcases snoc_cases l with rfl | ⟨r, c, rfl⟩
      · simp at hk
      · rw [val_snoc]
        simp only [List.length_append, List.length_cons, List.length_nil, Nat.zero_add, Nat.add_sub_cancel]
        by_cases hr : r = []
        · subst hr
          have := h c rfl
          have h0 : c.toNat ≠ 0 := fun e => this (by apply UInt8.toNat_inj.1; simpa using e)
          simp [val]; omega
        · have hr1 : r.length = k := by simpa using hk
          have := ih r (fun x hx => h x (by cases r with
            | nil => exact absurd rfl hr
            | cons a t => simpa using hx)) hr hr1
          have hk1 : r.length ≠ 0 := by simpa using hr
          rw [show r.length = (r.length - 1) + 1 from by omega, Nat.pow_succ]; omega

theorem nb_le (n : Nat) : nb n ≤ 7 := by
  unfold nb; repeat' split
  all_goals omega
theorem nb_lt (n : Nat) (h : n ≤ MaxN) : n < 256 ^ nb n := by
  unfold MaxN at h
  unfold nb; repeat' split
  all_goals (first | omega | (simp; omega))
theorem nb_zero {n : Nat} (h : nb n = 0) : n = 0 := by
  unfold nb at h; repeat' split at h
  all_goals (first | omega | assumption)
theorem nb_low (n : Nat) (h : nb n ≠ 0) : 256 ^ (nb n - 1) ≤ n := by
  unfold nb at h ⊢; repeat' split
  all_goals (first | omega | (simp at h ⊢; omega) | simp_all)
theorem nb_of (n k : Nat) (hk : k ≤ 7) (h1 : n < 256 ^ k) (h2 : k ≠ 0 → 256 ^ (k - 1) ≤ n) : nb n = k := by
  have hc : k = 0 ∨ k = 1 ∨ k = 2 ∨ k = 3 ∨ k = 4 ∨ k = 5 ∨ k = 6 ∨ k = 7 := by omega
  rcases hc with rfl | rfl | rfl | rfl | rfl | rfl | rfl | rfl <;> simp at h1 h2 <;> unfold nb <;> (repeat' split) <;> omega
theorem nb_bits (n : Nat) (h : n ≤ MaxN) : (Go.Lib.bitLen n + 7) / 8 = nb n := by
  unfold MaxN at h
  have b8 := fun x (hx : x < 256) => Go.Lib.bitLen_le x 8 (by omega) (by simpa using hx)
  have b1 : ∀ x, x ≠ 0 → x < 256 → 1 ≤ Go.Lib.bitLen x := fun x h0 hx => by
    rw [Go.Lib.bitLen_half x h0 (by omega)]; omega
  unfold nb
  repeat' split
  · rename_i h0; subst h0; decide
  · have := b8 n (by omega); have := b1 n (by omega) (by omega); omega
  · rw [Go.Lib.bitLen_shift8 n (by omega) (by omega)]
    have := b8 (n / 256) (by omega); have := b1 (n / 256) (by omega) (by omega); omega
  · rw [Go.Lib.bitLen_shift16 n (by omega) (by omega)]
    have := b8 (n / 65536) (by omega); have := b1 (n / 65536) (by omega) (by omega); omega
  · rw [Go.Lib.bitLen_shift24 n (by omega) (by omega)]
    have := b8 (n / 16777216) (by omega); have := b1 (n / 16777216) (by omega) (by omega); omega
  · rw [Go.Lib.bitLen_shift32 n (by omega) (by omega)]
    have := b8 (n / 4294967296) (by omega); have := b1 (n / 4294967296) (by omega) (by omega); omega
  · rw [Go.Lib.bitLen_shift40 n (by omega) (by omega)]
    have := b8 (n / 1099511627776) (by omega); have := b1 (n / 1099511627776) (by omega) (by omega); omega
  · rw [Go.Lib.bitLen_shift48 n (by omega) (by omega)]
    have := b8 (n / 281474976710656) (by omega); have := b1 (n / 281474976710656) (by omega) (by omega); omega
theorem nb_mono {m n : Nat} (h : m ≤ n) : nb m ≤ nb n := by
  unfold nb; repeat' split
  all_goals omega

theorem numL_length (n : Nat) : (numL n).length = nb n + 1 := by simp [numL, big_length]
theorem numL_len_le (n : Nat) : (numL n).length ≤ 8 := by rw [numL_length]; have := nb_le n; omega

/-- What is read of bytes: the number, what is left, the error's number (0: none). -/
def rdNum : List UInt8 → Nat × List UInt8 × Nat
  | [] => (0, [], 2)
  | c :: r =>
    if 7 < c.toNat then (0, [], 3) else if r.length < c.toNat then (0, [], 2)
    else if 0 < c.toNat ∧ r.head? = some 0 then (0, [], 3)
    else if MaxN < val (r.take c.toNat) then (0, [], 3)
    else (val (r.take c.toNat), r.drop c.toNat, 0)

theorem rdNum_cons (c : UInt8) (r : List UInt8) : rdNum (c :: r) =
    if 7 < c.toNat then (0, [], 3) else if r.length < c.toNat then (0, [], 2)
    else if 0 < c.toNat ∧ r.head? = some 0 then (0, [], 3)
    else if MaxN < val (r.take c.toNat) then (0, [], 3)
    else (val (r.take c.toNat), r.drop c.toNat, 0) := rfl

theorem big_head (n : Nat) (h : n ≤ MaxN) (h0 : nb n ≠ 0) : (big (nb n) n).head? ≠ some 0 := by
  intro hh
  have hlen := big_length (nb n) n
  have hv := val_big (nb n) n
  rw [Nat.mod_eq_of_lt (nb_lt n h)] at hv
  have hlow := nb_low n h0
  cases hb : big (nb n) n with
  | nil => rw [hb] at hlen; simp at hlen; omega
  | cons a t =>
    rw [hb] at hh hlen hv
    simp at hh; subst hh
    have e0 : val (0 :: t) = val t := rfl
    have hl := val_lt t.length t rfl
    rw [e0] at hv
    simp at hlen
    rw [show nb n - 1 = t.length from by omega] at hlow
    omega

theorem rdNum_numL (n : Nat) (h : n ≤ MaxN) (t : List UInt8) : rdNum (numL n ++ t) = (n, t, 0) := by
  have h7 := nb_le n
  have hc : (UInt8.ofNat (nb n)).toNat = nb n := by simp; omega
  have hl := big_length (nb n) n
  have hv := val_big (nb n) n
  rw [Nat.mod_eq_of_lt (nb_lt n h)] at hv
  unfold numL
  rw [List.cons_append, rdNum_cons, hc, if_neg (by omega), if_neg (by rw [List.length_append, hl]; omega)]
  rw [List.take_left' hl, List.drop_left' hl, hv]
  rw [if_neg, if_neg (by omega)]
  rintro ⟨hp, hh⟩
  refine big_head n h (by omega) ?_
  cases hb : big (nb n) n with
  | nil => rw [hb] at hl; simp at hl; omega
  | cons a r => rw [hb] at hh; simpa using hh

theorem rdNum_le (b : List UInt8) : (rdNum b).1 ≤ MaxN := by
  unfold rdNum
  split
  · simp
  · repeat' split
    all_goals (first | (simp; done) | (simp only []; omega))

theorem rdNum_back (b : List UInt8) (h : (rdNum b).2.2 = 0) : numL (rdNum b).1 ++ (rdNum b).2.1 = b := by
  cases b with
  | nil => simp [rdNum] at h
  | cons c r =>
    unfold rdNum at h ⊢
    simp only [] at h ⊢
    by_cases h1 : 7 < c.toNat
    · rw [if_pos h1] at h; simp at h
    rw [if_neg h1] at h ⊢
    by_cases h2 : r.length < c.toNat
    · rw [if_pos h2] at h; simp at h
    rw [if_neg h2] at h ⊢
    by_cases h3 : 0 < c.toNat ∧ r.head? = some 0
    · rw [if_pos h3] at h; simp at h
    rw [if_neg h3] at h ⊢
    by_cases h4 : MaxN < val (r.take c.toNat)
    · rw [if_pos h4] at h; simp at h
    rw [if_neg h4]
    have hl : (r.take c.toNat).length = c.toNat := by rw [List.length_take]; omega
    have hn : nb (val (r.take c.toNat)) = c.toNat := by
      refine nb_of _ _ (by omega) (val_lt _ _ hl) fun h0 => ?_
      have := val_pos (r.take c.toNat) (fun x hx => ?_) (by intro e; rw [e] at hl; simp at hl; omega)
      · rw [hl] at this; exact this
      · rintro rfl
        refine h3 ⟨by omega, ?_⟩
        rw [List.head?_take] at hx
        rw [if_neg h0] at hx
        exact hx
    unfold numL
    rw [hn, big_val _ _ hl]
    simp

theorem rdNum_err (b : List UInt8) (h : (rdNum b).2.2 ≠ 0) : (rdNum b).1 = 0 ∧ (rdNum b).2.1 = [] := by
  cases b with
  | nil => simp [rdNum]
  | cons c r =>
    unfold rdNum at h ⊢
    simp only [] at h ⊢
    repeat' split
    all_goals (first | exact ⟨rfl, rfl⟩ | simp_all)

theorem rdNum_code (b : List UInt8) : (rdNum b).2.2 = 0 ∨ (rdNum b).2.2 = 2 ∨ (rdNum b).2.2 = 3 := by
  cases b with
  | nil => simp [rdNum]
  | cons c r =>
    unfold rdNum
    simp only []
    repeat' split
    all_goals simp

theorem rdNum_cut (n j : Nat) (_h : n ≤ MaxN) (hj : j < (numL n).length) : (rdNum ((numL n).take j)).2.2 = 2 := by
  cases j with
  | zero => rfl
  | succ j =>
    rw [numL_length] at hj
    have h7 := nb_le n
    have hc : (UInt8.ofNat (nb n)).toNat = nb n := by simp; omega
    have hl := big_length (nb n) n
    unfold numL
    rw [List.take_succ_cons, rdNum_cons, hc, if_neg (by omega), if_pos (by rw [List.length_take]; omega)]

/-! ### Texts -/

def txtL (s : List UInt8) : List UInt8 := numL s.length ++ s

def rdTxt (b : List UInt8) : List UInt8 × List UInt8 × Nat :=
  if (rdNum b).2.2 ≠ 0 then ([], [], (rdNum b).2.2) else if MaxT < (rdNum b).1 then ([], [], 5)
  else if (rdNum b).2.1.length < (rdNum b).1 then ([], [], 2)
  else ((rdNum b).2.1.take (rdNum b).1, (rdNum b).2.1.drop (rdNum b).1, 0)

theorem rdTxt_txtL (s t : List UInt8) (h : s.length ≤ MaxT) : rdTxt (txtL s ++ t) = (s, t, 0) := by
  have hM : s.length ≤ MaxN := by unfold MaxT at h; unfold MaxN; omega
  unfold rdTxt txtL
  rw [List.append_assoc, rdNum_numL _ hM]
  simp only []
  rw [if_neg (by simp), if_neg (by omega), if_neg (by simp)]
  simp

theorem rdTxt_cut (s : List UInt8) (j : Nat) (h : s.length ≤ MaxT) (hj : j < (txtL s).length) : (rdTxt ((txtL s).take j)).2.2 = 2 := by
  have hM : s.length ≤ MaxN := by unfold MaxT at h; unfold MaxN; omega
  have hT : s.length ≤ MaxT := h
  unfold txtL at hj ⊢
  rw [List.length_append] at hj
  by_cases hc : j < (numL s.length).length
  · have := rdNum_cut s.length j hM hc
    unfold rdTxt
    rw [List.take_append_of_le_length (by omega), if_pos (by omega)]
    exact this
  · unfold rdTxt
    rw [List.take_append, List.take_of_length_le (by omega), rdNum_numL _ hM]
    simp only []
    rw [if_neg (by simp), if_neg (by omega), if_pos (by rw [List.length_take]; omega)]

theorem rdTxt_err (b : List UInt8) (h : (rdTxt b).2.2 ≠ 0) : (rdTxt b).1 = [] ∧ (rdTxt b).2.1 = [] := by
  unfold rdTxt at h ⊢
  repeat' split
  all_goals (first | exact ⟨rfl, rfl⟩ | simp_all)

end Go.Proofs.Pk
