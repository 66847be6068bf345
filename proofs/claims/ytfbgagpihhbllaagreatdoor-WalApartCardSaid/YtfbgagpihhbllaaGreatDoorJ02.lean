/- Math, MathR, Base. -/
import Derived.Lib.BitFns
import Derived.WalkKit
import Derived.WalkLawsBesides
import Derived.Lib.Hide
import Derived.IntWalk
import Derived.Outline
import Derived.Deep.QuietTactic
import Derived.BigQuiet

/- Plain mathematics for layer 1 (pack): the bytes of a number, a text, a row; what is read off bytes. No Go, no program. -/
namespace Go.Proofs.Pk
set_option maxRecDepth 10000

def MaxN : Nat := 9007199254740991
def MaxT : Nat := 1048576

/-- k digits of n to the base 256, the greatest first. -/
def big : Nat → Nat → List UInt8
  | 0, _ => []
  | k + 1, n => big k (n / 256) ++ [UInt8.ofNat n]

/-- How many bytes n needs (n below 2^56). -/
def nb (n : Nat) : Nat :=
  if n = 0 then 0 else if n < 256 then 1 else if n < 65536 then 2 else if n < 16777216 then 3 else if n < 4294967296 then 4
  else if n < 1099511627776 then 5 else if n < 281474976710656 then 6 else 7

/-- The bytes of a number. -/
def numL (n : Nat) : List UInt8 := UInt8.ofNat (nb n) :: big (nb n) n

def val (l : List UInt8) : Nat := l.foldl (fun a c => 256 * a + c.toNat) 0

theorem val_nil : val [] = 0 := rfl
theorem val_snoc (l : List UInt8) (c : UInt8) : val (l ++ [c]) = 256 * val l + c.toNat := by
  unfold val; rw [List.foldl_append]; rfl
theorem big_length : ∀ k n, (big k n).length = k
  | 0, _ => rfl
  | k + 1, n => by simp [big, big_length k]
theorem val_big : ∀ k n, val (big k n) = n % 256 ^ k
  | 0, n => by simp [big, val, Nat.mod_one]
  | k + 1, n => by
    have e : (UInt8.ofNat n).toNat = n % 256 := by simp
    rw [big, val_snoc, val_big k, e, Nat.pow_succ, Nat.mul_comm (256 ^ k) 256, Nat.mod_mul]
    omega
theorem snoc_cases {α : Type} (l : List α) : l = [] ∨ ∃ r c, l = r ++ [c] := by
  rcases List.eq_nil_or_concat l with h | ⟨r, c, h⟩
  · exact .inl h
  · exact .inr ⟨r, c, by simpa using h⟩
theorem val_lt : ∀ k (l : List UInt8), l.length = k → val l < 256 ^ k
  | 0, l, h => by
    have : l = [] := by simpa using h
    subst this; simp [val]
  | k + 1, l, h => by
    rcases snoc_cases l with rfl | ⟨r, c, rfl⟩
    · simp at h
    · have := val_lt k r (by simpa using h)
      have hc := c.toNat_lt
      rw [val_snoc, Nat.pow_succ]; omega
theorem big_val : ∀ k (l : List UInt8), l.length = k → big k (val l) = l
  | 0, l, h => by
    have : l = [] := by simpa using h
    subst this; rfl
  | k + 1, l, h => by
    rcases snoc_cases l with rfl | ⟨r, c, rfl⟩
    · simp at h
    · have hc := c.toNat_lt
      rw [val_snoc, big, show (256 * val r + c.toNat) / 256 = val r from by omega, big_val k r (by simpa using h)]
      congr 2
      apply UInt8.toNat_inj.1
      simp
theorem val_pos : ∀ (l : List UInt8), (∀ c, l.head? = some c → c ≠ 0) → l ≠ [] → 256 ^ (l.length - 1) ≤ val l
  | l, h, hne => by
    obtain ⟨k, hk⟩ : ∃ k, l.length = k := ⟨_, rfl⟩
    induction k generalizing l with
    | zero => exact absurd (by simpa using hk) hne
    | succ k ih =>
      rcases snoc_cases l with rfl | ⟨r, c, rfl⟩
      · simp at hk
      · rw [val_snoc]
        simp only [List.length_append, List.length_cons, List.length_nil, Nat.zero_add, Nat.add_sub_cancel]
        by_cases hr : r = []
        · subst hr
          have := h c rfl
          have h0 : c.toNat ≠ 0 := fun e => this (by apply UInt8.toNat_inj.1; simpa using e)
          simp [val]; omega
        · have hr1 : r.length = k := by simpa using hk
          have := ih r (fun x hx => h x (by cases r with
            | nil => exact absurd rfl hr
            | cons a t => simpa using hx)) hr hr1
          have hk1 : r.length ≠ 0 := by simpa using hr
          rw [show r.length = (r.length - 1) + 1 from by omega, Nat.pow_succ]; omega

theorem nb_le (n : Nat) : nb n ≤ 7 := by
  unfold nb; repeat' split
  all_goals omega
theorem nb_lt (n : Nat) (h : n ≤ MaxN) : n < 256 ^ nb n := by
  unfold MaxN at h
  unfold nb; repeat' split
  all_goals (first | omega | (simp; omega))
theorem nb_zero {n : Nat} (h : nb n = 0) : n = 0 := by
  unfold nb at h; repeat' split at h
  all_goals (first | omega | assumption)
theorem nb_low (n : Nat) (h : nb n ≠ 0) : 256 ^ (nb n - 1) ≤ n := by
  unfold nb at h ⊢; repeat' split
  all_goals (first | omega | (simp at h ⊢; omega) | simp_all)
theorem nb_of (n k : Nat) (hk : k ≤ 7) (h1 : n < 256 ^ k) (h2 : k ≠ 0 → 256 ^ (k - 1) ≤ n) : nb n = k := by
  have hc : k = 0 ∨ k = 1 ∨ k = 2 ∨ k = 3 ∨ k = 4 ∨ k = 5 ∨ k = 6 ∨ k = 7 := by omega
  rcases hc with rfl | rfl | rfl | rfl | rfl | rfl | rfl | rfl <;> simp at h1 h2 <;> unfold nb <;> (repeat' split) <;> omega
theorem nb_bits (n : Nat) (h : n ≤ MaxN) : (Go.Lib.bitLen n + 7) / 8 = nb n := by
  unfold MaxN at h
  have b8 := fun x (hx : x < 256) => Go.Lib.bitLen_le x 8 (by omega) (by simpa using hx)
  have b1 : ∀ x, x ≠ 0 → x < 256 → 1 ≤ Go.Lib.bitLen x := fun x h0 hx => by
    rw [Go.Lib.bitLen_half x h0 (by omega)]; omega
  unfold nb
  repeat' split
  · rename_i h0; subst h0; decide
  · have := b8 n (by omega); have := b1 n (by omega) (by omega); omega
  · rw [Go.Lib.bitLen_shift8 n (by omega) (by omega)]
    have := b8 (n / 256) (by omega); have := b1 (n / 256) (by omega) (by omega); omega
  · rw [Go.Lib.bitLen_shift16 n (by omega) (by omega)]
    have := b8 (n / 65536) (by omega); have := b1 (n / 65536) (by omega) (by omega); omega
  · rw [Go.Lib.bitLen_shift24 n (by omega) (by omega)]
    have := b8 (n / 16777216) (by omega); have := b1 (n / 16777216) (by omega) (by omega); omega
  · rw [Go.Lib.bitLen_shift32 n (by omega) (by omega)]
    have := b8 (n / 4294967296) (by omega); have := b1 (n / 4294967296) (by omega) (by omega); omega
  · rw [Go.Lib.bitLen_shift40 n (by omega) (by omega)]
    have := b8 (n / 1099511627776) (by omega); have := b1 (n / 1099511627776) (by omega) (by omega); omega
  · rw [Go.Lib.bitLen_shift48 n (by omega) (by omega)]
    have := b8 (n / 281474976710656) (by omega); have := b1 (n / 281474976710656) (by omega) (by omega); omega
theorem nb_mono {m n : Nat} (h : m ≤ n) : nb m ≤ nb n := by
  unfold nb; repeat' split
  all_goals omega

theorem numL_length (n : Nat) : (numL n).length = nb n + 1 := by simp [numL, big_length]
theorem numL_len_le (n : Nat) : (numL n).length ≤ 8 := by rw [numL_length]; have := nb_le n; omega

/-- What is read of bytes: the number, what is left, the error's number (0: none). -/
def rdNum : List UInt8 → Nat × List UInt8 × Nat
  | [] => (0, [], 2)
  | c :: r =>
    if 7 < c.toNat then (0, [], 3) else if r.length < c.toNat then (0, [], 2)
    else if 0 < c.toNat ∧ r.head? = some 0 then (0, [], 3)
    else if MaxN < val (r.take c.toNat) then (0, [], 3)
    else (val (r.take c.toNat), r.drop c.toNat, 0)

theorem rdNum_cons (c : UInt8) (r : List UInt8) : rdNum (c :: r) =
    if 7 < c.toNat then (0, [], 3) else if r.length < c.toNat then (0, [], 2)
    else if 0 < c.toNat ∧ r.head? = some 0 then (0, [], 3)
    else if MaxN < val (r.take c.toNat) then (0, [], 3)
    else (val (r.take c.toNat), r.drop c.toNat, 0) := rfl

theorem big_head (n : Nat) (h : n ≤ MaxN) (h0 : nb n ≠ 0) : (big (nb n) n).head? ≠ some 0 := by
  intro hh
  have hlen := big_length (nb n) n
  have hv := val_big (nb n) n
  rw [Nat.mod_eq_of_lt (nb_lt n h)] at hv
  have hlow := nb_low n h0
  cases hb : big (nb n) n with
  | nil => rw [hb] at hlen; simp at hlen; omega
  | cons a t =>
    rw [hb] at hh hlen hv
    simp at hh; subst hh
    have e0 : val (0 :: t) = val t := rfl
    have hl := val_lt t.length t rfl
    rw [e0] at hv
    simp at hlen
    rw [show nb n - 1 = t.length from by omega] at hlow
    omega

theorem rdNum_numL (n : Nat) (h : n ≤ MaxN) (t : List UInt8) : rdNum (numL n ++ t) = (n, t, 0) := by
  have h7 := nb_le n
  have hc : (UInt8.ofNat (nb n)).toNat = nb n := by simp; omega
  have hl := big_length (nb n) n
  have hv := val_big (nb n) n
  rw [Nat.mod_eq_of_lt (nb_lt n h)] at hv
  unfold numL
  rw [List.cons_append, rdNum_cons, hc, if_neg (by omega), if_neg (by rw [List.length_append, hl]; omega)]
  rw [List.take_left' hl, List.drop_left' hl, hv]
  rw [if_neg, if_neg (by omega)]
  rintro ⟨hp, hh⟩
  refine big_head n h (by omega) ?_
  cases hb : big (nb n) n with
  | nil => rw [hb] at hl; simp at hl; omega
  | cons a r => rw [hb] at hh; simpa using hh

theorem rdNum_le (b : List UInt8) : (rdNum b).1 ≤ MaxN := by
  unfold rdNum
  split
  · simp
  · repeat' split
    all_goals (first | (simp; done) | (simp only []; omega))

theorem rdNum_back (b : List UInt8) (h : (rdNum b).2.2 = 0) : numL (rdNum b).1 ++ (rdNum b).2.1 = b := by
  cases b with
  | nil => simp [rdNum] at h
  | cons c r =>
    unfold rdNum at h ⊢
    simp only [] at h ⊢
    by_cases h1 : 7 < c.toNat
    · rw [if_pos h1] at h; simp at h
    rw [if_neg h1] at h ⊢
    by_cases h2 : r.length < c.toNat
    · rw [if_pos h2] at h; simp at h
    rw [if_neg h2] at h ⊢
    by_cases h3 : 0 < c.toNat ∧ r.head? = some 0
    · rw [if_pos h3] at h; simp at h
    rw [if_neg h3] at h ⊢
    by_cases h4 : MaxN < val (r.take c.toNat)
    · rw [if_pos h4] at h; simp at h
    rw [if_neg h4]
    have hl : (r.take c.toNat).length = c.toNat := by rw [List.length_take]; omega
    have hn : nb (val (r.take c.toNat)) = c.toNat := by
      refine nb_of _ _ (by omega) (val_lt _ _ hl) fun h0 => ?_
      have := val_pos (r.take c.toNat) (fun x hx => ?_) (by intro e; rw [e] at hl; simp at hl; omega)
      · rw [hl] at this; exact this
      · rintro rfl
        refine h3 ⟨by omega, ?_⟩
        rw [List.head?_take] at hx
        rw [if_neg h0] at hx
        exact hx
    unfold numL
    rw [hn, big_val _ _ hl]
    simp

theorem rdNum_err (b : List UInt8) (h : (rdNum b).2.2 ≠ 0) : (rdNum b).1 = 0 ∧ (rdNum b).2.1 = [] := by
  cases b with
  | nil => simp [rdNum]
  | cons c r =>
    unfold rdNum at h ⊢
    simp only [] at h ⊢
    repeat' split
    all_goals (first | exact ⟨rfl, rfl⟩ | simp_all)

theorem rdNum_code (b : List UInt8) : (rdNum b).2.2 = 0 ∨ (rdNum b).2.2 = 2 ∨ (rdNum b).2.2 = 3 := by
  cases b with
  | nil => simp [rdNum]
  | cons c r =>
    unfold rdNum
    simp only []
    repeat' split
    all_goals simp

theorem rdNum_cut (n j : Nat) (_h : n ≤ MaxN) (hj : j < (numL n).length) : (rdNum ((numL n).take j)).2.2 = 2 := by
  cases j with
  | zero => rfl
  | succ j =>
    rw [numL_length] at hj
    have h7 := nb_le n
    have hc : (UInt8.ofNat (nb n)).toNat = nb n := by simp; omega
    have hl := big_length (nb n) n
    unfold numL
    rw [List.take_succ_cons, rdNum_cons, hc, if_neg (by omega), if_pos (by rw [List.length_take]; omega)]

/-! ### Texts -/

def txtL (s : List UInt8) : List UInt8 := numL s.length ++ s

def rdTxt (b : List UInt8) : List UInt8 × List UInt8 × Nat :=
  if (rdNum b).2.2 ≠ 0 then ([], [], (rdNum b).2.2) else if MaxT < (rdNum b).1 then ([], [], 5)
  else if (rdNum b).2.1.length < (rdNum b).1 then ([], [], 2)
  else ((rdNum b).2.1.take (rdNum b).1, (rdNum b).2.1.drop (rdNum b).1, 0)

theorem rdTxt_txtL (s t : List UInt8) (h : s.length ≤ MaxT) : rdTxt (txtL s ++ t) = (s, t, 0) := by
  have hM : s.length ≤ MaxN := by unfold MaxT at h; unfold MaxN; omega
  unfold rdTxt txtL
  rw [List.append_assoc, rdNum_numL _ hM]
  simp only []
  rw [if_neg (by simp), if_neg (by omega), if_neg (by simp)]
  simp

theorem rdTxt_cut (s : List UInt8) (j : Nat) (h : s.length ≤ MaxT) (hj : j < (txtL s).length) : (rdTxt ((txtL s).take j)).2.2 = 2 := by
  have hM : s.length ≤ MaxN := by unfold MaxT at h; unfold MaxN; omega
  have hT : s.length ≤ MaxT := h
  unfold txtL at hj ⊢
  rw [List.length_append] at hj
  by_cases hc : j < (numL s.length).length
  · have := rdNum_cut s.length j hM hc
    unfold rdTxt
    rw [List.take_append_of_le_length (by omega), if_pos (by omega)]
    exact this
  · unfold rdTxt
    rw [List.take_append, List.take_of_length_le (by omega), rdNum_numL _ hM]
    simp only []
    rw [if_neg (by simp), if_neg (by omega), if_pos (by rw [List.length_take]; omega)]

theorem rdTxt_err (b : List UInt8) (h : (rdTxt b).2.2 ≠ 0) : (rdTxt b).1 = [] ∧ (rdTxt b).2.1 = [] := by
  unfold rdTxt at h ⊢
  repeat' split
  all_goals (first | exact ⟨rfl, rfl⟩ | simp_all)

end Go.Proofs.Pk

/- Plain mathematics for layer 1 (pack): rows of texts as bytes, and what is read as a row. No Go, no program. -/
namespace Go.Proofs.Pk

def rowL (l : List (List UInt8)) : List UInt8 := numL l.length ++ l.flatMap txtL

/-- k texts, and nothing behind. -/
def rdTexts : Nat → List UInt8 → List (List UInt8) × Nat
  | 0, r => ([], if r = [] then 0 else 3)
  | k + 1, r => if (rdTxt r).2.2 ≠ 0 then ([], (rdTxt r).2.2)
    else if (rdTexts k (rdTxt r).2.1).2 = 0 then ((rdTxt r).1 :: (rdTexts k (rdTxt r).2.1).1, 0) else ([], (rdTexts k (rdTxt r).2.1).2)

def lift (T : List (List UInt8)) (p : List (List UInt8) × Nat) : List (List UInt8) × Nat := if p.2 = 0 then (T ++ p.1, 0) else ([], p.2)

theorem lift_nil : ∀ (k : Nat) (r : List UInt8), lift [] (rdTexts k r) = rdTexts k r
  | 0, r => by unfold lift rdTexts; split <;> simp_all
  | k + 1, r => by
    unfold lift rdTexts
    repeat' split
    all_goals simp_all
theorem lift_lift (T U : List (List UInt8)) (p : List (List UInt8) × Nat) : lift T (lift U p) = lift (T ++ U) p := by
  unfold lift; repeat' split
  all_goals simp_all
theorem rdTexts_ok (k : Nat) (r : List UInt8) (h : (rdTxt r).2.2 = 0) : rdTexts (k + 1) r = lift [(rdTxt r).1] (rdTexts k (rdTxt r).2.1) := by
  rw [rdTexts, if_neg (by omega)]; unfold lift; split <;> simp
theorem rdTexts_no (k : Nat) (r : List UInt8) (h : (rdTxt r).2.2 ≠ 0) : rdTexts (k + 1) r = ([], (rdTxt r).2.2) := by
  rw [rdTexts, if_pos h]
theorem lift_err (T : List (List UInt8)) (c : Nat) (h : c ≠ 0) : lift T ([], c) = ([], c) := by unfold lift; rw [if_neg h]

/-- Behind k texts of n: T were read, s is left. -/
def Goes (n : Nat) (r : List UInt8) (k : Nat) (T : List (List UInt8)) (s : List UInt8) : Prop :=
  T.length = k ∧ k ≤ n ∧ rdTexts n r = lift T (rdTexts (n - k) s) ∧ s.length ≤ r.length
theorem rdNum_len (b : List UInt8) : (rdNum b).2.1.length ≤ b.length := by
  by_cases h : (rdNum b).2.2 = 0
  · have := congrArg List.length (rdNum_back b h)
    rw [List.length_append] at this; omega
  · rw [(rdNum_err b h).2]; simp
theorem rdTxt_len (b : List UInt8) : (rdTxt b).2.1.length ≤ b.length := by
  have := rdNum_len b
  unfold rdTxt
  repeat' split
  all_goals simp only [List.length_nil, List.length_drop]
  all_goals omega
theorem Goes.start (n : Nat) (r : List UInt8) : Goes n r 0 [] r := ⟨rfl, Nat.zero_le _, by rw [lift_nil]; rfl, Nat.le_refl _⟩
theorem Goes.step {n k : Nat} {r s : List UInt8} {T : List (List UInt8)} (h : Goes n r k T s) (hk : k < n) (hc : (rdTxt s).2.2 = 0) : Goes n r (k + 1) (T ++ [(rdTxt s).1]) (rdTxt s).2.1 := by
  obtain ⟨a, b, c, d⟩ := h
  refine ⟨by simp [a], hk, ?_, Nat.le_trans (rdTxt_len s) d⟩
  rw [c, show n - k = (n - (k + 1)) + 1 from by omega, rdTexts_ok _ _ hc, lift_lift]
theorem Goes.fail {n k : Nat} {r s : List UInt8} {T : List (List UInt8)} (h : Goes n r k T s) (hk : k < n) (hc : (rdTxt s).2.2 ≠ 0) : rdTexts n r = ([], (rdTxt s).2.2) := by
  obtain ⟨a, b, c, d⟩ := h
  rw [c, show n - k = (n - (k + 1)) + 1 from by omega, rdTexts_no _ _ hc, lift_err _ _ hc]
theorem Goes.over {n : Nat} {r s : List UInt8} {T : List (List UInt8)} (h : Goes n r n T s) : rdTexts n r = if s = [] then (T, 0) else ([], 3) := by
  obtain ⟨a, b, c, d⟩ := h
  rw [c, Nat.sub_self, rdTexts]
  by_cases hs : s = []
  · rw [if_pos hs, if_pos hs]; simp [lift]
  · rw [if_neg hs, if_neg hs]; simp [lift]

def rdRow (b : List UInt8) : List (List UInt8) × Nat :=
  if MaxT < b.length then ([], 5) else if (rdNum b).2.2 ≠ 0 then ([], (rdNum b).2.2) else if 1000 < (rdNum b).1 then ([], 5)
  else rdTexts (rdNum b).1 (rdNum b).2.1

theorem flat_goes : ∀ (l : List (List UInt8)) (more : List UInt8), (∀ s ∈ l, s.length ≤ MaxT) → rdTexts l.length (l.flatMap txtL ++ more) = if more = [] then (l, 0) else ([], 3)
  | [], more, _ => by
    simp only [List.flatMap_nil, List.nil_append, List.length_nil, rdTexts]
    split <;> rfl
  | s :: l, more, h => by
    have hs := rdTxt_txtL s (l.flatMap txtL ++ more) (h s (by simp))
    rw [List.flatMap_cons, List.append_assoc, List.length_cons, rdTexts_ok _ _ (by rw [hs]), hs]
    simp only []
    rw [flat_goes l more (fun x hx => h x (by simp [hx]))]
    split <;> simp [lift]

theorem mem_row {l : List (List UInt8)} {s : List UInt8} (h : s ∈ l) : s.length ≤ (l.flatMap txtL).length := by
  induction l with
  | nil => simp at h
  | cons a l ih =>
    rw [List.flatMap_cons, List.length_append]
    rcases List.mem_cons.1 h with rfl | h
    · have : (txtL s).length = (numL s.length).length + s.length := by rw [txtL, List.length_append]
      omega
    · have := ih h; omega

theorem rowL_length (l : List (List UInt8)) : (rowL l).length = (numL l.length).length + (l.flatMap txtL).length := by rw [rowL, List.length_append]

theorem rdRow_rowL (l : List (List UInt8)) (h1 : l.length ≤ 1000) (h2 : (rowL l).length ≤ MaxT) (more : List UInt8) :
    rdRow (rowL l ++ more) = if MaxT < (rowL l).length + more.length then ([], 5) else if more = [] then (l, 0) else ([], 3) := by
  have hm : MaxT = 1048576 := rfl
  have hN : l.length ≤ MaxN := by unfold MaxN; omega
  have hr : rdNum (rowL l ++ more) = (l.length, l.flatMap txtL ++ more, 0) := by rw [rowL, List.append_assoc, rdNum_numL _ hN]
  unfold rdRow
  rw [List.length_append]
  by_cases hl : MaxT < (rowL l).length + more.length
  · rw [if_pos hl, if_pos hl]
  · rw [if_neg hl, if_neg hl, hr]
    simp only []
    rw [if_neg (by simp), if_neg (by omega)]
    exact flat_goes l more (fun s hs => by have := mem_row hs; rw [rowL_length] at h2; omega)

theorem rdRow_no (b : List UInt8) (h : (rdRow b).2 ≠ 0) : (rdRow b).1 = [] := by
  have hT : ∀ k r, (rdTexts k r).2 ≠ 0 → (rdTexts k r).1 = [] := by
    intro k
    induction k with
    | zero => intro r _; rfl
    | succ k ih =>
      intro r
      by_cases hc : (rdTxt r).2.2 = 0
      · rw [rdTexts_ok _ _ hc]; unfold lift; split <;> simp
      · rw [rdTexts_no _ _ hc]; simp
  unfold rdRow at h ⊢
  repeat' split
  all_goals (first | rfl | skip)
  rename_i h1 h2 h3
  rw [if_neg h1, if_neg h2, if_neg h3] at h
  exact hT _ _ h

theorem rdRow_len (b : List UInt8) : (rdRow b).1.length ≤ 1000 := by
  have hT : ∀ k r, (rdTexts k r).1.length ≤ k := by
    intro k
    induction k with
    | zero => intro r; simp [rdTexts]
    | succ k ih =>
      intro r
      by_cases hc : (rdTxt r).2.2 = 0
      · rw [rdTexts_ok _ _ hc]; unfold lift; split
        · have := ih (rdTxt r).2.1; simp; omega
        · simp
      · rw [rdTexts_no _ _ hc]; simp
  unfold rdRow
  repeat' split
  all_goals (first | (simp; done) | skip)
  exact Nat.le_trans (hT _ _) (by omega)

end Go.Proofs.Pk

/- Small laws that the walks over strings of bytes use: a string written as the list of its bytes. No program. -/
namespace Go.Proofs.Pk
open Go.RowKit
set_option maxRecDepth 10000

theorem mk_get (l : List UInt8) (i : Nat) (h : i < (ByteArray.mk l.toArray).size) : (ByteArray.mk l.toArray)[i]'h = l[i]'(by simpa [ByteArray.size] using h) := rfl
theorem wrap64_u8 (c : UInt8) : wrap64 (c.toNat : Int) = (c.toNat : Int) := by
  have := c.toNat_lt
  unfold wrap64; omega
theorem mk_size (l : List UInt8) : (ByteArray.mk l.toArray).size = l.length := rfl
theorem mk_extract (l : List UInt8) (a b : Nat) : (ByteArray.mk l.toArray).extract a b = ⟨((l.drop a).take (b - a)).toArray⟩ := ByteArray.extract_mk l a b
theorem wrap64_in {n : Int} (h0 : -9223372036854775808 ≤ n) (h1 : n ≤ 9223372036854775807) : wrap64 n = n := by
  unfold wrap64; omega

theorem or_byte (n : Nat) (c : UInt8) (h : n < 281474976710656) : bits .or .i64 (wrap64 ((n : Int) * 256)) (c.toNat : Int) = ((256 * n + c.toNat : Nat) : Int) := by
  have hc := c.toNat_lt
  rw [wrap64_in (by omega) (by omega)]
  have e : ((n : Int) * 256) = ((n * 256 : Nat) : Int) := by omega
  rw [e]
  have h1 : (BitVec.ofInt 64 ((n * 256 : Nat) : Int)).toNat = n * 256 := by
    rw [BitVec.ofInt_natCast, BitVec.toNat_ofNat]; exact Nat.mod_eq_of_lt (by omega)
  have h2 : (BitVec.ofInt 64 ((c.toNat : Nat) : Int)).toNat = c.toNat := by
    rw [BitVec.ofInt_natCast, BitVec.toNat_ofNat]; exact Nat.mod_eq_of_lt (by omega)
  show IntKind.i64.wrap ((BitVec.ofInt 64 ((n * 256 : Nat) : Int) ||| BitVec.ofInt 64 ((c.toNat : Nat) : Int)).toNat : Int) = _
  rw [BitVec.toNat_or, h1, h2]
  have h3 : n * 256 ||| c.toNat = 256 * n + c.toNat := by
    have := Nat.shiftLeft_add_eq_or_of_lt (i := 8) (b := c.toNat) (by omega) n
    rw [Nat.shiftLeft_eq, show (2 : Nat) ^ 8 = 256 from rfl] at this
    rw [← this]; omega
  rw [h3, IntKind.wrap_i64]
  omega

/-- The error of number c: none for 0. -/
def errV (t : Nat) (c : Nat) : Value := if c = 0 then .nilIface else .iface t (.int .i64 c)

end Go.Proofs.Pk
