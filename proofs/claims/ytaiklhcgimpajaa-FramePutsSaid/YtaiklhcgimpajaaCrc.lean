/- Plain mathematics of the checksum of layer 3 (frame): CRC-32C bit by bit. No Go, no program. -/
namespace Go.Proofs.Pk
set_option maxRecDepth 10000

/-- The polynomial, reflected. -/
def crcP : Nat := 0x82F63B78
/-- One bit is shifted out. -/
def st1 (v : Nat) : Nat := if v % 2 = 1 then v / 2 ^^^ crcP else v / 2
/-- k bits are shifted out. -/
def stk : Nat → Nat → Nat
  | 0, v => v
  | k + 1, v => stk k (st1 v)
/-- A byte goes in. -/
def crcUp (v : Nat) (c : UInt8) : Nat := stk 8 (v ^^^ c.toNat)
def crcRun (v : Nat) (l : List UInt8) : Nat := l.foldl crcUp v
/-- The checksum of a text. -/
def crcSum (l : List UInt8) : Nat := crcRun 4294967295 l ^^^ 4294967295

theorem xor_half (a b : Nat) : (a ^^^ b) / 2 = a / 2 ^^^ b / 2 := by
  apply Nat.eq_of_testBit_eq; intro i
  simp [Nat.testBit_div_two, Nat.testBit_xor]
theorem xor_odd (a b : Nat) : (a ^^^ b) % 2 = (a % 2 + b % 2) % 2 := by
  have h : (a ^^^ b) % 2 ^ 1 = (a % 2 ^ 1) ^^^ (b % 2 ^ 1) := Nat.xor_mod_two_pow
  simp only [Nat.pow_one] at h
  rw [h]
  rcases Nat.mod_two_eq_zero_or_one a with ha | ha <;> rcases Nat.mod_two_eq_zero_or_one b with hb | hb <;> rw [ha, hb] <;> rfl
theorem xor_lt {a b k : Nat} (ha : a < 2 ^ k) (hb : b < 2 ^ k) : a ^^^ b < 2 ^ k := Nat.xor_lt_two_pow ha hb
theorem xor_cancel (a b : Nat) : a ^^^ b ^^^ b = a := by rw [Nat.xor_assoc, Nat.xor_self, Nat.xor_zero]
theorem xor_inj {a b c : Nat} (h : a ^^^ c = b ^^^ c) : a = b := by
  have := congrArg (· ^^^ c) h
  simpa [xor_cancel] using this
theorem xor_eq_zero {a b : Nat} (h : a ^^^ b = 0) : a = b := by
  apply xor_inj (c := b); rw [h, Nat.xor_self]

theorem st1_xor (a b : Nat) : st1 (a ^^^ b) = st1 a ^^^ st1 b := by
  have h1 := xor_odd a b
  have h2 := xor_half a b
  unfold st1
  rw [h2]
  rcases Nat.mod_two_eq_zero_or_one a with ha | ha <;> rcases Nat.mod_two_eq_zero_or_one b with hb | hb
  · rw [ha, hb] at h1
    rw [if_neg (by omega), if_neg (by omega), if_neg (by omega)]
  · rw [ha, hb] at h1
    rw [if_pos (by omega), if_neg (by omega), if_pos (by omega), Nat.xor_assoc]
  · rw [ha, hb] at h1
    rw [if_pos (by omega), if_pos (by omega), if_neg (by omega)]
    rw [Nat.xor_assoc, Nat.xor_assoc, Nat.xor_comm crcP]
  · rw [ha, hb] at h1
    rw [if_neg (by omega), if_pos (by omega), if_pos (by omega)]
    rw [Nat.xor_comm (b / 2) crcP, ← Nat.xor_assoc, xor_cancel]
theorem st1_zero : st1 0 = 0 := rfl
theorem st1_lt (v : Nat) (h : v < 4294967296) : st1 v < 4294967296 := by
  unfold st1
  split
  · exact Nat.xor_lt_two_pow (n := 32) (by omega) (by unfold crcP; omega)
  · omega
theorem st1_ge (v : Nat) (h : v < 4294967296) (ho : v % 2 = 1) : 2147483648 ≤ st1 v := by
  unfold st1
  rw [if_pos ho]
  have : (v / 2 ^^^ crcP).testBit 31 = true := by
    rw [Nat.testBit_xor, Nat.testBit_lt_two_pow (by omega : v / 2 < 2 ^ 31)]
    decide
  have := Nat.ge_two_pow_of_testBit this
  omega
theorem st1_eq_zero (v : Nat) (h : v < 4294967296) (h0 : st1 v = 0) : v = 0 := by
  rcases Nat.mod_two_eq_zero_or_one v with hv | hv
  · unfold st1 at h0; rw [if_neg (by omega)] at h0; omega
  · have := st1_ge v h hv; omega
theorem st1_even (v : Nat) : st1 (2 * v) = v := by
  unfold st1; rw [if_neg (by omega)]; omega

theorem stk_xor : ∀ k a b, stk k (a ^^^ b) = stk k a ^^^ stk k b
  | 0, _, _ => rfl
  | k + 1, a, b => by rw [stk, stk, stk, st1_xor, stk_xor k]
theorem stk_zero : ∀ k, stk k 0 = 0
  | 0 => rfl
  | k + 1 => by rw [stk, st1_zero, stk_zero k]
theorem stk_lt : ∀ k v, v < 4294967296 → stk k v < 4294967296
  | 0, _, h => h
  | k + 1, v, h => stk_lt k _ (st1_lt v h)
theorem stk_eq_zero : ∀ k v, v < 4294967296 → stk k v = 0 → v = 0
  | 0, _, _, h0 => h0
  | k + 1, v, h, h0 => st1_eq_zero v h (stk_eq_zero k _ (st1_lt v h) h0)
theorem stk_add : ∀ j k v, stk (j + k) v = stk k (stk j v)
  | 0, k, v => by rw [Nat.zero_add]; rfl
  | j + 1, k, v => by rw [Nat.succ_add, stk, stk_add j k, stk]
theorem stk_snoc (k v : Nat) : stk (k + 1) v = st1 (stk k v) := by rw [stk_add k 1]; rfl
theorem stk_shift : ∀ k v, stk k (v * 2 ^ k) = v
  | 0, v => by simp [stk]
  | k + 1, v => by
    rw [stk, Nat.pow_succ, ← Nat.mul_assoc, Nat.mul_comm _ 2, st1_even, stk_shift k]
theorem split_xor (v k : Nat) : v = v % 2 ^ k ^^^ (v / 2 ^ k) * 2 ^ k := by
  apply Nat.eq_of_testBit_eq; intro i
  rw [Nat.testBit_xor, Nat.testBit_mod_two_pow, Nat.testBit_mul_two_pow, Nat.testBit_div_two_pow]
  by_cases h : i < k
  · simp [h, Nat.not_le.2 h]
  · simp [h, Nat.le_of_not_lt h]
theorem stk_table (k v : Nat) : stk k v = stk k (v % 2 ^ k) ^^^ v / 2 ^ k := by
  conv => lhs; rw [split_xor v k]
  rw [stk_xor, stk_shift]

theorem byte_lt (c : UInt8) : c.toNat < 4294967296 := by have := c.toNat_lt; omega
theorem crcUp_lt (v : Nat) (c : UInt8) (h : v < 4294967296) : crcUp v c < 4294967296 :=
  stk_lt 8 _ (Nat.xor_lt_two_pow (n := 32) h (byte_lt c))
theorem crcRun_lt : ∀ (l : List UInt8) (v : Nat), v < 4294967296 → crcRun v l < 4294967296
  | [], _, h => h
  | c :: l, v, h => crcRun_lt l _ (crcUp_lt v c h)
theorem crcSum_lt (l : List UInt8) : crcSum l < 4294967296 := Nat.xor_lt_two_pow (n := 32) (crcRun_lt l _ (by omega)) (by omega)
theorem crcRun_append (v : Nat) (a b : List UInt8) : crcRun v (a ++ b) = crcRun (crcRun v a) b := by
  unfold crcRun; rw [List.foldl_append]
theorem crcRun_snoc (v : Nat) (a : List UInt8) (c : UInt8) : crcRun v (a ++ [c]) = crcUp (crcRun v a) c := by
  rw [crcRun_append]; rfl
theorem crcUp_inj (v w : Nat) (c : UInt8) (hv : v < 4294967296) (hw : w < 4294967296) (h : crcUp v c = crcUp w c) : v = w := by
  unfold crcUp at h
  rw [stk_xor, stk_xor] at h
  have h1 := xor_inj h
  have h2 : stk 8 (v ^^^ w) = 0 := by rw [stk_xor, h1, Nat.xor_self]
  exact xor_eq_zero (stk_eq_zero 8 _ (Nat.xor_lt_two_pow (n := 32) hv hw) h2)
theorem crcRun_inj : ∀ (l : List UInt8) (v w : Nat), v < 4294967296 → w < 4294967296 → crcRun v l = crcRun w l → v = w
  | [], _, _, _, _, h => h
  | c :: l, v, w, hv, hw, h => crcUp_inj v w c hv hw (crcRun_inj l _ _ (crcUp_lt v c hv) (crcUp_lt w c hw) h)
theorem crcSum_eq (a b : List UInt8) : crcSum a = crcSum b ↔ crcRun 4294967295 a = crcRun 4294967295 b :=
  ⟨xor_inj, fun h => by unfold crcSum; rw [h]⟩
/-- Two texts have one sum just if they have one with anything behind. -/
theorem crcSum_behind (a b l : List UInt8) : crcSum (a ++ l) = crcSum (b ++ l) ↔ crcSum a = crcSum b := by
  rw [crcSum_eq, crcSum_eq, crcRun_append, crcRun_append]
  exact ⟨crcRun_inj l _ _ (crcRun_lt a _ (by omega)) (crcRun_lt b _ (by omega)), fun h => by rw [h]⟩

/-- The same by a table of 256 and by eight rounds a byte. -/
theorem crcUp_table (v : Nat) (c : UInt8) : crcUp v c = stk 8 ((v % 256) ^^^ c.toNat) ^^^ v / 256 := by
  unfold crcUp
  rw [stk_table 8]
  have h1 : (v ^^^ c.toNat) % 2 ^ 8 = v % 256 ^^^ c.toNat := by
    rw [Nat.xor_mod_two_pow, Nat.mod_eq_of_lt (show c.toNat < 2 ^ 8 from c.toNat_lt)]
  have h2 : (v ^^^ c.toNat) / 2 ^ 8 = v / 256 := by
    rw [Nat.xor_div_two_pow, Nat.div_eq_of_lt (show c.toNat < 2 ^ 8 from c.toNat_lt), Nat.xor_zero]
  rw [h1, h2]

-- bits, the lowest one of each byte first

def b2n (b : Bool) : Nat := if b then 1 else 0
def bitRun (v : Nat) (l : List Bool) : Nat := l.foldl (fun v b => st1 (v ^^^ b2n b)) v
/-- k bits of n, the lowest one first. -/
def bitsN : Nat → Nat → List Bool
  | 0, _ => []
  | k + 1, n => (n % 2 == 1) :: bitsN k (n / 2)
def bitsL (l : List UInt8) : List Bool := l.flatMap fun c => bitsN 8 c.toNat
/-- The number that bits are, the lowest one first. -/
def wordL : List Bool → Nat
  | [] => 0
  | b :: t => b2n b + 2 * wordL t

theorem b2n_lt (b : Bool) : b2n b < 2 := by cases b <;> decide
theorem b2n_xor (a b : Bool) : b2n (a ^^ b) = b2n a ^^^ b2n b := by cases a <;> cases b <;> rfl
theorem wordL_lt : ∀ l, wordL l < 2 ^ l.length
  | [] => by simp [wordL]
  | b :: t => by
    have := wordL_lt t
    have := b2n_lt b
    rw [wordL, List.length_cons, Nat.pow_succ]; omega
theorem wordL_bits : ∀ k n, n < 2 ^ k → wordL (bitsN k n) = n
  | 0, n, h => by have : n = 0 := by simpa using h
                  subst this; rfl
  | k + 1, n, h => by
    rw [bitsN, wordL, wordL_bits k (n / 2) (by rw [Nat.pow_succ] at h; omega)]
    rcases Nat.mod_two_eq_zero_or_one n with h | h <;> simp [h, b2n] <;> omega
theorem bitsN_length : ∀ k n, (bitsN k n).length = k
  | 0, _ => rfl
  | k + 1, n => by rw [bitsN, List.length_cons, bitsN_length k]
theorem cons_word (b : Bool) (w : Nat) : b2n b + 2 * w = b2n b ^^^ 2 * w := by
  apply Nat.eq_of_testBit_eq; intro i
  cases i with
  | zero => cases b <;> simp [b2n, Nat.testBit_zero] <;> omega
  | succ i =>
    rw [Nat.testBit_xor, Nat.testBit_succ, Nat.testBit_succ, Nat.testBit_succ]
    have h1 : (b2n b + 2 * w) / 2 = w := by have := b2n_lt b; omega
    have h2 : b2n b / 2 = 0 := by have := b2n_lt b; omega
    have h3 : 2 * w / 2 = w := by omega
    rw [h1, h2, h3]; simp
theorem bitRun_word : ∀ (l : List Bool) (v : Nat), bitRun v l = stk l.length (v ^^^ wordL l)
  | [], v => by simp [bitRun, stk, wordL]
  | b :: t, v => by
    show bitRun (st1 (v ^^^ b2n b)) t = _
    rw [bitRun_word t, List.length_cons, stk, wordL, cons_word, ← Nat.xor_assoc, st1_xor _ (2 * wordL t), st1_even]
theorem bitRun_byte (v : Nat) (c : UInt8) : bitRun v (bitsN 8 c.toNat) = crcUp v c := by
  rw [bitRun_word, bitsN_length, wordL_bits 8 _ c.toNat_lt]; rfl
theorem bitRun_append (v : Nat) (a b : List Bool) : bitRun v (a ++ b) = bitRun (bitRun v a) b := by
  unfold bitRun; rw [List.foldl_append]
theorem bitRun_bytes : ∀ (l : List UInt8) (v : Nat), bitRun v (bitsL l) = crcRun v l
  | [], _ => rfl
  | c :: l, v => by
    rw [show bitsL (c :: l) = bitsN 8 c.toNat ++ bitsL l from by simp [bitsL], bitRun_append, bitRun_byte, bitRun_bytes l]; rfl
theorem bitRun_xor : ∀ (a b : List Bool) (v w : Nat), a.length = b.length → bitRun v a ^^^ bitRun w b = bitRun (v ^^^ w) (List.zipWith (· ^^ ·) a b)
  | [], [], _, _, _ => rfl
  | x :: a, y :: b, v, w, h => by
    show bitRun (st1 (v ^^^ b2n x)) a ^^^ bitRun (st1 (w ^^^ b2n y)) b = bitRun (st1 (v ^^^ w ^^^ b2n (x ^^ y))) (List.zipWith (· ^^ ·) a b)
    rw [bitRun_xor a b _ _ (by simpa using h), ← st1_xor, b2n_xor]
    congr 2
    rw [Nat.xor_assoc, Nat.xor_assoc, ← Nat.xor_assoc (b2n x), Nat.xor_comm (b2n x) w, Nat.xor_assoc]
theorem bitRun_nothing : ∀ (n : Nat) (v : Nat), bitRun v (List.replicate n false) = stk n v
  | 0, _ => rfl
  | n + 1, v => by
    rw [List.replicate_succ]
    show bitRun (st1 (v ^^^ b2n false)) _ = _
    rw [bitRun_nothing n, show b2n false = 0 from rfl, Nat.xor_zero]; rfl
theorem wordL_odd (l : List Bool) : wordL (true :: l) ≠ 0 := by rw [wordL]; show 1 + _ ≠ 0; omega
/-- Up to 32 bits, the first of them set, amid nothing. -/
theorem bitRun_burst (m n : Nat) (l : List Bool) (h : l.length ≤ 31) : bitRun 0 (List.replicate m false ++ (true :: l) ++ List.replicate n false) ≠ 0 := by
  rw [bitRun_append, bitRun_append, bitRun_nothing, bitRun_nothing, stk_zero, bitRun_word, Nat.zero_xor]
  have hw : wordL (true :: l) < 4294967296 := by
    have h1 := wordL_lt (true :: l)
    have h2 := Nat.pow_le_pow_right (n := 2) (by omega) (show (true :: l).length ≤ 32 from by simpa using h)
    omega
  intro h0
  exact wordL_odd l (stk_eq_zero _ _ hw (stk_eq_zero n _ (stk_lt _ _ hw) h0))

/-- The bits of two texts part at the place p, and nowhere but from there on within 32. -/
structure Burst (a b : List UInt8) (p m : Nat) : Prop where
  size : a.length = b.length
  here : (bitsL a)[p]? ≠ (bitsL b)[p]?
  rest : ∀ k : Nat, (bitsL a)[k]? ≠ (bitsL b)[k]? → p ≤ k ∧ k < p + m

theorem bitsL_length : ∀ l, (bitsL l).length = 8 * l.length
  | [] => rfl
  | c :: l => by
    rw [show bitsL (c :: l) = bitsN 8 c.toNat ++ bitsL l from by simp [bitsL], List.length_append, bitsN_length, bitsL_length l, List.length_cons]; omega

theorem all_false : ∀ (l : List Bool), (∀ i : Nat, l[i]? ≠ some true) → l = List.replicate l.length false
  | [], _ => rfl
  | b :: t, h => by
    have h0 := h 0
    rw [List.length_cons, List.replicate_succ, ← all_false t (fun i => by have := h (i + 1); simpa using this)]
    cases b with
    | false => rfl
    | true => simp at h0

theorem Burst.sums {a b : List UInt8} {p m : Nat} (h : Burst a b p m) (hm : m ≤ 32) : crcSum a ≠ crcSum b := by
  rw [Ne, crcSum_eq, ← bitRun_bytes, ← bitRun_bytes]
  intro e
  have hl : (bitsL a).length = (bitsL b).length := by rw [bitsL_length, bitsL_length, h.size]
  have hx := bitRun_xor (bitsL a) (bitsL b) 4294967295 4294967295 hl
  rw [e, Nat.xor_self, Nat.xor_self] at hx
  obtain ⟨D, hD⟩ : ∃ D, D = List.zipWith (· ^^ ·) (bitsL a) (bitsL b) := ⟨_, rfl⟩
  rw [← hD] at hx
  have hDl : D.length = (bitsL a).length := by rw [hD, List.length_zipWith, hl]; omega
  have hget : ∀ i : Nat, D[i]? = some true ↔ (bitsL a)[i]? ≠ (bitsL b)[i]? := by
    intro i
    rw [hD, List.getElem?_zipWith]
    by_cases hi : i < (bitsL a).length
    · rw [List.getElem?_eq_getElem hi, List.getElem?_eq_getElem (hl ▸ hi)]
      cases (bitsL a)[i] <;> cases (bitsL b)[i]'(hl ▸ hi) <;> simp
    · rw [List.getElem?_eq_none (by omega), List.getElem?_eq_none (by omega)]; simp
  have hp : D[p]? = some true := (hget p).2 h.here
  have hpl : p < D.length := by
    rcases Nat.lt_or_ge p D.length with h | h
    · exact h
    · rw [List.getElem?_eq_none h] at hp; cases hp
  have hout : ∀ i : Nat, D[i]? = some true → p ≤ i ∧ i < p + m := fun i hi => h.rest i ((hget i).1 hi)
  have h1 : D.take p = List.replicate p false := by
    have := all_false (D.take p) (fun i hi => by
      rw [List.getElem?_take] at hi
      split at hi
      · have := hout i hi; omega
      · cases hi)
    rwa [List.length_take, Nat.min_eq_left (by omega)] at this
  have h2 : D.drop p = true :: (D.drop (p + 1)) := by
    rw [List.drop_eq_getElem_cons hpl]
    congr 1
    rw [List.getElem?_eq_getElem hpl] at hp; simpa using hp
  have h3 : (D.drop (p + 1)).drop 31 = List.replicate ((D.drop (p + 1)).drop 31).length false := all_false _ (fun i hi => by
    rw [List.getElem?_drop, List.getElem?_drop] at hi
    have := hout _ hi; omega)
  have hsplit : D = List.replicate p false ++ (true :: (D.drop (p + 1)).take 31) ++ List.replicate ((D.drop (p + 1)).drop 31).length false := by
    rw [← h3, ← h1, List.append_assoc, List.cons_append, List.take_append_drop, ← h2, List.take_append_drop]
  have hne := bitRun_burst p ((D.drop (p + 1)).drop 31).length ((D.drop (p + 1)).take 31) (by rw [List.length_take]; omega)
  rw [← hsplit] at hne
  exact hne hx.symm

-- which bit is where, and what one that is turned does

theorem bitsN_get : ∀ (k n i : Nat), (bitsN k n)[i]? = if i < k then some (n.testBit i) else none
  | 0, _, i => by simp [bitsN]
  | k + 1, n, 0 => by
    simp only [bitsN, List.getElem?_cons_zero, Nat.zero_lt_succ, if_true, Nat.testBit_zero]
    congr 1
  | k + 1, n, i + 1 => by
    rw [bitsN, List.getElem?_cons_succ, bitsN_get k, Nat.testBit_succ]
    by_cases h : i < k
    · rw [if_pos h, if_pos (by omega)]
    · rw [if_neg h, if_neg (by omega)]
theorem bitsL_get : ∀ (l : List UInt8) (i : Nat), (bitsL l)[i]? = (l[i / 8]?).map fun c => c.toNat.testBit (i % 8)
  | [], i => by simp [bitsL]
  | c :: l, i => by
    rw [show bitsL (c :: l) = bitsN 8 c.toNat ++ bitsL l from by simp [bitsL]]
    by_cases h : i < 8
    · rw [List.getElem?_append_left (by rw [bitsN_length]; exact h), bitsN_get, if_pos h, show i / 8 = 0 from by omega, show i % 8 = i from by omega]; rfl
    · rw [List.getElem?_append_right (by rw [bitsN_length]; omega), bitsN_length, bitsL_get l, show i / 8 = (i - 8) / 8 + 1 from by omega, show i % 8 = (i - 8) % 8 from by omega, List.getElem?_cons_succ]

/-- Of two texts no bits part but from the place p on within m; the one at p does, if m is not 0. -/
structure Flips (a b : List UInt8) (p m : Nat) : Prop where
  size : a.length = b.length
  here : 0 < m → (bitsL a)[p]? ≠ (bitsL b)[p]?
  rest : ∀ k : Nat, (bitsL a)[k]? ≠ (bitsL b)[k]? → p ≤ k ∧ k < p + m
theorem Flips.zero (a : List UInt8) (p : Nat) : Flips a a p 0 := ⟨rfl, fun h => by omega, fun _ h => absurd rfl h⟩
theorem Flips.skip {a b : List UInt8} {p m : Nat} (h : Flips a b p m) (hm : 0 < m) : Flips a b p (m + 1) :=
  ⟨h.size, fun _ => h.here hm, fun k hk => by have := h.rest k hk; omega⟩
theorem Flips.turn {a b : List UInt8} {p m : Nat} (h : Flips a b p m) (hb : (p + m) / 8 < b.length) (c : UInt8) (hc : c.toNat = (b[(p + m) / 8]).toNat ^^^ 2 ^ ((p + m) % 8)) :
    Flips a (b.set ((p + m) / 8) c) p (m + 1) := by
  have hg : ∀ k : Nat, k ≠ p + m → (bitsL (b.set ((p + m) / 8) c))[k]? = (bitsL b)[k]? := by
    intro k hk
    rw [bitsL_get, bitsL_get]
    by_cases hq : (p + m) / 8 = k / 8
    · rw [← hq, List.getElem?_set_self hb, List.getElem?_eq_getElem hb]
      simp only [Option.map_some]
      rw [hc, Nat.testBit_xor, Nat.testBit_two_pow_of_ne (by omega)]
      simp
    · rw [List.getElem?_set_ne hq]
  have hs : (bitsL (b.set ((p + m) / 8) c))[p + m]? ≠ (bitsL b)[p + m]? := by
    rw [bitsL_get, bitsL_get, List.getElem?_set_self hb, List.getElem?_eq_getElem hb]
    simp only [Option.map_some]
    rw [hc, Nat.testBit_xor, Nat.testBit_two_pow_self]
    simp
  refine ⟨by rw [List.length_set]; exact h.size, fun _ => ?_, fun k hk => ?_⟩
  · by_cases hm : m = 0
    · subst hm
      simp only [Nat.add_zero] at hs hg ⊢
      have he : (bitsL a)[p]? = (bitsL b)[p]? := Classical.byContradiction fun e => by have := h.rest p e; omega
      rw [he]; exact fun e => hs e.symm
    · rw [hg p (by omega)]; exact h.here (by omega)
  · by_cases hk2 : k = p + m
    · omega
    · rw [hg k hk2] at hk
      have := h.rest k hk; omega
theorem Flips.sums {a b : List UInt8} {p m : Nat} (h : Flips a b p m) (h0 : 0 < m) (hm : m ≤ 32) : crcSum a ≠ crcSum b :=
  Burst.sums ⟨h.size, h.here h0, h.rest⟩ hm

end Go.Proofs.Pk
