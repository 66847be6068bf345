/- Mathematics of layer 11 (bloom): hashes, places, filters bit by bit. No program. -/
namespace Go.Proofs.Pk
set_option maxRecDepth 10000

abbrev TxtB := List UInt8
def W64 : Nat := 18446744073709551616
def hashF (h : Nat) (c : UInt8) : Nat := ((h ^^^ c.toNat) * 1099511628211) % 18446744073709551616
def hashN (k : TxtB) : Nat := k.foldl hashF 14695981039346656037
/-- The number that parts the places of a key. -/
def gapN (h : Nat) : Nat := if ((h % 4294967296) * 4294967296 + h / 4294967296) % 2 = 0 then (h % 4294967296) * 4294967296 + h / 4294967296 + 1 else (h % 4294967296) * 4294967296 + h / 4294967296
def placeN (k : TxtB) (i m : Nat) : Nat := ((hashN k + i * gapN (hashN k)) % 18446744073709551616) % m
def setB (l : TxtB) (p : Nat) : TxtB := l.set (p / 8) (UInt8.ofNat ((l.getD (p / 8) 0).toNat ||| 2 ^ (p % 8)))
def getB (l : TxtB) (p : Nat) : Bool := (l.getD (p / 8) 0).toNat.testBit (p % 8)
/-- A key's places, from the j-th on, set. -/
def markN (k : TxtB) (m : Nat) : Nat → Nat → TxtB → TxtB
  | _, 0, l => l
  | j, n + 1, l => markN k m (j + 1) n (setB l (placeN k j m))
def fillN (ks : List TxtB) (m kk : Nat) (l : TxtB) : TxtB := ks.foldl (fun l k => markN k m 0 kk l) l
def sizeB (n bits : Nat) : Nat := (max 64 (n * bits) + 7) / 8
def manyB (bits : Nat) : Nat := max 1 (bits * 69 / 100)
def makeN (ks : List TxtB) (bits : Int) : TxtB × Nat :=
  if bits < 1 ∨ 20 < bits then ([], 1) else if 2000 < ks.length then ([], 5)
  else (fillN ks (8 * sizeB ks.length bits.toNat) (manyB bits.toNat) (List.replicate (sizeB ks.length bits.toNat) 0) ++ [UInt8.ofNat (manyB bits.toNat)], 0)
def lastB (f : TxtB) : Nat := (f.getD (f.length - 1) 0).toNat
/-- All places from the j-th on are set. -/
def allB (f k : TxtB) (m : Nat) (j n : Nat) : Bool := (List.range' j n).all fun i => getB f (placeN k i m)
def mayN (f k : TxtB) : Bool := if f.length < 2 ∨ lastB f = 0 ∨ 30 < lastB f then true else allB f k (8 * (f.length - 1)) 0 (lastB f)

theorem hashF_lt (h : Nat) (c : UInt8) : hashF h c < 18446744073709551616 := by
  unfold hashF
  exact Nat.mod_lt _ (by omega)
theorem foldl_lt (k : TxtB) : ∀ h, h < 18446744073709551616 → k.foldl hashF h < 18446744073709551616 := by
  induction k with
  | nil => exact fun h hh => hh
  | cons c k ih => exact fun h _ => ih _ (hashF_lt h c)
theorem hashN_lt (k : TxtB) : hashN k < 18446744073709551616 := by
  unfold hashN
  exact foldl_lt k _ (by omega)
theorem hashN_nil : hashN [] = 14695981039346656037 := by unfold hashN; rw [List.foldl_nil]
theorem hash_take (k : TxtB) {j : Nat} (hj : j < k.length) : hashN (k.take (j + 1)) = hashF (hashN (k.take j)) k[j] := by
  unfold hashN
  rw [List.take_succ_eq_append_getElem hj, List.foldl_append, List.foldl_cons, List.foldl_nil]
theorem gapN_lt {h : Nat} (hh : h < 18446744073709551616) : gapN h < 18446744073709551616 := by unfold gapN; split <;> omega
theorem placeN_lt (k : TxtB) (i : Nat) {m : Nat} (h : 0 < m) : placeN k i m < m := Nat.mod_lt _ h
theorem setB_length (l : TxtB) (p : Nat) : (setB l p).length = l.length := by simp [setB]
theorem or_byte_lt {a i : Nat} (ha : a < 256) (hi : i < 8) : a ||| 2 ^ i < 256 := by
  have h1 : 2 ^ i < 2 ^ 8 := Nat.pow_lt_pow_right (by omega) hi
  exact Nat.or_lt_two_pow (n := 8) ha h1
theorem getB_setB {l : TxtB} {p : Nat} (hp : p / 8 < l.length) (q : Nat) : getB (setB l p) q = (getB l q || decide (p = q)) := by
  unfold getB setB
  by_cases h8 : p / 8 = q / 8
  · rw [← h8]
    simp only [List.getD_eq_getElem?_getD, List.getElem?_set_self hp, Option.getD_some]
    have hb := (l[p / 8]?.getD 0).toNat_lt
    rw [UInt8.toNat_ofNat', Nat.mod_eq_of_lt (or_byte_lt hb (Nat.mod_lt _ (by decide))), Nat.testBit_or, Nat.testBit_two_pow]
    congr 1
    by_cases h : p = q
    · subst h; simp
    · have : ¬p % 8 = q % 8 := by omega
      simp [h, this]
  · simp only [List.getD_eq_getElem?_getD, List.getElem?_set_ne h8]
    have : ¬p = q := fun e => h8 (by rw [e])
    simp [this]
theorem markN_length (k : TxtB) (m : Nat) : ∀ n j l, (markN k m j n l).length = l.length
  | 0, _, _ => rfl
  | n + 1, j, l => by rw [markN, markN_length k m n, setB_length]
theorem fillN_length (ks : List TxtB) (m kk : Nat) : ∀ l, (fillN ks m kk l).length = l.length := by
  induction ks with
  | nil => exact fun _ => rfl
  | cons k ks ih => intro l; show (fillN ks m kk (markN k m 0 kk l)).length = _; rw [ih, markN_length]
theorem getB_mark (k : TxtB) {m : Nat} (hm : 0 < m) (q : Nat) : ∀ n j (l : TxtB), m ≤ 8 * l.length → (getB (markN k m j n l) q = true ↔ getB l q = true ∨ ∃ i, j ≤ i ∧ i < j + n ∧ placeN k i m = q)
  | 0, j, l, _ => by
    show getB l q = true ↔ _
    constructor
    · exact .inl
    · rintro (h | ⟨i, h1, h2, _⟩)
      · exact h
      · omega
  | n + 1, j, l, h => by
    have hp : placeN k j m / 8 < l.length := by have := placeN_lt k j hm; omega
    rw [markN, getB_mark k hm q n (j + 1) _ (by rw [setB_length]; exact h), getB_setB hp, Bool.or_eq_true, decide_eq_true_eq]
    constructor
    · rintro ((h1 | h1) | ⟨i, h1, h2, h3⟩)
      · exact .inl h1
      · exact .inr ⟨j, by omega, by omega, h1⟩
      · exact .inr ⟨i, by omega, by omega, h3⟩
    · rintro (h1 | ⟨i, h1, h2, h3⟩)
      · exact .inl (.inl h1)
      · by_cases e : i = j
        · subst e; exact .inl (.inr h3)
        · exact .inr ⟨i, by omega, by omega, h3⟩
theorem getB_fill {m : Nat} (hm : 0 < m) (kk q : Nat) (ks : List TxtB) : ∀ l : TxtB, m ≤ 8 * l.length → (getB (fillN ks m kk l) q = true ↔ getB l q = true ∨ ∃ k ∈ ks, ∃ i, i < kk ∧ placeN k i m = q) := by
  induction ks with
  | nil => intro l _; simp [fillN]
  | cons k ks ih =>
    intro l h
    show getB (fillN ks m kk (markN k m 0 kk l)) q = true ↔ _
    rw [ih _ (by rw [markN_length]; exact h), getB_mark k hm q kk 0 l h]
    constructor
    · rintro ((h1 | ⟨i, _, h2, h3⟩) | ⟨k', h1, h2⟩)
      · exact .inl h1
      · exact .inr ⟨k, by simp, i, by omega, h3⟩
      · exact .inr ⟨k', by simp [h1], h2⟩
    · rintro (h1 | ⟨k', h1, i, h2, h3⟩)
      · exact .inl (.inl h1)
      · rcases List.mem_cons.1 h1 with rfl | h1
        · exact .inl (.inr ⟨i, by omega, by omega, h3⟩)
        · exact .inr ⟨k', h1, i, h2, h3⟩
theorem byte_ext {a b : UInt8} (h : ∀ i, i < 8 → a.toNat.testBit i = b.toNat.testBit i) : a = b := by
  apply UInt8.toNat_inj.1
  apply Nat.eq_of_testBit_eq
  intro i
  by_cases hi : i < 8
  · exact h i hi
  · have ha : a.toNat < 2 ^ i := Nat.lt_of_lt_of_le a.toNat_lt (Nat.pow_le_pow_right (by omega) (by omega : 8 ≤ i))
    have hb : b.toNat < 2 ^ i := Nat.lt_of_lt_of_le b.toNat_lt (Nat.pow_le_pow_right (by omega) (by omega : 8 ≤ i))
    rw [Nat.testBit_lt_two_pow ha, Nat.testBit_lt_two_pow hb]
/-- Filters with the same bits are one. -/
theorem bits_ext {l l' : TxtB} (hl : l.length = l'.length) (h : ∀ p, p < 8 * l.length → getB l p = getB l' p) : l = l' := by
  apply List.ext_getElem hl
  intro i h1 h2
  apply byte_ext
  intro j hj
  have := h (8 * i + j) (by omega)
  unfold getB at this
  rw [show (8 * i + j) / 8 = i from by omega, show (8 * i + j) % 8 = j from by omega] at this
  simpa [List.getD_eq_getElem?_getD, h1, h2] using this
theorem getB_zero (n q : Nat) : getB (List.replicate n 0) q = false := by
  unfold getB
  rw [List.getD_eq_getElem?_getD]
  by_cases h : q / 8 < n
  · simp [h]
  · rw [List.getElem?_eq_none (by simpa using h)]; simp
theorem getB_append {l r : TxtB} {q : Nat} (h : q / 8 < l.length) : getB (l ++ r) q = getB l q := by
  unfold getB
  rw [List.getD_eq_getElem?_getD, List.getD_eq_getElem?_getD, List.getElem?_append_left h]
theorem allB_iff {f k : TxtB} {m j n : Nat} : allB f k m j n = true ↔ ∀ i, j ≤ i → i < j + n → getB f (placeN k i m) = true := by
  unfold allB
  rw [List.all_eq_true]
  constructor
  · intro h i h1 h2
    exact h i (by rw [List.mem_range'_1]; exact ⟨h1, h2⟩)
  · intro h i hi
    rw [List.mem_range'_1] at hi
    exact h i hi.1 hi.2
theorem sizeB_pos (n bits : Nat) : 8 ≤ sizeB n bits := by unfold sizeB; omega
theorem manyB_in {bits : Nat} (h1 : 1 ≤ bits) (h2 : bits ≤ 20) : 1 ≤ manyB bits ∧ manyB bits ≤ 13 := by unfold manyB; omega
theorem last_snoc (l : TxtB) (c : UInt8) : lastB (l ++ [c]) = c.toNat := by
  unfold lastB
  rw [List.length_append, List.length_singleton, Nat.add_sub_cancel, List.getD_eq_getElem?_getD, List.getElem?_append_right (Nat.le_refl _)]
  simp
/-- What a made filter says. -/
theorem may_make {ks : List TxtB} {bits : Int} (h0 : (makeN ks bits).2 = 0) (key : TxtB) : mayN (makeN ks bits).1 key = true ↔ ∀ i, i < manyB bits.toNat → ∃ k ∈ ks, ∃ i', i' < manyB bits.toNat ∧ placeN k i' (8 * sizeB ks.length bits.toNat) = placeN key i (8 * sizeB ks.length bits.toNat) := by
  unfold makeN at h0 ⊢
  by_cases h1 : bits < 1 ∨ 20 < bits
  · rw [if_pos h1] at h0; cases h0
  · rw [if_neg h1] at h0 ⊢
    by_cases h2 : 2000 < ks.length
    · rw [if_pos h2] at h0; cases h0
    · rw [if_neg h2]
      simp only
      have hm := manyB_in (bits := bits.toNat) (by omega) (by omega)
      have hs := sizeB_pos ks.length bits.toNat
      generalize manyB bits.toNat = kk at hm ⊢
      generalize sizeB ks.length bits.toNat = sz at hs ⊢
      have hl : (fillN ks (8 * sz) kk (List.replicate sz 0)).length = sz := by rw [fillN_length, List.length_replicate]
      have hk : (UInt8.ofNat kk).toNat = kk := by simp; omega
      unfold mayN
      rw [last_snoc, hk, List.length_append, hl, List.length_singleton, if_neg (by omega), Nat.add_sub_cancel, allB_iff]
      constructor
      · intro h i hi
        have hp := placeN_lt key i (show 0 < 8 * sz by omega)
        have := h i (Nat.zero_le _) (by omega)
        rw [getB_append (by rw [hl]; omega), getB_fill (by omega) kk _ ks _ (by rw [List.length_replicate]; exact Nat.le_refl _), getB_zero] at this
        rcases this with h | h
        · cases h
        · exact h
      · intro h i _ hi
        have hp := placeN_lt key i (show 0 < 8 * sz by omega)
        rw [getB_append (by rw [hl]; omega), getB_fill (by omega) kk _ ks _ (by rw [List.length_replicate]; exact Nat.le_refl _)]
        exact .inr (h i (by omega))
theorem may_yes {ks : List TxtB} {bits : Int} (h0 : (makeN ks bits).2 = 0) {key : TxtB} (hk : key ∈ ks) : mayN (makeN ks bits).1 key = true :=
  (may_make h0 key).2 fun i hi => ⟨key, hk, i, hi, rfl⟩
theorem many_pos (bits : Int) : 1 ≤ manyB bits.toNat := by unfold manyB; omega
theorem may_none {bits : Int} (h0 : (makeN [] bits).2 = 0) (key : TxtB) : mayN (makeN [] bits).1 key = false := by
  rw [Bool.eq_false_iff]
  intro h
  obtain ⟨k, hk, _⟩ := (may_make h0 key).1 h 0 (many_pos bits)
  cases hk
theorem make_err {ks ks' : List TxtB} (bits : Int) (hl : ks.length = ks'.length) : (makeN ks bits).2 = (makeN ks' bits).2 := by
  unfold makeN
  rw [hl]
  split
  · rfl
  · split <;> rfl
theorem make_bad {ks : List TxtB} {bits : Int} (h : (makeN ks bits).2 ≠ 0) : (makeN ks bits).1 = [] := by
  unfold makeN at h ⊢
  split
  · rfl
  · split
    · rfl
    · rename_i h1 h2
      rw [if_neg h1, if_neg h2] at h
      exact absurd rfl h
/-- Only which keys there are, and how many, makes the filter. -/
theorem make_same {ks ks' : List TxtB} (bits : Int) (hl : ks.length = ks'.length) (hm : ∀ k, k ∈ ks ↔ k ∈ ks') : makeN ks bits = makeN ks' bits := by
  unfold makeN
  rw [← hl]
  split
  · rfl
  · split
    · rfl
    · congr 2
      apply bits_ext
      · rw [fillN_length, fillN_length]
      · intro p hp
        rw [fillN_length, List.length_replicate] at hp
        have hs := sizeB_pos ks.length bits.toNat
        generalize sizeB ks.length bits.toNat = sz at hs hp ⊢
        generalize manyB bits.toNat = kk
        have e1 := getB_fill (show 0 < 8 * sz by omega) kk p ks (List.replicate sz 0) (by rw [List.length_replicate]; exact Nat.le_refl _)
        have e2 := getB_fill (show 0 < 8 * sz by omega) kk p ks' (List.replicate sz 0) (by rw [List.length_replicate]; exact Nat.le_refl _)
        rw [Bool.eq_iff_iff, e1, e2]
        simp only [hm]
/-- A filter with more bits. -/
theorem may_more {f f' key : TxtB} (hl : f.length = f'.length) (hlast : f.getD (f.length - 1) 0 = f'.getD (f.length - 1) 0) (hb : ∀ p, p / 8 < f.length - 1 → getB f p = true → getB f' p = true) (h : mayN f key = true) : mayN f' key = true := by
  have e : lastB f' = lastB f := by unfold lastB; rw [← hl, hlast]
  unfold mayN at h ⊢
  rw [e, ← hl]
  by_cases hc : f.length < 2 ∨ lastB f = 0 ∨ 30 < lastB f
  · rw [if_pos hc]
  · rw [if_neg hc] at h ⊢
    rw [allB_iff] at h ⊢
    intro i h1 h2
    have hp := placeN_lt key i (m := 8 * (f.length - 1)) (by omega)
    exact hb _ (by omega) (h i h1 h2)
end Go.Proofs.Pk
