/- Mathematics of layer 10: how the program writes an entry as one text, and the order of those texts. No program. -/
import Derived.Test.YtlmlldcpllagbaaMmM
namespace Go.Proofs.Pk
set_option maxRecDepth 10000

def MaxS : Int := 9007199254740991
def escB (c : UInt8) : Txt := if c = 0 then [1, 1] else if c = 1 then [1, 2] else [c]
def escK (k : Txt) : Txt := k.flatMap escB
/-- k bytes of n to the base 256, the greatest first. -/
def bigE : Nat → Nat → Txt
  | 0, _ => []
  | k + 1, n => UInt8.ofNat (n / 256 ^ k) :: bigE k n
def lackS (s : Int) : Nat := (MaxS - s).toNat
def joinS (k : Txt) (s : Int) : Txt := escK k ++ 0 :: bigE 7 (lackS s)
def tailS (e : MEnt) : Txt := if e.2.2.1 = true then [] else 118 :: e.2.2.2
def writeS (e : MEnt) : Txt := joinS e.1 e.2.1 ++ tailS e

theorem u8_lt {a b : UInt8} : a < b ↔ a.toNat < b.toNat := UInt8.lt_iff_toNat_lt
theorem cons_lt {a b : UInt8} {x y : Txt} : a :: x < b :: y ↔ a < b ∨ a = b ∧ x < y := List.cons_lt_cons_iff
theorem u8_irr (a : UInt8) : ¬a < a := by rw [u8_lt]; omega
theorem app_lt (p : Txt) {x y : Txt} : p ++ x < p ++ y ↔ x < y := by
  induction p with
  | nil => rfl
  | cons c p ih => rw [List.cons_append, List.cons_append, cons_lt]; simp [ih]
theorem escB_cases (c : UInt8) : (c = 0 ∧ escB c = [1, 1]) ∨ (c = 1 ∧ escB c = [1, 2]) ∨ (2 ≤ c.toNat ∧ escB c = [c]) := by
  unfold escB
  by_cases h0 : c = 0
  · left; simp [h0]
  · by_cases h1 : c = 1
    · right; left; simp [h1]
    · right; right
      refine ⟨?_, by simp [h0, h1]⟩
      have a0 : c.toNat ≠ 0 := fun h => h0 (UInt8.toNat_inj.1 h)
      have a1 : c.toNat ≠ 1 := fun h => h1 (UInt8.toNat_inj.1 h)
      omega
theorem escB_head (c : UInt8) : ∃ d t, escB c = d :: t ∧ 1 ≤ d.toNat := by
  rcases escB_cases c with ⟨_, h⟩ | ⟨_, h⟩ | ⟨h1, h⟩
  · exact ⟨1, [1], h, by decide⟩
  · exact ⟨1, [2], h, by decide⟩
  · exact ⟨c, [], h, by omega⟩
theorem escB_lt {c d : UInt8} (h : c ≠ d) (x y : Txt) : escB c ++ x < escB d ++ y ↔ c < d := by
  have e0 : (0 : UInt8).toNat = 0 := rfl
  have e1 : (1 : UInt8).toNat = 1 := rfl
  have e2 : (2 : UInt8).toNat = 2 := rfl
  rcases escB_cases c with ⟨rfl, h1⟩ | ⟨rfl, h1⟩ | ⟨h0, h1⟩ <;> rcases escB_cases d with ⟨rfl, h3⟩ | ⟨rfl, h3⟩ | ⟨h2, h3⟩
  case inl.inl => exact absurd rfl h
  case inr.inl.inr.inl => exact absurd rfl h
  case inr.inr.inr.inr =>
    rw [h1, h3, List.cons_append, List.cons_append, cons_lt]
    simp [h]
  all_goals
    rw [h1, h3]
    simp only [List.cons_append, List.nil_append, cons_lt, u8_lt, ← UInt8.toNat_inj, e0, e1, e2]
    first | omega | (simp; done) | (simp; omega)
theorem esc_cons (c : UInt8) (k : Txt) : escK (c :: k) = escB c ++ escK k := rfl
theorem esc_lt : ∀ {a b : Txt} (x y : Txt), a ≠ b → (escK a ++ 0 :: x < escK b ++ 0 :: y ↔ a < b)
  | [], [], _, _, h => absurd rfl h
  | [], d :: b, x, y, _ => by
    obtain ⟨e, t, h1, h2⟩ := escB_head d
    rw [esc_cons, h1]
    have : (0 : UInt8).toNat = 0 := rfl
    constructor
    · intro _; exact List.nil_lt_cons _ _
    · intro _
      show 0 :: x < e :: (t ++ escK b ++ 0 :: y)
      rw [cons_lt, u8_lt]; left; omega
  | c :: a, [], x, y, _ => by
    obtain ⟨e, t, h1, h2⟩ := escB_head c
    rw [esc_cons, h1]
    have e0 : (0 : UInt8).toNat = 0 := rfl
    constructor
    · intro h
      have h : e :: (t ++ escK a ++ 0 :: x) < 0 :: y := h
      rw [cons_lt, u8_lt, ← UInt8.toNat_inj] at h; omega
    · intro h; exact absurd h (List.not_lt_nil _)
  | c :: a, d :: b, x, y, h => by
    rw [esc_cons, esc_cons, List.append_assoc, List.append_assoc]
    by_cases hc : c = d
    · subst hc
      rw [app_lt, cons_lt, esc_lt x y (fun e => h (by rw [e]))]
      simp
    · rw [escB_lt hc, cons_lt]; simp [hc]
theorem esc_inj {a b x y : Txt} (h : escK a ++ 0 :: x = escK b ++ 0 :: y) : a = b ∧ x = y := by
  by_cases hab : a = b
  · subst hab
    exact ⟨rfl, by simpa using h⟩
  · exfalso
    by_cases hl : a < b
    · have := (esc_lt x y hab).2 hl; rw [h] at this; exact List.lt_irrefl _ this
    · rcases lt_or_eq hl with h1 | h1
      · have := (esc_lt y x (Ne.symm hab)).2 h1; rw [h] at this; exact List.lt_irrefl _ this
      · exact hab h1
theorem bigE_length (n : Nat) : ∀ k, (bigE k n).length = k
  | 0 => rfl
  | k + 1 => by simp [bigE, bigE_length n k]
theorem pow_split {k m : Nat} (n : Nat) (hm : m / 256 ^ k = n / 256 ^ k) : (m < n ↔ m % 256 ^ k < n % 256 ^ k) ∧ (m = n ↔ m % 256 ^ k = n % 256 ^ k) := by
  have h1 := Nat.div_add_mod m (256 ^ k)
  have h2 := Nat.div_add_mod n (256 ^ k)
  rw [hm] at h1
  constructor <;> constructor <;> intro h <;> omega
theorem bigE_mod (k n : Nat) : ∀ j, j ≤ k → bigE j (n % 256 ^ k) = bigE j n
  | 0, _ => rfl
  | j + 1, h => by
    have e : UInt8.ofNat (n % 256 ^ k / 256 ^ j) = UInt8.ofNat (n / 256 ^ j) := by
      obtain ⟨i, rfl⟩ : ∃ i, k = j + (i + 1) := ⟨k - j - 1, by omega⟩
      apply UInt8.toNat_inj.1
      simp only [UInt8.toNat_ofNat']
      rw [Nat.pow_add, Nat.mod_mul_right_div_self, Nat.pow_succ]
      have : n / 256 ^ j % (256 ^ i * 256) % 256 = n / 256 ^ j % 256 := Nat.mod_mod_of_dvd _ (Nat.dvd_mul_left _ _)
      exact this
    rw [bigE, bigE, e, bigE_mod k n j (by omega)]
theorem bigE_lt : ∀ (k : Nat) {m n : Nat} (x y : Txt), m < 256 ^ k → n < 256 ^ k → m ≠ n → (bigE k m ++ x < bigE k n ++ y ↔ m < n)
  | 0, m, n, x, y, hm, hn, h => by simp at hm hn; omega
  | k + 1, m, n, x, y, hm, hn, h => by
    have q1 : m / 256 ^ k < 256 := Nat.div_lt_of_lt_mul (by rw [Nat.pow_succ] at hm; exact hm)
    have q2 : n / 256 ^ k < 256 := Nat.div_lt_of_lt_mul (by rw [Nat.pow_succ] at hn; exact hn)
    have t1 : (UInt8.ofNat (m / 256 ^ k)).toNat = m / 256 ^ k := by simp; omega
    have t2 : (UInt8.ofNat (n / 256 ^ k)).toNat = n / 256 ^ k := by simp; omega
    rw [bigE, bigE, List.cons_append, List.cons_append, cons_lt, u8_lt, ← UInt8.toNat_inj, t1, t2]
    by_cases he : m / 256 ^ k = n / 256 ^ k
    · obtain ⟨g1, g2⟩ := pow_split n he
      have hp : 0 < 256 ^ k := Nat.pow_pos (by omega)
      rw [← bigE_mod k m k (Nat.le_refl _), ← bigE_mod k n k (Nat.le_refl _), bigE_lt k x y (Nat.mod_lt _ hp) (Nat.mod_lt _ hp) (fun e => h (g2.2 e)), g1]
      omega
    · have hd : m / 256 ^ k < n / 256 ^ k ↔ m < n := by
        constructor
        · intro hh
          by_cases hle : n ≤ m
          · have := Nat.div_le_div_right (c := 256 ^ k) hle; omega
          · omega
        · intro hh
          have := Nat.div_le_div_right (c := 256 ^ k) (Nat.le_of_lt hh); omega
      rw [hd]; simp [he]
theorem bigE_inj {k m n : Nat} {x y : Txt} (hm : m < 256 ^ k) (hn : n < 256 ^ k) (h : bigE k m ++ x = bigE k n ++ y) : m = n ∧ x = y := by
  by_cases he : m = n
  · subst he; exact ⟨rfl, by simpa using h⟩
  · exfalso
    by_cases hl : m < n
    · have := (bigE_lt k x y hm hn he).2 hl; rw [h] at this; exact List.lt_irrefl _ this
    · have := (bigE_lt k y x hn hm (Ne.symm he)).2 (by omega); rw [h] at this; exact List.lt_irrefl _ this
/-- A number that an entry, or a search, may have. -/
def SeqOk (s : Int) : Prop := 1 ≤ s ∧ s ≤ MaxS
theorem lack_lt {s : Int} (h : SeqOk s) : lackS s < 256 ^ 7 := by unfold SeqOk lackS MaxS at *; omega
theorem lack_gt {s t : Int} (hs : SeqOk s) (ht : SeqOk t) : lackS s < lackS t ↔ t < s := by unfold SeqOk lackS MaxS at *; omega
theorem lack_inj {s t : Int} (hs : SeqOk s) (ht : SeqOk t) : lackS s = lackS t ↔ s = t := by unfold SeqOk lackS MaxS at *; omega
/-- Two keys with numbers, not the same: their texts, whatever stands behind, are in their order. -/
theorem join_lt {a b : Txt} {s t : Int} (hs : SeqOk s) (ht : SeqOk t) (x y : Txt) (h : ¬(a = b ∧ s = t)) : joinS a s ++ x < joinS b t ++ y ↔ (if a = b then t < s else a < b) := by
  unfold joinS
  simp only [List.append_assoc, List.cons_append]
  by_cases hab : a = b
  · subst hab
    have hst : s ≠ t := fun e => h ⟨rfl, e⟩
    rw [app_lt, cons_lt, bigE_lt 7 x y (lack_lt hs) (lack_lt ht) (fun e => hst ((lack_inj hs ht).1 e)), lack_gt hs ht]
    simp
  · rw [esc_lt _ _ hab]; simp [hab]
theorem join_inj {a b : Txt} {s t : Int} (hs : SeqOk s) (ht : SeqOk t) {x y : Txt} (h : joinS a s ++ x = joinS b t ++ y) : (a = b ∧ s = t) ∧ x = y := by
  unfold joinS at h
  simp only [List.append_assoc, List.cons_append] at h
  obtain ⟨h1, h2⟩ := esc_inj h
  obtain ⟨h3, h4⟩ := bigE_inj (lack_lt hs) (lack_lt ht) h2
  exact ⟨⟨h1, (lack_inj hs ht).1 h3⟩, h4⟩
theorem right_seq {e : MEnt} (h : rightM e = true) : SeqOk e.2.1 := by unfold rightM at h; simp only [decide_eq_true_eq] at h; unfold SeqOk MaxS; omega
/-- An entry stands ahead of what is sought. -/
theorem write_lt {e : MEnt} (h : rightM e = true) {k : Txt} {s : Int} (hs : SeqOk s) (y : Txt) (d : Bool) (v : Txt) (hn : ¬(e.1 = k ∧ e.2.1 = s)) : writeS e < joinS k s ++ y ↔ befM e (k, s, d, v) = true := by
  unfold writeS
  rw [join_lt (right_seq h) hs _ _ hn]
  unfold befM
  simp only
  split <;> simp
theorem write_sought {e : MEnt} (h : rightM e = true) {k : Txt} {s : Int} (hs : SeqOk s) (d : Bool) (v : Txt) : writeS e < joinS k s ↔ befM e (k, s, d, v) = true := by
  by_cases hn : e.1 = k ∧ e.2.1 = s
  · obtain ⟨h1, h2⟩ := hn
    have e1 : befM e (k, s, d, v) = false := same_not_bef (same_iff.2 ⟨h1, h2⟩)
    rw [e1]
    unfold writeS
    rw [h1, h2]
    have := app_lt (joinS k s) (x := tailS e) (y := [])
    rw [List.append_nil] at this
    rw [this]
    simp [List.not_lt_nil]
  · have := write_lt h hs [] d v hn
    rw [List.append_nil] at this
    exact this
theorem write_inj {a b : MEnt} (ha : rightM a = true) (hb : rightM b = true) (h : writeS a = writeS b) : a.1 = b.1 ∧ a.2.1 = b.2.1 := (join_inj (right_seq ha) (right_seq hb) h).1
/-- Where a key and a number are sought in the list of texts. -/
theorem at_sought {k : Txt} {s : Int} (hs : SeqOk s) (d : Bool) (v : Txt) : ∀ {E : List Ent} {T : List MEnt}, E.map (·.1) = T.map writeS → (∀ e ∈ T, rightM e = true) → atE E (joinS k s) = atM T (k, s, d, v)
  | [], [], _, _ => rfl
  | [], _ :: _, h, _ => by simp at h
  | _ :: _, [], h, _ => by simp at h
  | a :: E, e :: T, h, hr => by
    simp only [List.map_cons, List.cons.injEq] at h
    have ih := at_sought (k := k) hs d v h.2 (fun x hx => hr x (by simp [hx]))
    rw [atE, atM, h.1, ih]
    have := write_sought (hr e (by simp)) hs d v (k := k)
    by_cases hb : befM e (k, s, d, v) = true
    · rw [if_pos hb, if_pos (this.2 hb)]
    · rw [if_neg hb, if_neg (fun x => hb (this.1 x))]
/-- Where an entry that is new is put. -/
theorem at_new {x : MEnt} (hx : rightM x = true) : ∀ {E : List Ent} {T : List MEnt}, E.map (·.1) = T.map writeS → (∀ e ∈ T, rightM e = true) → (∀ e ∈ T, ¬sameM e x = true) → atE E (writeS x) = atM T x
  | [], [], _, _, _ => rfl
  | [], _ :: _, h, _, _ => by simp at h
  | _ :: _, [], h, _, _ => by simp at h
  | a :: E, e :: T, h, hr, hn => by
    simp only [List.map_cons, List.cons.injEq] at h
    have ih := at_new hx h.2 (fun y hy => hr y (by simp [hy])) (fun y hy => hn y (by simp [hy]))
    rw [atE, atM, h.1, ih]
    have hs := hn e (by simp)
    rw [same_iff] at hs
    have := write_lt (hr e (by simp)) (right_seq hx) (tailS x) x.2.2.1 x.2.2.2 hs
    have this : writeS e < writeS x ↔ befM e x = true := this
    by_cases hb : befM e x = true
    · rw [if_pos hb, if_pos (this.2 hb)]
    · rw [if_neg hb, if_neg (fun y => hb (this.1 y))]
/-- A new entry put into the list of texts. -/
theorem put_new {E : List Ent} {T : List MEnt} (h : E.map (·.1) = T.map writeS) (hT : MmOk T) {x : MEnt} (hc : putC T x = 0) (ht : Int) (v : Txt) : hasE E (writeS x) = false ∧ (putE E (writeS x) v ht).map (·.1) = (insM T x).map writeS := by
  obtain ⟨hx, hno⟩ := putC_zero.1 hc
  have hns : ∀ e ∈ T, ¬sameM e x = true := fun e he hs => by
    have := (hT.has x).2 ⟨e, he, hs⟩
    rw [hno] at this; cases this
  have hat := at_new hx h hT.right hns
  have hh : hasE E (writeS x) = false := by
    rw [Bool.eq_false_iff]
    intro hh
    obtain ⟨e, he, h1⟩ := hasE_iff.1 hh
    have hm : writeS x ∈ T.map writeS := by rw [← h, ← h1]; exact List.mem_map_of_mem (List.mem_of_getElem? he)
    obtain ⟨y, hy, h2⟩ := List.mem_map.1 hm
    exact hns y hy (same_iff.2 (write_inj (hT.right y hy) hx h2))
  refine ⟨hh, ?_⟩
  unfold putE insM
  rw [if_neg (by rw [hh]; simp), hat]
  simp only [List.map_append, List.map_cons, List.map_take, List.map_drop, h]
/-- What Find finds, at the place that is sought. -/
theorem find_at {T : List MEnt} (hT : MmOk T) (k : Txt) {s : Int} (d : Bool) (v : Txt) : findM T k s = match T[atM T (k, s, d, v)]? with | some x => if x.1 = k then some x else none | none => none := by
  have key : ∀ x ∈ T, befM x (k, s, d, v) = true → ¬(x.1 = k ∧ x.2.1 ≤ s) := by
    rintro x - hb ⟨h1, h2⟩
    unfold befM at hb
    rw [if_pos h1] at hb
    simp only [decide_eq_true_eq] at hb; omega
  cases hg : T[atM T (k, s, d, v)]? with
  | none =>
    simp only
    apply find_no
    intro y hy hk hs
    obtain ⟨i, hi, rfl⟩ := List.getElem_of_mem hy
    have h0 := List.getElem?_eq_none_iff.1 hg
    exact key _ hy (atM_before _ T i (by omega) hi) ⟨hk, hs⟩
  | some x =>
    obtain ⟨hi, rfl⟩ := List.getElem?_eq_some_iff.1 hg
    have hat := atM_at (k, s, d, v) T hi
    simp only
    by_cases hk : T[atM T (k, s, d, v)].1 = k
    · rw [if_pos hk]
      have hs : T[atM T (k, s, d, v)].2.1 ≤ s := by
        unfold befM at hat
        rw [if_pos hk] at hat
        simp only [decide_eq_true_eq] at hat; omega
      refine find_best hT (List.getElem_mem hi) hk hs fun y hy hy1 hy2 => ?_
      obtain ⟨j, hj, rfl⟩ := List.getElem_of_mem hy
      rcases Nat.lt_trichotomy j (atM T (k, s, d, v)) with h1 | h1 | h1
      · exact absurd ⟨hy1, hy2⟩ (key _ hy (atM_before _ T j h1 hj))
      · subst h1; exact Int.le_refl _
      · have hb := hT.bef h1 hj
        unfold befM at hb
        rw [if_pos (hk.trans hy1.symm)] at hb
        simp only [decide_eq_true_eq] at hb; omega
    · rw [if_neg hk]
      apply find_no
      intro y hy hy1 hy2
      obtain ⟨j, hj, rfl⟩ := List.getElem_of_mem hy
      rcases Nat.lt_trichotomy j (atM T (k, s, d, v)) with h1 | h1 | h1
      · exact key _ hy (atM_before _ T j h1 hj) ⟨hy1, hy2⟩
      · subst h1; exact hk hy1
      · have hb := hT.bef h1 hj
        unfold befM at hb hat
        rw [if_neg hk] at hat
        rw [if_neg (fun e => hk (e.trans hy1))] at hb
        simp only [decide_eq_true_eq] at hb hat
        rw [hy1] at hb
        exact hat hb
end Go.Proofs.Pk
