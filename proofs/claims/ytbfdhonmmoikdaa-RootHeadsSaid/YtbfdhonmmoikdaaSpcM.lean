/- Mathematics of layer 5 (space): sectors taken, the free ones as runs. No program. -/
namespace Go.Proofs.Pk
set_option maxRecDepth 10000

/-- The free runs of a row of sectors (true: taken), the first sector having the number i; 'o': a run that is open, (its first sector, how many). -/
def freeR : Nat → Option (Nat × Nat) → List Bool → List (Nat × Nat)
  | _, none, [] => []
  | _, some r, [] => [r]
  | i, none, true :: t => freeR (i + 1) none t
  | i, some r, true :: t => r :: freeR (i + 1) none t
  | i, none, false :: t => freeR (i + 1) (some (i, 1)) t
  | i, some r, false :: t => freeR (i + 1) (some (r.1, r.2 + 1)) t
def freeL (t : List Bool) : List (Nat × Nat) := freeR 0 none t

/-- Runs in order, from a place on, apart, up to an end: what lies between. -/
def gaps (pos total : Nat) : List (Nat × Nat) → List (Nat × Nat)
  | [] => if pos < total then [(pos, total - pos)] else []
  | r :: l => if pos < r.1 then (pos, r.1 - pos) :: gaps (r.1 + r.2) total l else gaps (r.1 + r.2) total l
/-- In order, apart, none empty, up to an end. -/
def Sorted' (pos total : Nat) : List (Nat × Nat) → Prop
  | [] => pos ≤ total
  | r :: l => pos ≤ r.1 ∧ 1 ≤ r.2 ∧ r.1 + r.2 ≤ total ∧ Sorted' (r.1 + r.2) total l
/-- The sectors from a place on, as runs in order take them. -/
def rowOf (pos total : Nat) : List (Nat × Nat) → List Bool
  | [] => List.replicate (total - pos) false
  | r :: l => List.replicate (r.1 - pos) false ++ List.replicate r.2 true ++ rowOf (r.1 + r.2) total l

theorem freeR_true : ∀ (n i : Nat) (t : List Bool), freeR i none (List.replicate n true ++ t) = freeR (i + n) none t
  | 0, i, t => rfl
  | n + 1, i, t => by
    rw [List.replicate_succ, List.cons_append, freeR, freeR_true n]; congr 1; omega
theorem freeR_open : ∀ (n i : Nat) (r : Nat × Nat) (t : List Bool), freeR i (some r) (List.replicate n false ++ t) = freeR (i + n) (some (r.1, r.2 + n)) t
  | 0, i, r, t => rfl
  | n + 1, i, r, t => by
    rw [List.replicate_succ, List.cons_append, freeR, freeR_open n]
    congr 1
    · omega
    · simp only [Option.some.injEq, Prod.mk.injEq, true_and]; omega
theorem freeR_close (n i : Nat) (hn : 1 ≤ n) (r : Nat × Nat) (t : List Bool) : freeR i (some r) (List.replicate n true ++ t) = r :: freeR (i + n) none t := by
  obtain ⟨m, rfl⟩ : ∃ m, n = m + 1 := ⟨n - 1, by omega⟩
  rw [List.replicate_succ, List.cons_append, freeR, freeR_true]
  congr 2; omega
theorem freeR_gap (n i : Nat) (hn : 1 ≤ n) (t : List Bool) : freeR i none (List.replicate n false ++ t) = freeR (i + n) (some (i, n)) t := by
  obtain ⟨m, rfl⟩ : ∃ m, n = m + 1 := ⟨n - 1, by omega⟩
  rw [List.replicate_succ, List.cons_append, freeR, freeR_open]
  congr 1
  · omega
  · simp only [Option.some.injEq, Prod.mk.injEq, true_and]; omega

/-- Between runs in order lies just what is free. -/
theorem freeR_gaps : ∀ (l : List (Nat × Nat)) (pos total : Nat), Sorted' pos total l → freeR pos none (rowOf pos total l) = gaps pos total l
  | [], pos, total, h => by
    show freeR pos none (List.replicate (total - pos) false) = _
    unfold gaps
    by_cases hp : pos < total
    · rw [if_pos hp]
      have := freeR_gap (total - pos) pos (by omega) []
      rw [List.append_nil] at this
      rw [this]; rfl
    · rw [if_neg hp, show total - pos = 0 from by omega]; rfl
  | r :: l, pos, total, h => by
    obtain ⟨h1, h2, h3, h4⟩ := h
    have ih := freeR_gaps l (r.1 + r.2) total h4
    unfold gaps rowOf
    rw [List.append_assoc]
    by_cases hp : pos < r.1
    · rw [if_pos hp, freeR_gap _ _ (by omega), freeR_close _ _ h2]
      rw [show pos + (r.1 - pos) + r.2 = r.1 + r.2 from by omega, ih]
    · rw [if_neg hp, show r.1 - pos = 0 from by omega, List.replicate_zero, List.nil_append, freeR_true, show pos + r.2 = r.1 + r.2 from by omega, ih]
theorem freeL_gaps (l : List (Nat × Nat)) (total : Nat) (h : Sorted' 0 total l) : freeL (rowOf 0 total l) = gaps 0 total l := freeR_gaps l 0 total h

theorem rowOf_length : ∀ (l : List (Nat × Nat)) (pos total : Nat), Sorted' pos total l → (rowOf pos total l).length = total - pos
  | [], _, _, _ => by simp [rowOf]
  | r :: l, pos, total, h => by
    obtain ⟨h1, h2, h3, h4⟩ := h
    have ih := rowOf_length l _ _ h4
    have : r.1 + r.2 ≤ total := h3
    unfold rowOf
    simp only [List.length_append, List.length_replicate, ih]; omega
/-- A sector is taken just if a run holds it. -/
def holdsK (l : List (Nat × Nat)) (k : Nat) : Prop := ∃ r ∈ l, r.1 ≤ k ∧ k < r.1 + r.2
theorem rowOf_get : ∀ (l : List (Nat × Nat)) (pos total : Nat), Sorted' pos total l → ∀ k, pos ≤ k → k < total → ((rowOf pos total l)[k - pos]? = some true ↔ holdsK l k)
  | [], pos, total, _, k, h1, h2 => by
    simp [rowOf, holdsK, List.getElem?_replicate, show k - pos < total - pos by omega]
  | r :: l, pos, total, h, k, h1, h2 => by
    obtain ⟨g1, g2, g3, g4⟩ := h
    have hlow : ∀ (l : List (Nat × Nat)) (p : Nat), Sorted' p total l → ∀ x ∈ l, p ≤ x.1 := by
      intro l
      induction l with
      | nil => intro p _ x hx; cases hx
      | cons y l ih =>
        intro p hp x hx
        rcases List.mem_cons.1 hx with rfl | hx
        · exact hp.1
        · have := ih _ hp.2.2.2 x hx; have := hp.1; omega
    unfold rowOf
    rw [List.append_assoc]
    by_cases ha : k < r.1
    · rw [List.getElem?_append_left (by rw [List.length_replicate]; omega), List.getElem?_replicate, if_pos (by omega)]
      constructor
      · intro h; cases h
      · rintro ⟨x, hx, hx1, hx2⟩
        rcases List.mem_cons.1 hx with rfl | hx
        · omega
        · have := hlow l _ g4 x hx; omega
    · rw [List.getElem?_append_right (by rw [List.length_replicate]; omega), List.length_replicate]
      by_cases hb : k < r.1 + r.2
      · rw [List.getElem?_append_left (by rw [List.length_replicate]; omega), List.getElem?_replicate, if_pos (by omega)]
        exact ⟨fun _ => ⟨r, by simp, by omega, hb⟩, fun _ => rfl⟩
      · rw [List.getElem?_append_right (by rw [List.length_replicate]; omega), List.length_replicate]
        have ih := rowOf_get l (r.1 + r.2) total g4 k (by omega) h2
        rw [show k - pos - (r.1 - pos) - r.2 = k - (r.1 + r.2) from by omega, ih]
        constructor
        · rintro ⟨x, hx, hx1, hx2⟩; exact ⟨x, by simp [hx], hx1, hx2⟩
        · rintro ⟨x, hx, hx1, hx2⟩
          rcases List.mem_cons.1 hx with rfl | hx
          · omega
          · exact ⟨x, hx, hx1, hx2⟩

/-- How many sectors are free. -/
theorem freeR_sum : ∀ (t : List Bool) (i : Nat) (o : Option (Nat × Nat)), ((freeR i o t).map (·.2)).sum = (match o with | none => 0 | some r => r.2) + t.count false
  | [], _, none => rfl
  | [], _, some r => by simp [freeR]
  | true :: t, i, none => by simp [freeR, freeR_sum t]
  | true :: t, i, some r => by simp [freeR, freeR_sum t]
  | false :: t, i, none => by simp [freeR, freeR_sum t]; omega
  | false :: t, i, some r => by simp [freeR, freeR_sum t]; omega

/-- Sector by sector: is the last run open? -/
def fin : Bool → List Bool → Bool
  | o, [] => o
  | _, b :: t => fin (!b) t
theorem freeR_snoc_true : ∀ (t : List Bool) (i : Nat) (o : Option (Nat × Nat)), freeR i o (t ++ [true]) = freeR i o t
  | [], i, none => rfl
  | [], i, some r => rfl
  | true :: t, i, none => by simp only [List.cons_append, freeR]; exact freeR_snoc_true t _ _
  | true :: t, i, some r => by simp only [List.cons_append, freeR]; rw [freeR_snoc_true t]
  | false :: t, i, none => by simp only [List.cons_append, freeR]; exact freeR_snoc_true t _ _
  | false :: t, i, some r => by simp only [List.cons_append, freeR]; exact freeR_snoc_true t _ _
theorem freeR_snoc_new : ∀ (t : List Bool) (i : Nat) (o : Option (Nat × Nat)), fin o.isSome t = false → freeR i o (t ++ [false]) = freeR i o t ++ [(i + t.length, 1)]
  | [], i, none, _ => rfl
  | [], i, some r, h => by cases h
  | true :: t, i, none, h => by
    simp only [List.cons_append, freeR]; rw [freeR_snoc_new t _ _ h, List.length_cons, show i + 1 + t.length = i + (t.length + 1) from by omega]
  | true :: t, i, some r, h => by
    simp only [List.cons_append, freeR]; rw [freeR_snoc_new t _ _ h, List.length_cons, show i + 1 + t.length = i + (t.length + 1) from by omega]
  | false :: t, i, none, h => by
    simp only [List.cons_append, freeR]; rw [freeR_snoc_new t _ _ h, List.length_cons, show i + 1 + t.length = i + (t.length + 1) from by omega]
  | false :: t, i, some r, h => by
    simp only [List.cons_append, freeR]; rw [freeR_snoc_new t _ _ h, List.length_cons, show i + 1 + t.length = i + (t.length + 1) from by omega]
theorem freeR_snoc_more : ∀ (t : List Bool) (i : Nat) (o : Option (Nat × Nat)), fin o.isSome t = true → ∃ L r, freeR i o t = L ++ [r] ∧ freeR i o (t ++ [false]) = L ++ [(r.1, r.2 + 1)]
  | [], i, none, h => by cases h
  | [], i, some r, _ => ⟨[], r, rfl, rfl⟩
  | true :: t, i, none, h => by
    obtain ⟨L, r, a, b⟩ := freeR_snoc_more t (i + 1) none h
    exact ⟨L, r, by simpa only [freeR] using a, by simpa only [List.cons_append, freeR] using b⟩
  | true :: t, i, some q, h => by
    obtain ⟨L, r, a, b⟩ := freeR_snoc_more t (i + 1) none h
    exact ⟨q :: L, r, by simp only [freeR, List.cons_append]; rw [a], by simp only [List.cons_append, freeR]; rw [b]⟩
  | false :: t, i, none, h => by
    obtain ⟨L, r, a, b⟩ := freeR_snoc_more t (i + 1) (some (i, 1)) h
    exact ⟨L, r, by simpa only [freeR] using a, by simpa only [List.cons_append, freeR] using b⟩
  | false :: t, i, some q, h => by
    obtain ⟨L, r, a, b⟩ := freeR_snoc_more t (i + 1) (some (q.1, q.2 + 1)) h
    exact ⟨L, r, by simpa only [freeR] using a, by simpa only [List.cons_append, freeR] using b⟩
theorem fin_snoc : ∀ (t : List Bool) (o b : Bool), fin o (t ++ [b]) = !b
  | [], _, _ => rfl
  | _ :: t, _, b => fin_snoc t _ b
theorem fin_take (t : List Bool) (i : Nat) (hi : i + 1 ≤ t.length) : fin false (t.take (i + 1)) = !t[i] := by
  rw [List.take_succ_eq_append_getElem (by omega)]; exact fin_snoc _ _ _
theorem freeL_true (T : List Bool) : freeL (T ++ [true]) = freeL T := freeR_snoc_true _ _ _
theorem freeL_new (T : List Bool) (h : fin false T = false) : freeL (T ++ [false]) = freeL T ++ [(T.length, 1)] := by
  have := freeR_snoc_new T 0 none h
  rwa [Nat.zero_add] at this
theorem freeL_more (T : List Bool) (h : fin false T = true) : ∃ L r, freeL T = L ++ [r] ∧ freeL (T ++ [false]) = L ++ [(r.1, r.2 + 1)] := freeR_snoc_more T 0 none h
theorem freeL_sum (t : List Bool) : ((freeL t).map (·.2)).sum = t.count false := by
  have := freeR_sum t 0 none
  simpa [freeL] using this
theorem freeR_starts : ∀ (t : List Bool) (i : Nat) (o : Option (Nat × Nat)), (∀ r, o = some r → r.1 + r.2 ≤ i ∧ 1 ≤ r.2) → ∀ r ∈ freeR i o t, r.1 + r.2 ≤ i + t.length ∧ 1 ≤ r.2
  | [], i, none, _, r, hr => by cases hr
  | [], i, some q, h, r, hr => by
    simp only [freeR, List.mem_singleton] at hr; subst hr; exact h _ rfl
  | true :: t, i, none, h, r, hr => by
    have := freeR_starts t (i + 1) none (by simp) r hr
    rw [List.length_cons]; omega
  | true :: t, i, some q, h, r, hr => by
    simp only [freeR, List.mem_cons] at hr
    rw [List.length_cons]
    rcases hr with rfl | hr
    · have := h _ rfl; omega
    · have := freeR_starts t (i + 1) none (by simp) r hr; omega
  | false :: t, i, none, h, r, hr => by
    have := freeR_starts t (i + 1) (some (i, 1)) (by simp) r hr
    rw [List.length_cons]; omega
  | false :: t, i, some q, h, r, hr => by
    have := freeR_starts t (i + 1) (some (q.1, q.2 + 1)) (by rintro _ ⟨⟩; have := h _ rfl; omega) r hr
    rw [List.length_cons]; omega
theorem freeL_in (t : List Bool) : ∀ r ∈ freeL t, r.1 + r.2 ≤ t.length ∧ 1 ≤ r.2 := fun r hr => by
  have := freeR_starts t 0 none (by simp) r hr
  omega
theorem freeR_length : ∀ (t : List Bool) (i : Nat) (o : Option (Nat × Nat)), (freeR i o t).length ≤ t.length + (if o.isSome then 1 else 0)
  | [], i, none => by simp [freeR]
  | [], i, some q => by simp [freeR]
  | true :: t, i, none => by have := freeR_length t (i + 1) none; simp [freeR] at *; omega
  | true :: t, i, some q => by have := freeR_length t (i + 1) none; simp [freeR] at *; omega
  | false :: t, i, none => by have := freeR_length t (i + 1) (some (i, 1)); simp [freeR] at *; omega
  | false :: t, i, some q => by have := freeR_length t (i + 1) (some (q.1, q.2 + 1)); simp [freeR] at *; omega
theorem freeL_length (t : List Bool) : (freeL t).length ≤ t.length := by have := freeR_length t 0 none; simpa [freeL] using this

end Go.Proofs.Pk
