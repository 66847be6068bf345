/- SpcM, SpcT. -/

/- Mathematics of layer 5 (space): sectors taken, the free ones as runs. No program. -/
namespace Go.Proofs.Pk
set_option maxRecDepth 10000

/-- The free runs of a row of sectors (true: taken), the first sector having the number i; 'o': a run that is open, (its first sector, how many). -/
def freeR : Nat → Option (Nat × Nat) → List Bool → List (Nat × Nat)
  | _, none, [] => []
  | _, some r, [] => [r]
  | i, none, true :: t => freeR (i + 1) none t
  | i, some r, true :: t => r :: freeR (i + 1) none t
  | i, none, false :: t => freeR (i + 1) (some (i, 1)) t
  | i, some r, false :: t => freeR (i + 1) (some (r.1, r.2 + 1)) t
def freeL (t : List Bool) : List (Nat × Nat) := freeR 0 none t

/-- Runs in order, from a place on, apart, up to an end: what lies between. -/
def gaps (pos total : Nat) : List (Nat × Nat) → List (Nat × Nat)
  | [] => if pos < total then [(pos, total - pos)] else []
  | r :: l => if pos < r.1 then (pos, r.1 - pos) :: gaps (r.1 + r.2) total l else gaps (r.1 + r.2) total l
/-- In order, apart, none empty, up to an end. -/
def Sorted' (pos total : Nat) : List (Nat × Nat) → Prop
  | [] => pos ≤ total
  | r :: l => pos ≤ r.1 ∧ 1 ≤ r.2 ∧ r.1 + r.2 ≤ total ∧ Sorted' (r.1 + r.2) total l
/-- The sectors from a place on, as runs in order take them. -/
def rowOf (pos total : Nat) : List (Nat × Nat) → List Bool
  | [] => List.replicate (total - pos) false
  | r :: l => List.replicate (r.1 - pos) false ++ List.replicate r.2 true ++ rowOf (r.1 + r.2) total l

theorem freeR_true : ∀ (n i : Nat) (t : List Bool), freeR i none (List.replicate n true ++ t) = freeR (i + n) none t
  | 0, i, t => rfl
  | n + 1, i, t => by
    rw [List.replicate_succ, List.cons_append, freeR, freeR_true n]; congr 1; omega
theorem freeR_open : ∀ (n i : Nat) (r : Nat × Nat) (t : List Bool), freeR i (some r) (List.replicate n false ++ t) = freeR (i + n) (some (r.1, r.2 + n)) t
  | 0, i, r, t => rfl
  | n + 1, i, r, t => by
    rw [List.replicate_succ, List.cons_append, freeR, freeR_open n]
    congr 1
    · omega
    · simp only [Option.some.injEq, Prod.mk.injEq, true_and]; omega
theorem freeR_close (n i : Nat) (hn : 1 ≤ n) (r : Nat × Nat) (t : List Bool) : freeR i (some r) (List.replicate n true ++ t) = r :: freeR (i + n) none t := by
  obtain ⟨m, rfl⟩ : ∃ m, n = m + 1 := ⟨n - 1, by omega⟩
  rw [List.replicate_succ, List.cons_append, freeR, freeR_true]
  congr 2; omega
theorem freeR_gap (n i : Nat) (hn : 1 ≤ n) (t : List Bool) : freeR i none (List.replicate n false ++ t) = freeR (i + n) (some (i, n)) t := by
  obtain ⟨m, rfl⟩ : ∃ m, n = m + 1 := ⟨n - 1, by omega⟩
  rw [List.replicate_succ, List.cons_append, freeR, freeR_open]
  congr 1
  · omega
  · simp only [Option.some.injEq, Prod.mk.injEq, true_and]; omega

/-- Between runs in order lies just what is free. -/
theorem freeR_gaps : ∀ (l : List (Nat × Nat)) (pos total : Nat), Sorted' pos total l → freeR pos none (rowOf pos total l) = gaps pos total l
  | [], pos, total, h => by
    show freeR pos none (List.replicate (total - pos) false) = _
    unfold gaps
    by_cases hp : pos < total
    · rw [if_pos hp]
      have := freeR_gap (total - pos) pos (by omega) []
      rw [List.append_nil] at this
      rw [this]; rfl
    · rw [if_neg hp, show total - pos = 0 from by omega]; rfl
  | r :: l, pos, total, h => by
    obtain ⟨h1, h2, h3, h4⟩ := h
    have ih := freeR_gaps l (r.1 + r.2) total h4
    unfold gaps rowOf
    rw [List.append_assoc]
    by_cases hp : pos < r.1
    · rw [if_pos hp, freeR_gap _ _ (by omega), freeR_close _ _ h2]
      rw [show pos + (r.1 - pos) + r.2 = r.1 + r.2 from by omega, ih]
    · rw [if_neg hp, show r.1 - pos = 0 from by omega, List.replicate_zero, List.nil_append, freeR_true, show pos + r.2 = r.1 + r.2 from by omega, ih]
theorem freeL_gaps (l : List (Nat × Nat)) (total : Nat) (h : Sorted' 0 total l) : freeL (rowOf 0 total l) = gaps 0 total l := freeR_gaps l 0 total h

theorem rowOf_length : ∀ (l : List (Nat × Nat)) (pos total : Nat), Sorted' pos total l → (rowOf pos total l).length = total - pos
  | [], _, _, _ => by simp [rowOf]
  | r :: l, pos, total, h => by
    obtain ⟨h1, h2, h3, h4⟩ := h
    have ih := rowOf_length l _ _ h4
    have : r.1 + r.2 ≤ total := h3
    unfold rowOf
    simp only [List.length_append, List.length_replicate, ih]; omega
/-- A sector is taken just if a run holds it. -/
def holdsK (l : List (Nat × Nat)) (k : Nat) : Prop := ∃ r ∈ l, r.1 ≤ k ∧ k < r.1 + r.2
theorem rowOf_get : ∀ (l : List (Nat × Nat)) (pos total : Nat), Sorted' pos total l → ∀ k, pos ≤ k → k < total → ((rowOf pos total l)[k - pos]? = some true ↔ holdsK l k)
  | [], pos, total, _, k, h1, h2 => by
    simp [rowOf, holdsK, List.getElem?_replicate, show k - pos < total - pos by omega]
  | r :: l, pos, total, h, k, h1, h2 => by
    obtain ⟨g1, g2, g3, g4⟩ := h
    have hlow : ∀ (l : List (Nat × Nat)) (p : Nat), Sorted' p total l → ∀ x ∈ l, p ≤ x.1 := by
      intro l
      induction l with
      | nil => intro p _ x hx; cases hx
      | cons y l ih =>
        intro p hp x hx
        rcases List.mem_cons.1 hx with rfl | hx
        · exact hp.1
        · have := ih _ hp.2.2.2 x hx; have := hp.1; omega
    unfold rowOf
    rw [List.append_assoc]
    by_cases ha : k < r.1
    · rw [List.getElem?_append_left (by rw [List.length_replicate]; omega), List.getElem?_replicate, if_pos (by omega)]
      constructor
      · intro h; cases h
      · rintro ⟨x, hx, hx1, hx2⟩
        rcases List.mem_cons.1 hx with rfl | hx
        · omega
        · have := hlow l _ g4 x hx; omega
    · rw [List.getElem?_append_right (by rw [List.length_replicate]; omega), List.length_replicate]
      by_cases hb : k < r.1 + r.2
      · rw [List.getElem?_append_left (by rw [List.length_replicate]; omega), List.getElem?_replicate, if_pos (by omega)]
        exact ⟨fun _ => ⟨r, by simp, by omega, hb⟩, fun _ => rfl⟩
      · rw [List.getElem?_append_right (by rw [List.length_replicate]; omega), List.length_replicate]
        have ih := rowOf_get l (r.1 + r.2) total g4 k (by omega) h2
        rw [show k - pos - (r.1 - pos) - r.2 = k - (r.1 + r.2) from by omega, ih]
        constructor
        · rintro ⟨x, hx, hx1, hx2⟩; exact ⟨x, by simp [hx], hx1, hx2⟩
        · rintro ⟨x, hx, hx1, hx2⟩
          rcases List.mem_cons.1 hx with rfl | hx
          · omega
          · exact ⟨x, hx, hx1, hx2⟩

/-- How many sectors are free. -/
theorem freeR_sum : ∀ (t : List Bool) (i : Nat) (o : Option (Nat × Nat)), ((freeR i o t).map (·.2)).sum = (match o with | none => 0 | some r => r.2) + t.count false
  | [], _, none => rfl
  | [], _, some r => by simp [freeR]
  | true :: t, i, none => by simp [freeR, freeR_sum t]
  | true :: t, i, some r => by simp [freeR, freeR_sum t]
  | false :: t, i, none => by simp [freeR, freeR_sum t]; omega
  | false :: t, i, some r => by simp [freeR, freeR_sum t]; omega

/-- Sector by sector: is the last run open? -/
def fin : Bool → List Bool → Bool
  | o, [] => o
  | _, b :: t => fin (!b) t
theorem freeR_snoc_true : ∀ (t : List Bool) (i : Nat) (o : Option (Nat × Nat)), freeR i o (t ++ [true]) = freeR i o t
  | [], i, none => rfl
  | [], i, some r => rfl
  | true :: t, i, none => by simp only [List.cons_append, freeR]; exact freeR_snoc_true t _ _
  | true :: t, i, some r => by simp only [List.cons_append, freeR]; rw [freeR_snoc_true t]
  | false :: t, i, none => by simp only [List.cons_append, freeR]; exact freeR_snoc_true t _ _
  | false :: t, i, some r => by simp only [List.cons_append, freeR]; exact freeR_snoc_true t _ _
theorem freeR_snoc_new : ∀ (t : List Bool) (i : Nat) (o : Option (Nat × Nat)), fin o.isSome t = false → freeR i o (t ++ [false]) = freeR i o t ++ [(i + t.length, 1)]
  | [], i, none, _ => rfl
  | [], i, some r, h => by cases h
  | true :: t, i, none, h => by
    simp only [List.cons_append, freeR]; rw [freeR_snoc_new t _ _ h, List.length_cons, show i + 1 + t.length = i + (t.length + 1) from by omega]
  | true :: t, i, some r, h => by
    simp only [List.cons_append, freeR]; rw [freeR_snoc_new t _ _ h, List.length_cons, show i + 1 + t.length = i + (t.length + 1) from by omega]
  | false :: t, i, none, h => by
    simp only [List.cons_append, freeR]; rw [freeR_snoc_new t _ _ h, List.length_cons, show i + 1 + t.length = i + (t.length + 1) from by omega]
  | false :: t, i, some r, h => by
    simp only [List.cons_append, freeR]; rw [freeR_snoc_new t _ _ h, List.length_cons, show i + 1 + t.length = i + (t.length + 1) from by omega]
theorem freeR_snoc_more : ∀ (t : List Bool) (i : Nat) (o : Option (Nat × Nat)), fin o.isSome t = true → ∃ L r, freeR i o t = L ++ [r] ∧ freeR i o (t ++ [false]) = L ++ [(r.1, r.2 + 1)]
  | [], i, none, h => by cases h
  | [], i, some r, _ => ⟨[], r, rfl, rfl⟩
  | true :: t, i, none, h => by
    obtain ⟨L, r, a, b⟩ := freeR_snoc_more t (i + 1) none h
    exact ⟨L, r, by simpa only [freeR] using a, by simpa only [List.cons_append, freeR] using b⟩
  | true :: t, i, some q, h => by
    obtain ⟨L, r, a, b⟩ := freeR_snoc_more t (i + 1) none h
    exact ⟨q :: L, r, by simp only [freeR, List.cons_append]; rw [a], by simp only [List.cons_append, freeR]; rw [b]⟩
  | false :: t, i, none, h => by
    obtain ⟨L, r, a, b⟩ := freeR_snoc_more t (i + 1) (some (i, 1)) h
    exact ⟨L, r, by simpa only [freeR] using a, by simpa only [List.cons_append, freeR] using b⟩
  | false :: t, i, some q, h => by
    obtain ⟨L, r, a, b⟩ := freeR_snoc_more t (i + 1) (some (q.1, q.2 + 1)) h
    exact ⟨L, r, by simpa only [freeR] using a, by simpa only [List.cons_append, freeR] using b⟩
theorem fin_snoc : ∀ (t : List Bool) (o b : Bool), fin o (t ++ [b]) = !b
  | [], _, _ => rfl
  | _ :: t, _, b => fin_snoc t _ b
theorem fin_take (t : List Bool) (i : Nat) (hi : i + 1 ≤ t.length) : fin false (t.take (i + 1)) = !t[i] := by
  rw [List.take_succ_eq_append_getElem (by omega)]; exact fin_snoc _ _ _
theorem freeL_true (T : List Bool) : freeL (T ++ [true]) = freeL T := freeR_snoc_true _ _ _
theorem freeL_new (T : List Bool) (h : fin false T = false) : freeL (T ++ [false]) = freeL T ++ [(T.length, 1)] := by
  have := freeR_snoc_new T 0 none h
  rwa [Nat.zero_add] at this
theorem freeL_more (T : List Bool) (h : fin false T = true) : ∃ L r, freeL T = L ++ [r] ∧ freeL (T ++ [false]) = L ++ [(r.1, r.2 + 1)] := freeR_snoc_more T 0 none h
theorem freeL_sum (t : List Bool) : ((freeL t).map (·.2)).sum = t.count false := by
  have := freeR_sum t 0 none
  simpa [freeL] using this
theorem freeR_starts : ∀ (t : List Bool) (i : Nat) (o : Option (Nat × Nat)), (∀ r, o = some r → r.1 + r.2 ≤ i ∧ 1 ≤ r.2) → ∀ r ∈ freeR i o t, r.1 + r.2 ≤ i + t.length ∧ 1 ≤ r.2
  | [], i, none, _, r, hr => by cases hr
  | [], i, some q, h, r, hr => by
    simp only [freeR, List.mem_singleton] at hr; subst hr; exact h _ rfl
  | true :: t, i, none, h, r, hr => by
    have := freeR_starts t (i + 1) none (by simp) r hr
    rw [List.length_cons]; omega
  | true :: t, i, some q, h, r, hr => by
    simp only [freeR, List.mem_cons] at hr
    rw [List.length_cons]
    rcases hr with rfl | hr
    · have := h _ rfl; omega
    · have := freeR_starts t (i + 1) none (by simp) r hr; omega
  | false :: t, i, none, h, r, hr => by
    have := freeR_starts t (i + 1) (some (i, 1)) (by simp) r hr
    rw [List.length_cons]; omega
  | false :: t, i, some q, h, r, hr => by
    have := freeR_starts t (i + 1) (some (q.1, q.2 + 1)) (by rintro _ ⟨⟩; have := h _ rfl; omega) r hr
    rw [List.length_cons]; omega
theorem freeL_in (t : List Bool) : ∀ r ∈ freeL t, r.1 + r.2 ≤ t.length ∧ 1 ≤ r.2 := fun r hr => by
  have := freeR_starts t 0 none (by simp) r hr
  omega
theorem freeR_length : ∀ (t : List Bool) (i : Nat) (o : Option (Nat × Nat)), (freeR i o t).length ≤ t.length + (if o.isSome then 1 else 0)
  | [], i, none => by simp [freeR]
  | [], i, some q => by simp [freeR]
  | true :: t, i, none => by have := freeR_length t (i + 1) none; simp [freeR] at *; omega
  | true :: t, i, some q => by have := freeR_length t (i + 1) none; simp [freeR] at *; omega
  | false :: t, i, none => by have := freeR_length t (i + 1) (some (i, 1)); simp [freeR] at *; omega
  | false :: t, i, some q => by have := freeR_length t (i + 1) (some (q.1, q.2 + 1)); simp [freeR] at *; omega
theorem freeL_length (t : List Bool) : (freeL t).length ≤ t.length := by have := freeR_length t 0 none; simpa [freeL] using this

end Go.Proofs.Pk

/- Mathematics of layer 5 (space): runs taken one by one, in whatever order, and the same runs in order. No program. -/
namespace Go.Proofs.Pk
set_option maxRecDepth 10000

/-- Sectors are marked one by one; none may be marked before. -/
def mark : List Bool → Nat → Nat → Option (List Bool)
  | t, _, 0 => some t
  | t, k, n + 1 => if t.getD k false = true then none else mark (t.set k true) (k + 1) n
/-- Is a run within so many sectors, and not empty? -/
def Good (total : Nat) (r : Int × Int) : Prop := ¬(r.2 < 1 ∨ r.1 < 0 ∨ (total : Int) < r.1 ∨ (total : Int) - r.1 < r.2)
instance (total : Nat) (r : Int × Int) : Decidable (Good total r) := inferInstanceAs (Decidable (¬_))
def natR (r : Int × Int) : Nat × Nat := (r.1.toNat, r.2.toNat)
def takeAll (total : Nat) : List (Int × Int) → List Bool → Option (List Bool)
  | [], t => some t
  | r :: l, t => if Good total r then (mark t (natR r).1 (natR r).2).bind (takeAll total l) else none

theorem getD_set (t : List Bool) (k i : Nat) (b : Bool) (hk : k < t.length) : (t.set k b).getD i false = if k = i then b else t.getD i false := by
  simp only [List.getD, List.getElem?_set]
  by_cases h : k = i
  · subst h; simp [hk]
  · simp [h]
theorem mark_some : ∀ (n k : Nat) (t t' : List Bool), k + n ≤ t.length → mark t k n = some t' →
    (∀ i, k ≤ i → i < k + n → t.getD i false = false) ∧ t'.length = t.length ∧ ∀ i, t'.getD i false = (t.getD i false || decide (k ≤ i ∧ i < k + n))
  | 0, k, t, t', _, h => by
    have e : t = t' := by simpa [mark] using h
    subst e
    exact ⟨fun i h1 h2 => by omega, rfl, fun i => by simp; omega⟩
  | n + 1, k, t, t', hl, h => by
    unfold mark at h
    split at h
    · cases h
    · rename_i h0
      have h0' : t.getD k false = false := by simpa using h0
      obtain ⟨a, b, c⟩ := mark_some n (k + 1) (t.set k true) t' (by rw [List.length_set]; omega) h
      refine ⟨fun i h1 h2 => ?_, by rw [b, List.length_set], fun i => ?_⟩
      · by_cases e : k = i
        · subst e; exact h0'
        · have := a i (by omega) (by omega)
          rwa [getD_set _ _ _ _ (by omega), if_neg e] at this
      · rw [c i, getD_set _ _ _ _ (by omega)]
        by_cases e : k = i
        · subst e; simp
        · rw [if_neg e]; congr 1; exact decide_eq_decide.2 (by omega)
theorem mark_ok : ∀ (n k : Nat) (t : List Bool), k + n ≤ t.length → (∀ i, k ≤ i → i < k + n → t.getD i false = false) → ∃ t', mark t k n = some t'
  | 0, k, t, _, _ => ⟨t, rfl⟩
  | n + 1, k, t, hl, h => by
    have h0 := h k (Nat.le_refl _) (by omega)
    obtain ⟨t', ht⟩ := mark_ok n (k + 1) (t.set k true) (by rw [List.length_set]; omega) (fun i h1 h2 => by
      rw [getD_set _ _ _ _ (by omega), if_neg (by omega)]; exact h i (by omega) (by omega))
    exact ⟨t', by unfold mark; rw [if_neg (by rw [h0]; decide)]; exact ht⟩

/-- Two runs that have no sector in common. -/
def Apart (r s : Nat × Nat) : Prop := r.1 + r.2 ≤ s.1 ∨ s.1 + s.2 ≤ r.1
theorem Good.nat {total : Nat} {r : Int × Int} (h : Good total r) : 1 ≤ (natR r).2 ∧ (natR r).1 + (natR r).2 ≤ total := by
  unfold Good at h; unfold natR; simp only; omega
theorem takeAll_some : ∀ (l : List (Int × Int)) (total : Nat) (t t' : List Bool), t.length = total → takeAll total l t = some t' →
    (∀ r ∈ l, Good total r) ∧ (l.map natR).Pairwise Apart ∧ (∀ r ∈ l, ∀ i, (natR r).1 ≤ i → i < (natR r).1 + (natR r).2 → t.getD i false = false) ∧ t'.length = total ∧
      ∀ i, (t'.getD i false = true ↔ t.getD i false = true ∨ holdsK (l.map natR) i)
  | [], total, t, t', hl, h => by
    have e : t = t' := by simpa [takeAll] using h
    subst e
    exact ⟨by simp, by simp, by simp, hl, fun i => by simp [holdsK]⟩
  | r :: l, total, t, t', hl, h => by
    unfold takeAll at h
    split at h
    · rename_i hg
      obtain ⟨u, hu, hr⟩ := Option.bind_eq_some_iff.1 h
      have hn := hg.nat
      obtain ⟨a, b, c⟩ := mark_some _ _ _ _ (by omega) hu
      obtain ⟨d1, d2, d3, d4, d5⟩ := takeAll_some l total u t' (by omega) hr
      refine ⟨fun x hx => ?_, ?_, fun x hx i h1 h2 => ?_, d4, fun i => ?_⟩
      · rcases List.mem_cons.1 hx with rfl | hx
        · exact hg
        · exact d1 x hx
      · rw [List.map_cons, List.pairwise_cons]
        refine ⟨fun y hy => ?_, d2⟩
        obtain ⟨x, hx, rfl⟩ := List.mem_map.1 hy
        have hx1 := (d1 x hx).nat
        have hd := d3 x hx
        unfold Apart
        by_cases e : (natR r).1 + (natR r).2 ≤ (natR x).1 ∨ (natR x).1 + (natR x).2 ≤ (natR r).1
        · exact e
        · exfalso
          have h1 := hd (max (natR r).1 (natR x).1) (by omega) (by omega)
          rw [c, Bool.or_eq_false_iff] at h1
          have := h1.2
          simp at this
          omega
      · rcases List.mem_cons.1 hx with rfl | hx
        · exact a i h1 h2
        · have := d3 x hx i h1 h2
          rw [c, Bool.or_eq_false_iff] at this
          exact this.1
      · rw [d5 i, c i]
        simp only [Bool.or_eq_true, decide_eq_true_eq, holdsK, List.map_cons, List.mem_cons]
        constructor
        · rintro ((h | h) | ⟨x, hx, h1, h2⟩)
          · exact .inl h
          · exact .inr ⟨_, .inl rfl, h.1, h.2⟩
          · exact .inr ⟨x, .inr hx, h1, h2⟩
        · rintro (h | ⟨x, rfl | hx, h1, h2⟩)
          · exact .inl (.inl h)
          · exact .inl (.inr ⟨h1, h2⟩)
          · exact .inr ⟨x, hx, h1, h2⟩
    · cases h
theorem takeAll_ok : ∀ (l : List (Int × Int)) (total : Nat) (t : List Bool), t.length = total → (∀ r ∈ l, Good total r) → (l.map natR).Pairwise Apart →
    (∀ r ∈ l, ∀ i, (natR r).1 ≤ i → i < (natR r).1 + (natR r).2 → t.getD i false = false) → ∃ t', takeAll total l t = some t'
  | [], _, t, _, _, _, _ => ⟨t, rfl⟩
  | r :: l, total, t, hl, hg, hp, hf => by
    have hg0 := hg r (by simp)
    have hn := hg0.nat
    rw [List.map_cons, List.pairwise_cons] at hp
    obtain ⟨u, hu⟩ := mark_ok (natR r).2 (natR r).1 t (by omega) (hf r (by simp))
    obtain ⟨a, b, c⟩ := mark_some _ _ _ _ (by omega) hu
    obtain ⟨t', ht⟩ := takeAll_ok l total u (by omega) (fun x hx => hg x (by simp [hx])) hp.2 (fun x hx i h1 h2 => by
      rw [c, hf x (by simp [hx]) i h1 h2, Bool.false_or, decide_eq_false_iff_not]
      rcases hp.1 (natR x) (List.mem_map.2 ⟨x, hx, rfl⟩) with h | h <;> omega)
    exact ⟨t', by unfold takeAll; rw [if_pos hg0, hu]; exact ht⟩

/-- Runs in order that are apart lie one behind the other. -/
theorem sorted_of : ∀ (l : List (Nat × Nat)) (pos total : Nat), pos ≤ total → (∀ r ∈ l, pos ≤ r.1 ∧ 1 ≤ r.2 ∧ r.1 + r.2 ≤ total) → l.Pairwise (fun r s => r.1 ≤ s.1) → l.Pairwise Apart → Sorted' pos total l
  | [], _, _, hp, _, _, _ => hp
  | r :: l, pos, total, hp, hg, hs, ha => by
    obtain ⟨h1, h2, h3⟩ := hg r (by simp)
    rw [List.pairwise_cons] at hs ha
    refine ⟨h1, h2, h3, sorted_of l _ _ h3 (fun x hx => ?_) hs.2 ha.2⟩
    obtain ⟨g1, g2, g3⟩ := hg x (by simp [hx])
    have hsx := hs.1 x hx
    rcases ha.1 x hx with h | h
    · exact ⟨h, g2, g3⟩
    · omega
theorem Sorted'.low : ∀ {l : List (Nat × Nat)} {pos total : Nat}, Sorted' pos total l → ∀ x ∈ l, pos ≤ x.1 ∧ 1 ≤ x.2 ∧ x.1 + x.2 ≤ total
  | y :: l, pos, total, h, x, hx => by
    obtain ⟨h1, h2, h3, h4⟩ := h
    rcases List.mem_cons.1 hx with rfl | hx
    · exact ⟨h1, h2, h3⟩
    · have := Sorted'.low h4 x hx; omega
theorem Sorted'.apart : ∀ {l : List (Nat × Nat)} {pos total : Nat}, Sorted' pos total l → l.Pairwise Apart
  | [], _, _, _ => List.Pairwise.nil
  | y :: l, pos, total, h => by
    obtain ⟨h1, h2, h3, h4⟩ := h
    rw [List.pairwise_cons]
    exact ⟨fun x hx => .inl (h4.low x hx).1, h4.apart⟩
theorem Apart.symm {r s : Nat × Nat} (h : Apart r s) : Apart s r := h.elim .inr .inl

/-- Runs taken one by one, and the same runs in order: they are right together, and take the same sectors. -/
theorem take_sorted (used : List (Int × Int)) (total : Nat) (l : List (Nat × Nat)) (hl : l.Perm (used.map natR)) (hs : l.Pairwise (fun r s => r.1 ≤ s.1)) (hg : ∀ r ∈ used, Good total r) :
    (Sorted' 0 total l → takeAll total used (List.replicate total false) = some (rowOf 0 total l)) ∧ (¬Sorted' 0 total l → takeAll total used (List.replicate total false) = none) := by
  have hz : ∀ i, (List.replicate total false).getD i false = false := fun i => by
    simp only [List.getD, List.getElem?_replicate]; split <;> rfl
  constructor
  · intro h
    have hp : (used.map natR).Pairwise Apart := (hl.pairwise_iff (fun h => h.symm)).1 h.apart
    obtain ⟨t', ht⟩ := takeAll_ok used total (List.replicate total false) (by simp) hg hp (fun r _ i _ _ => hz i)
    obtain ⟨_, _, _, e4, e5⟩ := takeAll_some used total _ t' (by simp) ht
    rw [ht]
    congr 1
    apply List.ext_getElem?
    intro i
    by_cases hi : i < total
    · have h1 := e5 i
      rw [hz i] at h1
      have h2 := rowOf_get l 0 total h i (Nat.zero_le _) hi
      rw [Nat.sub_zero] at h2
      have hk : holdsK (used.map natR) i ↔ holdsK l i := ⟨fun ⟨r, hr, hx⟩ => ⟨r, hl.mem_iff.2 hr, hx⟩, fun ⟨r, hr, hx⟩ => ⟨r, hl.mem_iff.1 hr, hx⟩⟩
      have hlen := rowOf_length l 0 total h
      obtain ⟨b, hb⟩ : ∃ b, t'[i]? = some b := ⟨t'[i]'(by omega), List.getElem?_eq_getElem (by omega)⟩
      obtain ⟨c, hc⟩ : ∃ c, (rowOf 0 total l)[i]? = some c := ⟨(rowOf 0 total l)[i]'(by omega), List.getElem?_eq_getElem (by omega)⟩
      simp only [List.getD, hb, Option.getD_some] at h1
      rw [hc] at h2
      rw [hb, hc]
      congr 1
      have h3 : b = true ↔ c = true := by
        rw [h1, hk]; simp at h2 ⊢; exact h2.symm
      cases b <;> cases c <;> first | rfl | exact absurd (h3.1 rfl) (by decide) | exact absurd (h3.2 rfl) (by decide)
    · rw [List.getElem?_eq_none (by omega), List.getElem?_eq_none (by rw [rowOf_length l 0 total h]; omega)]
  · intro h
    cases ht : takeAll total used (List.replicate total false) with
    | none => rfl
    | some t' =>
      obtain ⟨e1, e2, _, _, _⟩ := takeAll_some used total _ t' (by simp) ht
      exact absurd (sorted_of l 0 total (Nat.zero_le _) (fun r hr => by
        obtain ⟨x, hx, rfl⟩ := List.mem_map.1 (hl.mem_iff.1 hr)
        have := (e1 x hx).nat; omega) hs ((hl.pairwise_iff (fun h => h.symm)).2 e2)) h

end Go.Proofs.Pk
