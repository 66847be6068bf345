/- Mathematics of layer 9 (skip): sorted entries. No program. -/
namespace Go.Proofs.Pk
set_option maxRecDepth 10000

abbrev Txt := List UInt8
/-- A key, its value, the height of its tower. -/
abbrev Ent := Txt × Txt × Nat
/-- Where a key stands, or would stand. -/
def atE : List Ent → Txt → Nat
  | [], _ => 0
  | e :: E, k => if e.1 < k then atE E k + 1 else 0
def hasE (E : List Ent) (k : Txt) : Bool := match E[atE E k]? with | some e => e.1 == k | none => false
def clampH (h : Int) : Nat := (min (max h 1) 12).toNat
def setV (E : List Ent) (i : Nat) (v : Txt) : List Ent := match E[i]? with | some e => E.set i (e.1, v, e.2.2) | none => E
def putE (E : List Ent) (k v : Txt) (h : Int) : List Ent := if hasE E k = true then setV E (atE E k) v else E.take (atE E k) ++ (k, v, clampH h) :: E.drop (atE E k)
def getE (E : List Ent) (k : Txt) : Txt × Bool := match E[atE E k]? with | some e => if e.1 = k then (e.2.1, true) else ([], false) | none => ([], false)
def seekE (E : List Ent) (k : Txt) : Txt × Txt × Bool := match E[atE E k]? with | some e => (e.1, e.2.1, true) | none => ([], [], false)
def heightE (E : List Ent) (k : Txt) : Nat := match E[atE E k]? with | some e => if e.1 = k then e.2.2 else 0 | none => 0
def laneE (E : List Ent) (h : Int) : List Txt := (E.filter fun e => decide (h < (e.2.2 : Int))).map (·.1)
/-- Keys rising; towers of 1 to 12. -/
structure SkOk (E : List Ent) : Prop where
  up : E.Pairwise fun a b => a.1 < b.1
  tall : ∀ e ∈ E, 1 ≤ e.2.2 ∧ e.2.2 ≤ 12

theorem clampH_in (h : Int) : 1 ≤ clampH h ∧ clampH h ≤ 12 := by unfold clampH; omega
theorem atE_le (k : Txt) : ∀ E : List Ent, atE E k ≤ E.length
  | [] => Nat.le_refl _
  | e :: E => by rw [atE]; split; have := atE_le k E; simp only [List.length_cons]; omega; omega
theorem atE_before (k : Txt) : ∀ (E : List Ent) (i : Nat) (_ : i < atE E k) (h : i < E.length), (E[i]).1 < k
  | e :: E, i, hi, h => by
    rw [atE] at hi
    split at hi
    · rename_i hlt
      cases i with
      | zero => exact hlt
      | succ i => exact atE_before k E i (by omega) (by simpa using h)
    · omega
theorem atE_at (k : Txt) : ∀ (E : List Ent) (h : atE E k < E.length), ¬(E[atE E k]).1 < k
  | [], h => by simp [atE] at h
  | e :: E, h => by
    by_cases hlt : e.1 < k
    · have hat : atE (e :: E) k = atE E k + 1 := by rw [atE, if_pos hlt]
      simp only [hat, List.getElem_cons_succ]
      exact atE_at k E (by rw [hat] at h; simpa using h)
    · have hat : atE (e :: E) k = 0 := by rw [atE, if_neg hlt]
      simp only [hat, List.getElem_cons_zero]
      exact hlt
/-- The place is the one that parts the lesser keys from the others. -/
theorem atE_unique {E : List Ent} {k : Txt} {i : Nat} (hi : i ≤ E.length) (hb : ∀ j (_ : j < i) (h : j < E.length), (E[j]).1 < k) (ha : ∀ h : i < E.length, ¬(E[i]).1 < k) : atE E k = i := by
  rcases Nat.lt_trichotomy (atE E k) i with h | h | h
  · exact absurd (hb _ h (by omega)) (atE_at k E (by omega))
  · exact h
  · exact absurd (atE_before k E i h (by have := atE_le k E; omega)) (ha (by have := atE_le k E; omega))
theorem atE_keys : ∀ {E F : List Ent} (k : Txt), E.map (·.1) = F.map (·.1) → atE E k = atE F k
  | [], [], _, _ => rfl
  | [], _ :: _, _, h => by simp at h
  | _ :: _, [], _, h => by simp at h
  | e :: E, f :: F, k, h => by
    simp only [List.map_cons, List.cons.injEq] at h
    rw [atE, atE, h.1, atE_keys k h.2]
theorem lt_or_eq {a b : Txt} (h : ¬a < b) : b < a ∨ a = b := by
  by_cases h2 : b < a
  · exact .inl h2
  · exact .inr (List.le_antisymm (List.not_lt.1 h2) (List.not_lt.1 h))
theorem SkOk.lt {E : List Ent} (h : SkOk E) {i j : Nat} (hij : i < j) (hj : j < E.length) : (E[i]).1 < (E[j]).1 := by
  have := List.pairwise_iff_getElem.1 h.up
  exact this i j (by omega) hj hij
/-- A key that is there stands where it is sought. -/
theorem SkOk.at {E : List Ent} (h : SkOk E) (i : Nat) (hi : i < E.length) : atE E (E[i]).1 = i :=
  atE_unique (by omega) (fun _ hj _ => h.lt hj hi) (fun _ => List.lt_irrefl _)
theorem hasE_iff {E : List Ent} {k : Txt} : hasE E k = true ↔ ∃ e, E[atE E k]? = some e ∧ e.1 = k := by
  unfold hasE
  cases he : E[atE E k]? with
  | none => simp
  | some e => simp
theorem SkOk.has {E : List Ent} (h : SkOk E) (k : Txt) : hasE E k = true ↔ k ∈ E.map (·.1) := by
  rw [hasE_iff]
  constructor
  · rintro ⟨e, he, rfl⟩
    exact List.mem_map_of_mem (List.mem_of_getElem? he)
  · intro hm
    obtain ⟨e, he, rfl⟩ := List.mem_map.1 hm
    obtain ⟨i, hi, rfl⟩ := List.getElem_of_mem he
    exact ⟨E[i], by rw [h.at i hi]; exact List.getElem?_eq_getElem hi, rfl⟩
theorem setV_keys (E : List Ent) (i : Nat) (v : Txt) : (setV E i v).map (·.1) = E.map (·.1) := by
  unfold setV
  cases he : E[i]? with
  | none => rfl
  | some e =>
    obtain ⟨hi, rfl⟩ := List.getElem?_eq_some_iff.1 he
    apply List.ext_getElem
    · simp
    · intro j h1 h2
      simp only [List.getElem_map, List.getElem_set]
      split <;> simp_all
theorem setV_length (E : List Ent) (i : Nat) (v : Txt) : (setV E i v).length = E.length := by
  have := congrArg List.length (setV_keys E i v)
  simpa using this
theorem pairwise_keys {E F : List Ent} (h : E.map (·.1) = F.map (·.1)) (hE : E.Pairwise fun a b => a.1 < b.1) : F.Pairwise fun a b => a.1 < b.1 := by
  have h1 : (E.map (·.1)).Pairwise (· < ·) := List.pairwise_map.2 hE
  rw [h] at h1
  exact List.pairwise_map.1 h1
theorem SkOk.put {E : List Ent} (h : SkOk E) (k v : Txt) (ht : Int) : SkOk (putE E k v ht) := by
  unfold putE
  split
  · refine ⟨pairwise_keys (setV_keys E _ v).symm h.up, ?_⟩
    unfold setV
    cases he : E[atE E k]? with
    | none => exact h.tall
    | some e =>
      intro x hx
      rcases List.mem_or_eq_of_mem_set hx with h1 | h1
      · exact h.tall x h1
      · rw [h1]; exact h.tall e (List.mem_of_getElem? he)
  · rename_i hno
    have hle := atE_le k E
    refine ⟨?_, ?_⟩
    · rw [List.pairwise_append]
      have hbef : ∀ e ∈ E.take (atE E k), e.1 < k := fun e he => by
        obtain ⟨i, hi, rfl⟩ := List.getElem_of_mem he
        rw [List.getElem_take]
        rw [List.length_take] at hi
        exact atE_before k E i (by omega) (by omega)
      have haft : ∀ e ∈ E.drop (atE E k), k < e.1 := fun e he => by
        obtain ⟨i, hi, rfl⟩ := List.getElem_of_mem he
        rw [List.getElem_drop]
        rw [List.length_drop] at hi
        have h0 : k < (E[atE E k]'(by omega)).1 := by
          rcases lt_or_eq (atE_at k E (by omega)) with h1 | h1
          · exact h1
          · exact absurd (hasE_iff.2 ⟨_, List.getElem?_eq_getElem (by omega), h1⟩) hno
        rcases Nat.eq_zero_or_pos i with rfl | hi0
        · exact h0
        · exact List.lt_trans h0 (h.lt (by omega) (by omega))
      refine ⟨h.up.sublist (List.take_sublist _ _), List.pairwise_cons.2 ⟨haft, h.up.sublist (List.drop_sublist _ _)⟩, ?_⟩
      intro a ha b hb
      rcases List.mem_cons.1 hb with rfl | hb
      · exact hbef a ha
      · exact List.lt_trans (hbef a ha) (haft b hb)
    · intro e he
      rcases List.mem_append.1 he with he | he
      · exact h.tall e (List.mem_of_mem_take he)
      · rcases List.mem_cons.1 he with rfl | he
        · exact clampH_in ht
        · exact h.tall e (List.mem_of_mem_drop he)
theorem putE_length (E : List Ent) (k v : Txt) (ht : Int) : (putE E k v ht).length = if hasE E k = true then E.length else E.length + 1 := by
  unfold putE
  have := atE_le k E
  split
  · rw [setV_length]
  · simp; omega
/-- What Get gives: what stands with that key. -/
theorem SkOk.get {E : List Ent} (h : SkOk E) (i : Nat) (hi : i < E.length) : getE E (E[i]).1 = ((E[i]).2.1, true) := by
  unfold getE
  rw [h.at i hi, List.getElem?_eq_getElem hi]
  simp
theorem SkOk.get_none {E : List Ent} (h : SkOk E) (k : Txt) (hk : k ∉ E.map (·.1)) : getE E k = ([], false) := by
  have hn : ¬hasE E k = true := fun hh => hk ((h.has k).1 hh)
  unfold getE
  cases he : E[atE E k]? with
  | none => rfl
  | some e =>
    simp only
    rw [if_neg (fun h1 => hn (hasE_iff.2 ⟨e, he, h1⟩))]
theorem SkOk.get_mem {E : List Ent} (h : SkOk E) {e : Ent} (he : e ∈ E) : getE E e.1 = (e.2.1, true) := by
  obtain ⟨i, hi, rfl⟩ := List.getElem_of_mem he
  exact h.get i hi
theorem setV_mem {E : List Ent} {i : Nat} {e : Ent} (he : E[i]? = some e) (v : Txt) : (e.1, v, e.2.2) ∈ setV E i v := by
  obtain ⟨hi, rfl⟩ := List.getElem?_eq_some_iff.1 he
  unfold setV
  rw [he]
  exact List.mem_iff_getElem.2 ⟨i, by simpa using hi, by simp⟩
theorem setV_other {E : List Ent} {i : Nat} {e x : Ent} (he : E[i]? = some e) (v : Txt) (hx : x ∈ E) (hne : x.1 ≠ e.1) : x ∈ setV E i v := by
  obtain ⟨hi, rfl⟩ := List.getElem?_eq_some_iff.1 he
  obtain ⟨j, hj, rfl⟩ := List.getElem_of_mem hx
  unfold setV
  rw [he]
  refine List.mem_iff_getElem.2 ⟨j, by simpa using hj, ?_⟩
  simp only [List.getElem_set]
  rw [if_neg (fun hij => hne (by subst hij; rfl))]
/-- Behind a put: the key has the value, all others have theirs. -/
theorem SkOk.get_put {E : List Ent} (h : SkOk E) (k v : Txt) (ht : Int) (k' : Txt) : getE (putE E k v ht) k' = if k' = k then (v, true) else getE E k' := by
  have hp := h.put k v ht
  by_cases hh : hasE E k = true
  · obtain ⟨e, he, rfl⟩ := hasE_iff.1 hh
    have hpe : putE E e.1 v ht = setV E (atE E e.1) v := by unfold putE; rw [if_pos hh]
    split
    · rename_i hk
      subst hk
      rw [hpe] at hp ⊢
      exact hp.get_mem (setV_mem he v)
    · rename_i hk
      by_cases hm : k' ∈ E.map (·.1)
      · obtain ⟨x, hx, rfl⟩ := List.mem_map.1 hm
        rw [h.get_mem hx]
        rw [hpe] at hp ⊢
        exact hp.get_mem (setV_other he v hx hk)
      · rw [h.get_none k' hm, hp.get_none k' (by rw [hpe, setV_keys]; exact hm)]
  · have hpe : putE E k v ht = E.take (atE E k) ++ (k, v, clampH ht) :: E.drop (atE E k) := by unfold putE; rw [if_neg hh]
    split
    · rename_i hk
      subst hk
      have := hp.get_mem (e := (k', v, clampH ht)) (by rw [hpe]; simp)
      exact this
    · rename_i hk
      have hmem : ∀ x : Ent, x ∈ E → x ∈ putE E k v ht := fun x hx => by
        rw [hpe]
        rw [← List.take_append_drop (atE E k) E, List.mem_append] at hx
        rcases hx with hx | hx
        · exact List.mem_append.2 (.inl hx)
        · exact List.mem_append.2 (.inr (List.mem_cons_of_mem _ hx))
      by_cases hm : k' ∈ E.map (·.1)
      · obtain ⟨x, hx, rfl⟩ := List.mem_map.1 hm
        rw [h.get_mem hx, hp.get_mem (hmem x hx)]
      · rw [h.get_none k' hm]
        refine hp.get_none k' (fun hm2 => ?_)
        obtain ⟨x, hx, rfl⟩ := List.mem_map.1 hm2
        rw [hpe, List.mem_append, List.mem_cons] at hx
        rcases hx with hx | rfl | hx
        · exact hm (List.mem_map_of_mem (List.mem_of_mem_take hx))
        · exact hk rfl
        · exact hm (List.mem_map_of_mem (List.mem_of_mem_drop hx))
theorem SkOk.nil : SkOk [] := ⟨List.Pairwise.nil, fun e he => by simp at he⟩

/-- Lanes. -/
theorem SkOk.lane0 {E : List Ent} (h : SkOk E) (hh : Int) (h0 : hh ≤ 0) : laneE E hh = E.map (·.1) := by
  unfold laneE
  rw [List.filter_eq_self.2]
  intro e he
  have := (h.tall e he).1
  simp; omega
theorem SkOk.lane12 {E : List Ent} (h : SkOk E) (hh : Int) (h12 : 12 ≤ hh) : laneE E hh = [] := by
  unfold laneE
  rw [List.filter_eq_nil_iff.2]
  · rfl
  · intro e he
    have := (h.tall e he).2
    simp; omega
theorem laneE_sub (E : List Ent) (h : Int) : (laneE E (h + 1)).Sublist (laneE E h) := by
  unfold laneE
  refine List.Sublist.map _ ?_
  rw [show (fun e : Ent => decide (h + 1 < (e.2.2 : Int))) = fun e => decide (h + 1 < (e.2.2 : Int)) && decide (h < (e.2.2 : Int)) from by
    funext e
    by_cases h1 : h + 1 < (e.2.2 : Int)
    · simp [h1]; omega
    · simp [h1]]
  rw [← List.filter_filter]
  exact List.filter_sublist
theorem SkOk.lane_up {E : List Ent} (h : SkOk E) (hh : Int) : (laneE E hh).Pairwise (· < ·) := by
  unfold laneE
  exact List.pairwise_map.2 (h.up.sublist List.filter_sublist)
theorem SkOk.height {E : List Ent} (h : SkOk E) {e : Ent} (he : e ∈ E) : heightE E e.1 = e.2.2 := by
  obtain ⟨i, hi, rfl⟩ := List.getElem_of_mem he
  unfold heightE
  rw [h.at i hi, List.getElem?_eq_getElem hi]
  simp
theorem SkOk.lane_height {E : List Ent} (h : SkOk E) (hh : Int) (k : Txt) (hk : k ∈ laneE E hh) : hh < (heightE E k : Int) := by
  unfold laneE at hk
  obtain ⟨e, he, rfl⟩ := List.mem_map.1 hk
  obtain ⟨he, hlt⟩ := List.mem_filter.1 he
  rw [h.height he]
  simpa using hlt

/-- Seek from behind a key on. -/
theorem lt_snoc (k : Txt) : k < k ++ [0] := by
  induction k with
  | nil => exact List.Lex.nil
  | cons a k ih => exact List.Lex.cons ih
theorem snoc_least : ∀ {k x : Txt}, k < x → ¬x < k ++ [0]
  | [], [], h => absurd h (List.lt_irrefl _)
  | [], b :: x, _ => fun h => by
    cases h with
    | rel h1 => simp at h1
    | cons h1 => cases h1
  | a :: k, [], h => absurd h (by intro h; cases h)
  | a :: k, b :: x, h => fun h2 => by
    cases h with
    | rel h1 =>
      cases h2 with
      | rel h3 => exact absurd (UInt8.lt_trans h1 h3) (UInt8.lt_irrefl _)
      | cons h3 => exact absurd h1 (UInt8.lt_irrefl _)
    | cons h1 =>
      cases h2 with
      | rel h3 => exact absurd h3 (UInt8.lt_irrefl _)
      | cons h3 => exact snoc_least h1 h3
theorem SkOk.seek_next {E : List Ent} (h : SkOk E) (i : Nat) (hi : i < E.length) : atE E ((E[i]).1 ++ [0]) = i + 1 :=
  atE_unique (by omega) (fun j hj hjl => by
    rcases Nat.lt_or_ge j i with h1 | h1
    · exact List.lt_trans (h.lt h1 hi) (lt_snoc _)
    · obtain rfl : j = i := by omega
      exact lt_snoc _) (fun h1 => snoc_least (h.lt (Nat.lt_succ_self i) h1))
theorem not_lt_nil (x : Txt) : ¬x < [] := by intro h; cases h
theorem atE_nil (E : List Ent) : atE E [] = 0 := by
  cases E with
  | nil => rfl
  | cons e E => rw [atE, if_neg (not_lt_nil _)]

/-- Two lists of the same keys and values, whatever their towers. -/
def kvE (E : List Ent) : List (Txt × Txt) := E.map fun e => (e.1, e.2.1)
theorem kv_keys {E F : List Ent} (h : kvE E = kvE F) : E.map (·.1) = F.map (·.1) := by
  have := congrArg (List.map (·.1)) h
  simpa [kvE, List.map_map, Function.comp_def] using this
theorem kv_get {E F : List Ent} (h : kvE E = kvE F) (i : Nat) : (E[i]?).map (fun e => (e.1, e.2.1)) = (F[i]?).map (fun e => (e.1, e.2.1)) := by
  have := congrArg (fun l => l[i]?) h
  simpa [kvE] using this
theorem kv_has {E F : List Ent} (h : kvE E = kvE F) (k : Txt) : hasE E k = hasE F k := by
  have hi := kv_get h (atE E k)
  unfold hasE
  rw [← atE_keys k (kv_keys h)]
  cases he : E[atE E k]? <;> cases hf : F[atE E k]? <;> rw [he, hf] at hi <;> simp at hi ⊢
  rw [hi.1]
theorem kv_getE {E F : List Ent} (h : kvE E = kvE F) (k : Txt) : getE E k = getE F k := by
  have hi := kv_get h (atE E k)
  unfold getE
  rw [← atE_keys k (kv_keys h)]
  cases he : E[atE E k]? <;> cases hf : F[atE E k]? <;> rw [he, hf] at hi <;> simp at hi ⊢
  rw [hi.1, hi.2]
theorem kv_seek {E F : List Ent} (h : kvE E = kvE F) (k : Txt) : seekE E k = seekE F k := by
  have hi := kv_get h (atE E k)
  unfold seekE
  rw [← atE_keys k (kv_keys h)]
  cases he : E[atE E k]? <;> cases hf : F[atE E k]? <;> rw [he, hf] at hi <;> simp at hi ⊢
  exact hi
theorem setV_kv {E : List Ent} {i : Nat} (hi : i < E.length) (v : Txt) : kvE (setV E i v) = (kvE E).set i ((E[i]).1, v) := by
  unfold setV kvE
  rw [List.getElem?_eq_getElem hi]
  simp [List.map_set]
theorem kv_put {E F : List Ent} (h : kvE E = kvE F) (k v : Txt) (a b : Int) : kvE (putE E k v a) = kvE (putE F k v b) := by
  have hl : E.length = F.length := by have := congrArg List.length h; simpa [kvE] using this
  have ha := atE_keys k (kv_keys h)
  unfold putE
  rw [kv_has h k, ← ha]
  split
  · rename_i hh
    obtain ⟨f, hf, hfk⟩ := hasE_iff.1 hh
    rw [← ha] at hf
    have hi : atE E k < F.length := (List.getElem?_eq_some_iff.1 hf).1
    have hg := kv_get h (atE E k)
    rw [List.getElem?_eq_getElem (by omega : atE E k < E.length), List.getElem?_eq_getElem hi] at hg
    simp only [Option.map_some, Option.some.injEq, Prod.mk.injEq] at hg
    rw [setV_kv (by omega), setV_kv hi, h, hg.1]
  · unfold kvE at *
    simp only [List.map_append, List.map_cons, List.map_take, List.map_drop, h]

theorem has_lt {E : List Ent} {k : Txt} (h : hasE E k = true) : ∃ hi : atE E k < E.length, (E[atE E k]).1 = k := by
  obtain ⟨e, he, h1⟩ := hasE_iff.1 h
  obtain ⟨hi, h2⟩ := List.getElem?_eq_some_iff.1 he
  exact ⟨hi, by rw [h2]; exact h1⟩
end Go.Proofs.Pk
