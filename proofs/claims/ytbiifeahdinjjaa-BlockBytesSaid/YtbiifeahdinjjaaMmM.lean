/- Mathematics of layer 10 (mem): versions of keys, ordered. No program. -/
import Derived.Test.YtbiifeahdinjjaaSkM
namespace Go.Proofs.Pk
set_option maxRecDepth 10000

/-- An entry: key, number, whether it drops, value. -/
abbrev MEnt := Txt × Int × Bool × Txt
def rightM (e : MEnt) : Bool := decide (e.1 ≠ [] ∧ e.1.length ≤ 80 ∧ e.2.2.2.length ≤ 300 ∧ 1 ≤ e.2.1 ∧ e.2.1 ≤ 9007199254740991 ∧ (e.2.2.1 = true → e.2.2.2 = []))
def befM (a b : MEnt) : Bool := if a.1 = b.1 then decide (b.2.1 < a.2.1) else decide (a.1 < b.1)
def sameM (a b : MEnt) : Bool := a.1 == b.1 && a.2.1 == b.2.1
def atM : List MEnt → MEnt → Nat
  | [], _ => 0
  | x :: T, e => if befM x e = true then atM T e + 1 else 0
def hasM (T : List MEnt) (e : MEnt) : Bool := match T[atM T e]? with | some x => sameM x e | none => false
/-- The error's number of a Put. -/
def putC (T : List MEnt) (e : MEnt) : Nat := if rightM e = true then (if hasM T e = true then 9 else 0) else 1
def insM (T : List MEnt) (e : MEnt) : List MEnt := T.take (atM T e) ++ e :: T.drop (atM T e)
def putM (T : List MEnt) (e : MEnt) : List MEnt := if putC T e = 0 then insM T e else T
def findM (T : List MEnt) (k : Txt) (s : Int) : Option MEnt := T.find? fun x => x.1 == k && decide (x.2.1 ≤ s)
def zeroM : MEnt := ([], 0, false, [])
def getM (T : List MEnt) (k : Txt) (s : Int) : MEnt × Bool := match findM T k s with | some x => (x, true) | none => (zeroM, false)
def sizeM : List MEnt → Nat
  | [] => 0
  | e :: T => e.1.length + e.2.2.2.length + 16 + sizeM T
structure MmOk (T : List MEnt) : Prop where
  up : T.Pairwise fun a b => befM a b = true
  right : ∀ e ∈ T, rightM e = true

theorem bef_irr (a : MEnt) : befM a a = false := by unfold befM; simp
theorem same_iff {a b : MEnt} : sameM a b = true ↔ a.1 = b.1 ∧ a.2.1 = b.2.1 := by unfold sameM; simp
theorem bef_trans {a b c : MEnt} (h : befM a b = true) (k : befM b c = true) : befM a c = true := by
  unfold befM at *
  by_cases h1 : a.1 = b.1
  · rw [if_pos h1] at h
    by_cases h2 : b.1 = c.1
    · rw [if_pos h2] at k
      rw [if_pos (h1.trans h2)]
      simp only [decide_eq_true_eq] at *; omega
    · rw [if_neg h2] at k
      rw [if_neg (fun e => h2 (h1.symm.trans e))]
      rw [h1]; exact k
  · rw [if_neg h1] at h
    by_cases h2 : b.1 = c.1
    · rw [← h2, if_neg h1]; exact h
    · rw [if_neg h2] at k
      have h3 : a.1 < c.1 := List.lt_trans (by simpa using h) (by simpa using k)
      rw [if_neg (fun e => by rw [e] at h3; exact List.lt_irrefl _ h3)]
      simpa using h3
theorem bef_not {a b : MEnt} (h : ¬befM a b = true) (hs : ¬sameM a b = true) : befM b a = true := by
  unfold befM at *
  rw [same_iff] at hs
  by_cases h1 : a.1 = b.1
  · rw [if_pos h1] at h
    rw [if_pos h1.symm]
    have h2 : ¬a.2.1 = b.2.1 := fun e => hs ⟨h1, e⟩
    simp only [decide_eq_true_eq] at *; omega
  · rw [if_neg h1] at h
    rw [if_neg (fun e => h1 e.symm)]
    have h2 : ¬a.1 < b.1 := by simpa using h
    rcases lt_or_eq h2 with h3 | h3
    · simpa using h3
    · exact absurd h3 h1
theorem bef_anti {a b : MEnt} (h : befM a b = true) : befM b a = false := by
  cases e : befM b a with
  | false => rfl
  | true => have := bef_trans h e; rw [bef_irr] at this; cases this
theorem bef_same {a b : MEnt} (hs : sameM a b = true) (c : MEnt) : befM c a = befM c b := by
  obtain ⟨h1, h2⟩ := same_iff.1 hs
  unfold befM; rw [h1, h2]
theorem same_not_bef {a b : MEnt} (hs : sameM a b = true) : befM a b = false := by rw [← bef_same hs]; exact bef_irr a
theorem atM_le (e : MEnt) : ∀ T : List MEnt, atM T e ≤ T.length
  | [] => Nat.le_refl _
  | x :: T => by
    rw [atM]
    split
    · have := atM_le e T; simp; omega
    · exact Nat.zero_le _
theorem atM_before (e : MEnt) : ∀ (T : List MEnt) (i : Nat) (_ : i < atM T e) (h : i < T.length), befM T[i] e = true
  | x :: T, i, hi, h => by
    rw [atM] at hi
    split at hi
    · rename_i hx
      cases i with
      | zero => exact hx
      | succ i => simpa using atM_before e T i (by omega) (by simpa using h)
    · omega
theorem atM_at (e : MEnt) : ∀ (T : List MEnt) (h : atM T e < T.length), ¬befM T[atM T e] e = true
  | [], h => by simp at h
  | x :: T, h => by
    by_cases hx : befM x e = true
    · have e1 : atM (x :: T) e = atM T e + 1 := by rw [atM, if_pos hx]
      have h2 : atM T e < T.length := by rw [e1] at h; simpa using h
      have := atM_at e T h2
      simpa [e1] using this
    · have e1 : atM (x :: T) e = 0 := by rw [atM, if_neg hx]
      simpa [e1] using hx
theorem MmOk.bef {T : List MEnt} (h : MmOk T) {i j : Nat} (hij : i < j) (hj : j < T.length) : befM T[i] T[j] = true := List.pairwise_iff_getElem.1 h.up i j (by omega) hj hij
theorem MmOk.nil : MmOk [] := ⟨List.Pairwise.nil, fun e he => by simp at he⟩
theorem hasM_get {T : List MEnt} {e : MEnt} (h : hasM T e = true) : ∃ hi : atM T e < T.length, sameM T[atM T e] e = true := by
  unfold hasM at h
  cases hg : T[atM T e]? with
  | none => rw [hg] at h; cases h
  | some x =>
    rw [hg] at h
    obtain ⟨hi, rfl⟩ := List.getElem?_eq_some_iff.1 hg
    exact ⟨hi, h⟩
theorem MmOk.has {T : List MEnt} (h : MmOk T) (e : MEnt) : hasM T e = true ↔ ∃ x ∈ T, sameM x e = true := by
  constructor
  · intro hh
    obtain ⟨hi, h1⟩ := hasM_get hh
    exact ⟨_, List.getElem_mem hi, h1⟩
  · rintro ⟨x, hx, hs⟩
    obtain ⟨i, hi, rfl⟩ := List.getElem_of_mem hx
    have hia : i = atM T e := by
      rcases Nat.lt_trichotomy i (atM T e) with h1 | h1 | h1
      · have := atM_before e T i h1 hi
        rw [same_not_bef hs] at this; cases this
      · exact h1
      · exfalso
        have h2 := atM_at e T (by omega)
        have h3 := h.bef h1 hi
        rw [bef_same hs] at h3
        exact h2 h3
    subst hia
    unfold hasM
    rw [List.getElem?_eq_getElem hi]; exact hs
theorem putC_zero {T : List MEnt} {e : MEnt} : putC T e = 0 ↔ rightM e = true ∧ hasM T e = false := by
  unfold putC
  by_cases h1 : rightM e = true
  · rw [if_pos h1]
    cases h2 : hasM T e <;> simp [h1]
  · rw [if_neg h1]; simp [h1]
theorem mem_ins {T : List MEnt} {e x : MEnt} : x ∈ insM T e ↔ x = e ∨ x ∈ T := by
  unfold insM
  rw [List.mem_append, List.mem_cons]
  constructor
  · rintro (h | rfl | h)
    · exact .inr (List.mem_of_mem_take h)
    · exact .inl rfl
    · exact .inr (List.mem_of_mem_drop h)
  · rintro (rfl | h)
    · exact .inr (.inl rfl)
    · rw [← List.take_append_drop (atM T e) T] at h
      rcases List.mem_append.1 h with h | h
      · exact .inl h
      · exact .inr (.inr h)
theorem ins_length (T : List MEnt) (e : MEnt) : (insM T e).length = T.length + 1 := by
  have := atM_le e T
  unfold insM; simp; omega
theorem MmOk.ins {T : List MEnt} (h : MmOk T) {e : MEnt} (hc : putC T e = 0) : MmOk (insM T e) := by
  obtain ⟨hr, hn⟩ := putC_zero.1 hc
  refine ⟨?_, fun x hx => ?_⟩
  · unfold insM
    have hle := atM_le e T
    rw [List.pairwise_append]
    have hafter : ∀ x ∈ T.drop (atM T e), befM e x = true := by
      intro x hx
      obtain ⟨i, hi, rfl⟩ := List.getElem_of_mem hx
      rw [List.getElem_drop]
      rw [List.length_drop] at hi
      have hl : atM T e < T.length := by omega
      have h1 : befM e T[atM T e] = true := bef_not (atM_at e T hl) (fun hs => by
        have : hasM T e = true := by unfold hasM; rw [List.getElem?_eq_getElem hl]; exact hs
        rw [hn] at this; cases this)
      cases i with
      | zero => exact h1
      | succ i => exact bef_trans h1 (h.bef (by omega) (by omega))
    refine ⟨h.up.sublist (List.take_sublist _ _), List.pairwise_cons.2 ⟨hafter, h.up.sublist (List.drop_sublist _ _)⟩, ?_⟩
    intro a ha b hb
    obtain ⟨i, hi, rfl⟩ := List.getElem_of_mem ha
    rw [List.getElem_take]
    rw [List.length_take] at hi
    have h1 := atM_before e T i (by omega) (by omega)
    rcases List.mem_cons.1 hb with rfl | hb
    · exact h1
    · exact bef_trans h1 (hafter b hb)
  · rcases mem_ins.1 hx with rfl | hx
    · exact hr
    · exact h.right x hx
theorem MmOk.put {T : List MEnt} (h : MmOk T) (e : MEnt) : MmOk (putM T e) := by
  unfold putM
  split
  · rename_i hc; exact h.ins hc
  · exact h
theorem mem_put {T : List MEnt} {e x : MEnt} : x ∈ putM T e ↔ (putC T e = 0 ∧ x = e) ∨ x ∈ T := by
  unfold putM
  split
  · rename_i hc
    rw [mem_ins]; simp [hc]
  · rename_i hc; simp [hc]
theorem put_length (T : List MEnt) (e : MEnt) : (putM T e).length = if putC T e = 0 then T.length + 1 else T.length := by
  unfold putM; split
  · exact ins_length T e
  · rfl
theorem sizeM_append (A C : List MEnt) : sizeM (A ++ C) = sizeM A + sizeM C := by
  induction A with
  | nil => simp [sizeM]
  | cons a A ih => show a.1.length + a.2.2.2.length + 16 + sizeM (A ++ C) = _; rw [ih]; simp only [sizeM]; omega
theorem size_ins (T : List MEnt) (e : MEnt) : sizeM (insM T e) = sizeM T + (e.1.length + e.2.2.2.length + 16) := by
  unfold insM
  have := congrArg sizeM (List.take_append_drop (atM T e) T)
  rw [sizeM_append] at this ⊢
  simp only [sizeM]; omega
theorem size_put (T : List MEnt) (e : MEnt) : sizeM (putM T e) = if putC T e = 0 then sizeM T + (e.1.length + e.2.2.2.length + 16) else sizeM T := by
  unfold putM; split
  · exact size_ins T e
  · rfl
theorem size_bound {T : List MEnt} (h : MmOk T) : sizeM T ≤ 396 * T.length := by
  have hr := h.right
  clear h
  induction T with
  | nil => simp [sizeM]
  | cons e T ih =>
    have h1 := hr e (by simp)
    have h2 := ih (fun x hx => hr x (by simp [hx]))
    unfold rightM at h1
    simp only [decide_eq_true_eq] at h1
    simp only [sizeM, List.length_cons]; omega

/-- What Find finds: the greatest number that is not above, of that key. -/
theorem find_some {T : List MEnt} (h : MmOk T) {k : Txt} {s : Int} {x : MEnt} (hf : findM T k s = some x) : x ∈ T ∧ x.1 = k ∧ x.2.1 ≤ s ∧ ∀ y ∈ T, y.1 = k → y.2.1 ≤ s → y.2.1 ≤ x.2.1 := by
  unfold findM at hf
  rw [List.find?_eq_some_iff_getElem] at hf
  obtain ⟨hx, i, hi, rfl, hb⟩ := hf
  simp only [Bool.and_eq_true, beq_iff_eq, decide_eq_true_eq] at hx
  refine ⟨List.getElem_mem hi, hx.1, hx.2, fun y hy hk hs => ?_⟩
  obtain ⟨j, hj, rfl⟩ := List.getElem_of_mem hy
  rcases Nat.lt_trichotomy j i with h1 | h1 | h1
  · have := hb j h1
    simp [hk, hs] at this
  · subst h1; exact Int.le_refl _
  · have := h.bef h1 hj
    unfold befM at this
    rw [if_pos (hx.1.trans hk.symm)] at this
    simp only [decide_eq_true_eq] at this; omega
theorem find_none {T : List MEnt} {k : Txt} {s : Int} (hf : findM T k s = none) : ∀ y ∈ T, y.1 = k → ¬y.2.1 ≤ s := by
  intro y hy hk hs
  unfold findM at hf
  have := List.find?_eq_none.1 hf y hy
  simp [hk, hs] at this
theorem MmOk.unique {T : List MEnt} (h : MmOk T) {a b : MEnt} (ha : a ∈ T) (hb : b ∈ T) (hs : sameM a b = true) : a = b := by
  obtain ⟨i, hi, rfl⟩ := List.getElem_of_mem ha
  obtain ⟨j, hj, rfl⟩ := List.getElem_of_mem hb
  rcases Nat.lt_trichotomy i j with h1 | h1 | h1
  · have := h.bef h1 hj; rw [same_not_bef hs] at this; cases this
  · subst h1; rfl
  · have := h.bef h1 hi
    obtain ⟨e1, e2⟩ := same_iff.1 hs
    rw [same_not_bef (same_iff.2 ⟨e1.symm, e2.symm⟩)] at this; cases this
theorem find_mem {T : List MEnt} (h : MmOk T) {e : MEnt} (he : e ∈ T) : findM T e.1 e.2.1 = some e := by
  cases hf : findM T e.1 e.2.1 with
  | none => exact absurd (Int.le_refl _) (find_none hf e he rfl)
  | some x =>
    obtain ⟨h1, h2, h3, h4⟩ := find_some h hf
    have h5 := h4 e he rfl (Int.le_refl _)
    rw [h.unique h1 he (same_iff.2 ⟨h2, by omega⟩)]
/-- The greatest of those that were put is the one that is found. -/
theorem find_best {T : List MEnt} (h : MmOk T) {k : Txt} {s : Int} {b : MEnt} (hb : b ∈ T) (hk : b.1 = k) (hs : b.2.1 ≤ s) (hm : ∀ y ∈ T, y.1 = k → y.2.1 ≤ s → y.2.1 ≤ b.2.1) : findM T k s = some b := by
  cases hf : findM T k s with
  | none => exact absurd hs (find_none hf b hb hk)
  | some x =>
    obtain ⟨h1, h2, h3, h4⟩ := find_some h hf
    have h5 := h4 b hb hk hs
    have h6 := hm x h1 h2 h3
    rw [h.unique h1 hb (same_iff.2 ⟨h2.trans hk.symm, by omega⟩)]
theorem find_no {T : List MEnt} {k : Txt} {s : Int} (hm : ∀ y ∈ T, y.1 = k → ¬y.2.1 ≤ s) : findM T k s = none := by
  unfold findM
  rw [List.find?_eq_none]
  intro y hy hc
  simp only [Bool.and_eq_true, beq_iff_eq, decide_eq_true_eq] at hc
  exact hm y hy hc.1 hc.2
/-- Put behind one another from the last one on, a table is as it was. -/
theorem put_front {T : List MEnt} (h : MmOk T) {i : Nat} (hi : i < T.length) : putC (T.drop (i + 1)) T[i] = 0 ∧ putM (T.drop (i + 1)) T[i] = T.drop i := by
  have hat : atM (T.drop (i + 1)) T[i] = 0 := by
    cases hd : T.drop (i + 1) with
    | nil => rfl
    | cons x D =>
      have hl : i + 1 < T.length := by
        have := congrArg List.length hd
        rw [List.length_drop, List.length_cons] at this; omega
      have hx : x = T[i + 1] := by
        have := List.drop_eq_getElem_cons hl
        rw [hd] at this
        injection this
      rw [atM, if_neg]
      rw [hx, bef_anti (h.bef (Nat.lt_succ_self i) hl)]; simp
  have hz : putC (T.drop (i + 1)) T[i] = 0 := by
    rw [putC_zero]
    refine ⟨h.right _ (List.getElem_mem hi), ?_⟩
    unfold hasM
    rw [hat]
    cases hg : (T.drop (i + 1))[0]? with
    | none => rfl
    | some x =>
      rw [List.getElem?_drop] at hg
      obtain ⟨hl, rfl⟩ := List.getElem?_eq_some_iff.1 hg
      have hb := h.bef (Nat.lt_succ_self i) (j := i + 1) (by simpa using hl)
      cases hs : sameM T[i + 1 + 0] T[i] with
      | false => exact hs
      | true =>
        obtain ⟨e1, e2⟩ := same_iff.1 hs
        have := same_not_bef (same_iff.2 ⟨e1.symm, e2.symm⟩)
        simp only [Nat.add_zero] at this
        rw [hb] at this; cases this
  refine ⟨hz, ?_⟩
  unfold putM
  rw [if_pos hz]
  unfold insM
  rw [hat, List.take_zero, List.drop_zero, List.nil_append, ← List.drop_eq_getElem_cons hi]
end Go.Proofs.Pk
