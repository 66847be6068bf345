/- SkM, MmM, OpenE. -/
import Derived.Test.YtgcepbpdicadnaaJ02
import Derived.Test.YtgcepbpdicadnaaProg
import Derived.SizedLaws
import Derived.SliceStrings
import Derived.ProofKit
import Derived.Deep.Slices
import Derived.Deep.MidRow

/- Mathematics of layer 9 (skip): sorted entries. No program. -/
namespace Go.Proofs.Pk
set_option maxRecDepth 10000

abbrev Txt := List UInt8
/-- A key, its value, the height of its tower. -/
abbrev Ent := Txt × Txt × Nat
/-- Where a key stands, or would stand. -/
def atE : List Ent → Txt → Nat
  | [], _ => 0
  | e :: E, k => if e.1 < k then atE E k + 1 else 0
def hasE (E : List Ent) (k : Txt) : Bool := match E[atE E k]? with | some e => e.1 == k | none => false
def clampH (h : Int) : Nat := (min (max h 1) 12).toNat
def setV (E : List Ent) (i : Nat) (v : Txt) : List Ent := match E[i]? with | some e => E.set i (e.1, v, e.2.2) | none => E
def putE (E : List Ent) (k v : Txt) (h : Int) : List Ent := if hasE E k = true then setV E (atE E k) v else E.take (atE E k) ++ (k, v, clampH h) :: E.drop (atE E k)
def getE (E : List Ent) (k : Txt) : Txt × Bool := match E[atE E k]? with | some e => if e.1 = k then (e.2.1, true) else ([], false) | none => ([], false)
def seekE (E : List Ent) (k : Txt) : Txt × Txt × Bool := match E[atE E k]? with | some e => (e.1, e.2.1, true) | none => ([], [], false)
def heightE (E : List Ent) (k : Txt) : Nat := match E[atE E k]? with | some e => if e.1 = k then e.2.2 else 0 | none => 0
def laneE (E : List Ent) (h : Int) : List Txt := (E.filter fun e => decide (h < (e.2.2 : Int))).map (·.1)
/-- Keys rising; towers of 1 to 12. -/
structure SkOk (E : List Ent) : Prop where
  up : E.Pairwise fun a b => a.1 < b.1
  tall : ∀ e ∈ E, 1 ≤ e.2.2 ∧ e.2.2 ≤ 12

theorem clampH_in (h : Int) : 1 ≤ clampH h ∧ clampH h ≤ 12 := by unfold clampH; omega
theorem atE_le (k : Txt) : ∀ E : List Ent, atE E k ≤ E.length
  | [] => Nat.le_refl _
  | e :: E => by rw [atE]; split; have := atE_le k E; simp only [List.length_cons]; omega; omega
theorem atE_before (k : Txt) : ∀ (E : List Ent) (i : Nat) (_ : i < atE E k) (h : i < E.length), (E[i]).1 < k
  | e :: E, i, hi, h => by
    rw [atE] at hi
    split at hi
    · rename_i hlt
      cases i with
      | zero => exact hlt
      | succ i => exact atE_before k E i (by omega) (by simpa using h)
    · omega
theorem atE_at (k : Txt) : ∀ (E : List Ent) (h : atE E k < E.length), ¬(E[atE E k]).1 < k
  | [], h => by simp [atE] at h
  | e :: E, h => by
    by_cases hlt : e.1 < k
    · have hat : atE (e :: E) k = atE E k + 1 := by rw [atE, if_pos hlt]
      simp only [hat, List.getElem_cons_succ]
      exact atE_at k E (by rw [hat] at h; simpa using h)
    · have hat : atE (e :: E) k = 0 := by rw [atE, if_neg hlt]
      simp only [hat, List.getElem_cons_zero]
      exact hlt
/-- The place is the one that parts the lesser keys from the others. -/
theorem atE_unique {E : List Ent} {k : Txt} {i : Nat} (hi : i ≤ E.length) (hb : ∀ j (_ : j < i) (h : j < E.length), (E[j]).1 < k) (ha : ∀ h : i < E.length, ¬(E[i]).1 < k) : atE E k = i := by
  rcases Nat.lt_trichotomy (atE E k) i with h | h | h
  · exact absurd (hb _ h (by omega)) (atE_at k E (by omega))
  · exact h
  · exact absurd (atE_before k E i h (by have := atE_le k E; omega)) (ha (by have := atE_le k E; omega))
theorem atE_keys : ∀ {E F : List Ent} (k : Txt), E.map (·.1) = F.map (·.1) → atE E k = atE F k
  | [], [], _, _ => rfl
  | [], _ :: _, _, h => by simp at h
  | _ :: _, [], _, h => by simp at h
  | e :: E, f :: F, k, h => by
    simp only [List.map_cons, List.cons.injEq] at h
    rw [atE, atE, h.1, atE_keys k h.2]
theorem lt_or_eq {a b : Txt} (h : ¬a < b) : b < a ∨ a = b := by
  by_cases h2 : b < a
  · exact .inl h2
  · exact .inr (List.le_antisymm (List.not_lt.1 h2) (List.not_lt.1 h))
theorem SkOk.lt {E : List Ent} (h : SkOk E) {i j : Nat} (hij : i < j) (hj : j < E.length) : (E[i]).1 < (E[j]).1 := by
  have := List.pairwise_iff_getElem.1 h.up
  exact this i j (by omega) hj hij
/-- A key that is there stands where it is sought. -/
theorem SkOk.at {E : List Ent} (h : SkOk E) (i : Nat) (hi : i < E.length) : atE E (E[i]).1 = i :=
  atE_unique (by omega) (fun _ hj _ => h.lt hj hi) (fun _ => List.lt_irrefl _)
theorem hasE_iff {E : List Ent} {k : Txt} : hasE E k = true ↔ ∃ e, E[atE E k]? = some e ∧ e.1 = k := by
  unfold hasE
  cases he : E[atE E k]? with
  | none => simp
  | some e => simp
theorem SkOk.has {E : List Ent} (h : SkOk E) (k : Txt) : hasE E k = true ↔ k ∈ E.map (·.1) := by
  rw [hasE_iff]
  constructor
  · rintro ⟨e, he, rfl⟩
    exact List.mem_map_of_mem (List.mem_of_getElem? he)
  · intro hm
    obtain ⟨e, he, rfl⟩ := List.mem_map.1 hm
    obtain ⟨i, hi, rfl⟩ := List.getElem_of_mem he
    exact ⟨E[i], by rw [h.at i hi]; exact List.getElem?_eq_getElem hi, rfl⟩
theorem setV_keys (E : List Ent) (i : Nat) (v : Txt) : (setV E i v).map (·.1) = E.map (·.1) := by
  unfold setV
  cases he : E[i]? with
  | none => rfl
  | some e =>
    obtain ⟨hi, rfl⟩ := List.getElem?_eq_some_iff.1 he
    apply List.ext_getElem
    · simp
    · intro j h1 h2
      simp only [List.getElem_map, List.getElem_set]
      split <;> simp_all
theorem setV_length (E : List Ent) (i : Nat) (v : Txt) : (setV E i v).length = E.length := by
  have := congrArg List.length (setV_keys E i v)
  simpa using this
theorem pairwise_keys {E F : List Ent} (h : E.map (·.1) = F.map (·.1)) (hE : E.Pairwise fun a b => a.1 < b.1) : F.Pairwise fun a b => a.1 < b.1 := by
  have h1 : (E.map (·.1)).Pairwise (· < ·) := List.pairwise_map.2 hE
  rw [h] at h1
  exact List.pairwise_map.1 h1
theorem SkOk.put {E : List Ent} (h : SkOk E) (k v : Txt) (ht : Int) : SkOk (putE E k v ht) := by
  unfold putE
  split
  · refine ⟨pairwise_keys (setV_keys E _ v).symm h.up, ?_⟩
    unfold setV
    cases he : E[atE E k]? with
    | none => exact h.tall
    | some e =>
      intro x hx
      rcases List.mem_or_eq_of_mem_set hx with h1 | h1
      · exact h.tall x h1
      · rw [h1]; exact h.tall e (List.mem_of_getElem? he)
  · rename_i hno
    have hle := atE_le k E
    refine ⟨?_, ?_⟩
    · rw [List.pairwise_append]
      have hbef : ∀ e ∈ E.take (atE E k), e.1 < k := fun e he => by
        obtain ⟨i, hi, rfl⟩ := List.getElem_of_mem he
        rw [List.getElem_take]
        rw [List.length_take] at hi
        exact atE_before k E i (by omega) (by omega)
      have haft : ∀ e ∈ E.drop (atE E k), k < e.1 := fun e he => by
        obtain ⟨i, hi, rfl⟩ := List.getElem_of_mem he
        rw [List.getElem_drop]
        rw [List.length_drop] at hi
        have h0 : k < (E[atE E k]'(by omega)).1 := by
          rcases lt_or_eq (atE_at k E (by omega)) with h1 | h1
          · exact h1
          · exact absurd (hasE_iff.2 ⟨_, List.getElem?_eq_getElem (by omega), h1⟩) hno
        rcases Nat.eq_zero_or_pos i with rfl | hi0
        · exact h0
        · exact List.lt_trans h0 (h.lt (by omega) (by omega))
      refine ⟨h.up.sublist (List.take_sublist _ _), List.pairwise_cons.2 ⟨haft, h.up.sublist (List.drop_sublist _ _)⟩, ?_⟩
      intro a ha b hb
      rcases List.mem_cons.1 hb with rfl | hb
      · exact hbef a ha
      · exact List.lt_trans (hbef a ha) (haft b hb)
    · intro e he
      rcases List.mem_append.1 he with he | he
      · exact h.tall e (List.mem_of_mem_take he)
      · rcases List.mem_cons.1 he with rfl | he
        · exact clampH_in ht
        · exact h.tall e (List.mem_of_mem_drop he)
theorem putE_length (E : List Ent) (k v : Txt) (ht : Int) : (putE E k v ht).length = if hasE E k = true then E.length else E.length + 1 := by
  unfold putE
  have := atE_le k E
  split
  · rw [setV_length]
  · simp; omega
/-- What Get gives: what stands with that key. -/
theorem SkOk.get {E : List Ent} (h : SkOk E) (i : Nat) (hi : i < E.length) : getE E (E[i]).1 = ((E[i]).2.1, true) := by
  unfold getE
  rw [h.at i hi, List.getElem?_eq_getElem hi]
  simp
theorem SkOk.get_none {E : List Ent} (h : SkOk E) (k : Txt) (hk : k ∉ E.map (·.1)) : getE E k = ([], false) := by
  have hn : ¬hasE E k = true := fun hh => hk ((h.has k).1 hh)
  unfold getE
  cases he : E[atE E k]? with
  | none => rfl
  | some e =>
    simp only
    rw [if_neg (fun h1 => hn (hasE_iff.2 ⟨e, he, h1⟩))]
theorem SkOk.get_mem {E : List Ent} (h : SkOk E) {e : Ent} (he : e ∈ E) : getE E e.1 = (e.2.1, true) := by
  obtain ⟨i, hi, rfl⟩ := List.getElem_of_mem he
  exact h.get i hi
theorem setV_mem {E : List Ent} {i : Nat} {e : Ent} (he : E[i]? = some e) (v : Txt) : (e.1, v, e.2.2) ∈ setV E i v := by
  obtain ⟨hi, rfl⟩ := List.getElem?_eq_some_iff.1 he
  unfold setV
  rw [he]
  exact List.mem_iff_getElem.2 ⟨i, by simpa using hi, by simp⟩
theorem setV_other {E : List Ent} {i : Nat} {e x : Ent} (he : E[i]? = some e) (v : Txt) (hx : x ∈ E) (hne : x.1 ≠ e.1) : x ∈ setV E i v := by
  obtain ⟨hi, rfl⟩ := List.getElem?_eq_some_iff.1 he
  obtain ⟨j, hj, rfl⟩ := List.getElem_of_mem hx
  unfold setV
  rw [he]
  refine List.mem_iff_getElem.2 ⟨j, by simpa using hj, ?_⟩
  simp only [List.getElem_set]
  rw [if_neg (fun hij => hne (by subst hij; rfl))]
/-- Behind a put: the key has the value, all others have theirs. -/
theorem SkOk.get_put {E : List Ent} (h : SkOk E) (k v : Txt) (ht : Int) (k' : Txt) : getE (putE E k v ht) k' = if k' = k then (v, true) else getE E k' := by
  have hp := h.put k v ht
  by_cases hh : hasE E k = true
  · obtain ⟨e, he, rfl⟩ := hasE_iff.1 hh
    have hpe : putE E e.1 v ht = setV E (atE E e.1) v := by unfold putE; rw [if_pos hh]
    split
    · rename_i hk
      subst hk
      rw [hpe] at hp ⊢
      exact hp.get_mem (setV_mem he v)
    · rename_i hk
      by_cases hm : k' ∈ E.map (·.1)
      · obtain ⟨x, hx, rfl⟩ := List.mem_map.1 hm
        rw [h.get_mem hx]
        rw [hpe] at hp ⊢
        exact hp.get_mem (setV_other he v hx hk)
      · rw [h.get_none k' hm, hp.get_none k' (by rw [hpe, setV_keys]; exact hm)]
  · have hpe : putE E k v ht = E.take (atE E k) ++ (k, v, clampH ht) :: E.drop (atE E k) := by unfold putE; rw [if_neg hh]
    split
    · rename_i hk
      subst hk
      have := hp.get_mem (e := (k', v, clampH ht)) (by rw [hpe]; simp)
      exact this
    · rename_i hk
      have hmem : ∀ x : Ent, x ∈ E → x ∈ putE E k v ht := fun x hx => by
        rw [hpe]
        rw [← List.take_append_drop (atE E k) E, List.mem_append] at hx
        rcases hx with hx | hx
        · exact List.mem_append.2 (.inl hx)
        · exact List.mem_append.2 (.inr (List.mem_cons_of_mem _ hx))
      by_cases hm : k' ∈ E.map (·.1)
      · obtain ⟨x, hx, rfl⟩ := List.mem_map.1 hm
        rw [h.get_mem hx, hp.get_mem (hmem x hx)]
      · rw [h.get_none k' hm]
        refine hp.get_none k' (fun hm2 => ?_)
        obtain ⟨x, hx, rfl⟩ := List.mem_map.1 hm2
        rw [hpe, List.mem_append, List.mem_cons] at hx
        rcases hx with hx | rfl | hx
        · exact hm (List.mem_map_of_mem (List.mem_of_mem_take hx))
        · exact hk rfl
        · exact hm (List.mem_map_of_mem (List.mem_of_mem_drop hx))
theorem SkOk.nil : SkOk [] := ⟨List.Pairwise.nil, fun e he => by simp at he⟩

/-- Lanes. -/
theorem SkOk.lane0 {E : List Ent} (h : SkOk E) (hh : Int) (h0 : hh ≤ 0) : laneE E hh = E.map (·.1) := by
  unfold laneE
  rw [List.filter_eq_self.2]
  intro e he
  have := (h.tall e he).1
  simp; omega
theorem SkOk.lane12 {E : List Ent} (h : SkOk E) (hh : Int) (h12 : 12 ≤ hh) : laneE E hh = [] := by
  unfold laneE
  rw [List.filter_eq_nil_iff.2]
  · rfl
  · intro e he
    have := (h.tall e he).2
    simp; omega
theorem laneE_sub (E : List Ent) (h : Int) : (laneE E (h + 1)).Sublist (laneE E h) := by
  unfold laneE
  refine List.Sublist.map _ ?_
  rw [show (fun e : Ent => decide (h + 1 < (e.2.2 : Int))) = fun e => decide (h + 1 < (e.2.2 : Int)) && decide (h < (e.2.2 : Int)) from by
    funext e
    by_cases h1 : h + 1 < (e.2.2 : Int)
    · simp [h1]; omega
    · simp [h1]]
  rw [← List.filter_filter]
  exact List.filter_sublist
theorem SkOk.lane_up {E : List Ent} (h : SkOk E) (hh : Int) : (laneE E hh).Pairwise (· < ·) := by
  unfold laneE
  exact List.pairwise_map.2 (h.up.sublist List.filter_sublist)
theorem SkOk.height {E : List Ent} (h : SkOk E) {e : Ent} (he : e ∈ E) : heightE E e.1 = e.2.2 := by
  obtain ⟨i, hi, rfl⟩ := List.getElem_of_mem he
  unfold heightE
  rw [h.at i hi, List.getElem?_eq_getElem hi]
  simp
theorem SkOk.lane_height {E : List Ent} (h : SkOk E) (hh : Int) (k : Txt) (hk : k ∈ laneE E hh) : hh < (heightE E k : Int) := by
  unfold laneE at hk
  obtain ⟨e, he, rfl⟩ := List.mem_map.1 hk
  obtain ⟨he, hlt⟩ := List.mem_filter.1 he
  rw [h.height he]
  simpa using hlt

/-- Seek from behind a key on. -/
theorem lt_snoc (k : Txt) : k < k ++ [0] := by
  induction k with
  | nil => exact List.Lex.nil
  | cons a k ih => exact List.Lex.cons ih
theorem snoc_least : ∀ {k x : Txt}, k < x → ¬x < k ++ [0]
  | [], [], h => absurd h (List.lt_irrefl _)
  | [], b :: x, _ => fun h => by
    cases h with
    | rel h1 => simp at h1
    | cons h1 => cases h1
  | a :: k, [], h => absurd h (by intro h; cases h)
  | a :: k, b :: x, h => fun h2 => by
    cases h with
    | rel h1 =>
      cases h2 with
      | rel h3 => exact absurd (UInt8.lt_trans h1 h3) (UInt8.lt_irrefl _)
      | cons h3 => exact absurd h1 (UInt8.lt_irrefl _)
    | cons h1 =>
      cases h2 with
      | rel h3 => exact absurd h3 (UInt8.lt_irrefl _)
      | cons h3 => exact snoc_least h1 h3
theorem SkOk.seek_next {E : List Ent} (h : SkOk E) (i : Nat) (hi : i < E.length) : atE E ((E[i]).1 ++ [0]) = i + 1 :=
  atE_unique (by omega) (fun j hj hjl => by
    rcases Nat.lt_or_ge j i with h1 | h1
    · exact List.lt_trans (h.lt h1 hi) (lt_snoc _)
    · obtain rfl : j = i := by omega
      exact lt_snoc _) (fun h1 => snoc_least (h.lt (Nat.lt_succ_self i) h1))
theorem not_lt_nil (x : Txt) : ¬x < [] := by intro h; cases h
theorem atE_nil (E : List Ent) : atE E [] = 0 := by
  cases E with
  | nil => rfl
  | cons e E => rw [atE, if_neg (not_lt_nil _)]

/-- Two lists of the same keys and values, whatever their towers. -/
def kvE (E : List Ent) : List (Txt × Txt) := E.map fun e => (e.1, e.2.1)
theorem kv_keys {E F : List Ent} (h : kvE E = kvE F) : E.map (·.1) = F.map (·.1) := by
  have := congrArg (List.map (·.1)) h
  simpa [kvE, List.map_map, Function.comp_def] using this
theorem kv_get {E F : List Ent} (h : kvE E = kvE F) (i : Nat) : (E[i]?).map (fun e => (e.1, e.2.1)) = (F[i]?).map (fun e => (e.1, e.2.1)) := by
  have := congrArg (fun l => l[i]?) h
  simpa [kvE] using this
theorem kv_has {E F : List Ent} (h : kvE E = kvE F) (k : Txt) : hasE E k = hasE F k := by
  have hi := kv_get h (atE E k)
  unfold hasE
  rw [← atE_keys k (kv_keys h)]
  cases he : E[atE E k]? <;> cases hf : F[atE E k]? <;> rw [he, hf] at hi <;> simp at hi ⊢
  rw [hi.1]
theorem kv_getE {E F : List Ent} (h : kvE E = kvE F) (k : Txt) : getE E k = getE F k := by
  have hi := kv_get h (atE E k)
  unfold getE
  rw [← atE_keys k (kv_keys h)]
  cases he : E[atE E k]? <;> cases hf : F[atE E k]? <;> rw [he, hf] at hi <;> simp at hi ⊢
  rw [hi.1, hi.2]
theorem kv_seek {E F : List Ent} (h : kvE E = kvE F) (k : Txt) : seekE E k = seekE F k := by
  have hi := kv_get h (atE E k)
  unfold seekE
  rw [← atE_keys k (kv_keys h)]
  cases he : E[atE E k]? <;> cases hf : F[atE E k]? <;> rw [he, hf] at hi <;> simp at hi ⊢
  exact hi
theorem setV_kv {E : List Ent} {i : Nat} (hi : i < E.length) (v : Txt) : kvE (setV E i v) = (kvE E).set i ((E[i]).1, v) := by
  unfold setV kvE
  rw [List.getElem?_eq_getElem hi]
  simp [List.map_set]
theorem kv_put {E F : List Ent} (h : kvE E = kvE F) (k v : Txt) (a b : Int) : kvE (putE E k v a) = kvE (putE F k v b) := by
  have hl : E.length = F.length := by have := congrArg List.length h; simpa [kvE] using this
  have ha := atE_keys k (kv_keys h)
  unfold putE
  rw [kv_has h k, ← ha]
  split
  · rename_i hh
    obtain ⟨f, hf, hfk⟩ := hasE_iff.1 hh
    rw [← ha] at hf
    have hi : atE E k < F.length := (List.getElem?_eq_some_iff.1 hf).1
    have hg := kv_get h (atE E k)
    rw [List.getElem?_eq_getElem (by omega : atE E k < E.length), List.getElem?_eq_getElem hi] at hg
    simp only [Option.map_some, Option.some.injEq, Prod.mk.injEq] at hg
    rw [setV_kv (by omega), setV_kv hi, h, hg.1]
  · unfold kvE at *
    simp only [List.map_append, List.map_cons, List.map_take, List.map_drop, h]

theorem has_lt {E : List Ent} {k : Txt} (h : hasE E k = true) : ∃ hi : atE E k < E.length, (E[atE E k]).1 = k := by
  obtain ⟨e, he, h1⟩ := hasE_iff.1 h
  obtain ⟨hi, h2⟩ := List.getElem?_eq_some_iff.1 he
  exact ⟨hi, by rw [h2]; exact h1⟩
end Go.Proofs.Pk

/- Mathematics of layer 10 (mem): versions of keys, ordered. No program. -/
namespace Go.Proofs.Pk
set_option maxRecDepth 10000

/-- An entry: key, number, whether it drops, value. -/
abbrev MEnt := Txt × Int × Bool × Txt
def rightM (e : MEnt) : Bool := decide (e.1 ≠ [] ∧ e.1.length ≤ 80 ∧ e.2.2.2.length ≤ 300 ∧ 1 ≤ e.2.1 ∧ e.2.1 ≤ 9007199254740991 ∧ (e.2.2.1 = true → e.2.2.2 = []))
def befM (a b : MEnt) : Bool := if a.1 = b.1 then decide (b.2.1 < a.2.1) else decide (a.1 < b.1)
def sameM (a b : MEnt) : Bool := a.1 == b.1 && a.2.1 == b.2.1
def atM : List MEnt → MEnt → Nat
  | [], _ => 0
  | x :: T, e => if befM x e = true then atM T e + 1 else 0
def hasM (T : List MEnt) (e : MEnt) : Bool := match T[atM T e]? with | some x => sameM x e | none => false
/-- The error's number of a Put. -/
def putC (T : List MEnt) (e : MEnt) : Nat := if rightM e = true then (if hasM T e = true then 9 else 0) else 1
def insM (T : List MEnt) (e : MEnt) : List MEnt := T.take (atM T e) ++ e :: T.drop (atM T e)
def putM (T : List MEnt) (e : MEnt) : List MEnt := if putC T e = 0 then insM T e else T
def findM (T : List MEnt) (k : Txt) (s : Int) : Option MEnt := T.find? fun x => x.1 == k && decide (x.2.1 ≤ s)
def zeroM : MEnt := ([], 0, false, [])
def getM (T : List MEnt) (k : Txt) (s : Int) : MEnt × Bool := match findM T k s with | some x => (x, true) | none => (zeroM, false)
def sizeM : List MEnt → Nat
  | [] => 0
  | e :: T => e.1.length + e.2.2.2.length + 16 + sizeM T
structure MmOk (T : List MEnt) : Prop where
  up : T.Pairwise fun a b => befM a b = true
  right : ∀ e ∈ T, rightM e = true

theorem bef_irr (a : MEnt) : befM a a = false := by unfold befM; simp
theorem same_iff {a b : MEnt} : sameM a b = true ↔ a.1 = b.1 ∧ a.2.1 = b.2.1 := by unfold sameM; simp
theorem bef_trans {a b c : MEnt} (h : befM a b = true) (k : befM b c = true) : befM a c = true := by
  unfold befM at *
  by_cases h1 : a.1 = b.1
  · rw [if_pos h1] at h
    by_cases h2 : b.1 = c.1
    · rw [if_pos h2] at k
      rw [if_pos (h1.trans h2)]
      simp only [decide_eq_true_eq] at *; omega
    · rw [if_neg h2] at k
      rw [if_neg (fun e => h2 (h1.symm.trans e))]
      rw [h1]; exact k
  · rw [if_neg h1] at h
    by_cases h2 : b.1 = c.1
    · rw [← h2, if_neg h1]; exact h
    · rw [if_neg h2] at k
      have h3 : a.1 < c.1 := List.lt_trans (by simpa using h) (by simpa using k)
      rw [if_neg (fun e => by rw [e] at h3; exact List.lt_irrefl _ h3)]
      simpa using h3
theorem bef_not {a b : MEnt} (h : ¬befM a b = true) (hs : ¬sameM a b = true) : befM b a = true := by
  unfold befM at *
  rw [same_iff] at hs
  by_cases h1 : a.1 = b.1
  · rw [if_pos h1] at h
    rw [if_pos h1.symm]
    have h2 : ¬a.2.1 = b.2.1 := fun e => hs ⟨h1, e⟩
    simp only [decide_eq_true_eq] at *; omega
  · rw [if_neg h1] at h
    rw [if_neg (fun e => h1 e.symm)]
    have h2 : ¬a.1 < b.1 := by simpa using h
    rcases lt_or_eq h2 with h3 | h3
    · simpa using h3
    · exact absurd h3 h1
theorem bef_anti {a b : MEnt} (h : befM a b = true) : befM b a = false := by
  cases e : befM b a with
  | false => rfl
  | true => have := bef_trans h e; rw [bef_irr] at this; cases this
theorem bef_same {a b : MEnt} (hs : sameM a b = true) (c : MEnt) : befM c a = befM c b := by
  obtain ⟨h1, h2⟩ := same_iff.1 hs
  unfold befM; rw [h1, h2]
theorem same_not_bef {a b : MEnt} (hs : sameM a b = true) : befM a b = false := by rw [← bef_same hs]; exact bef_irr a
theorem atM_le (e : MEnt) : ∀ T : List MEnt, atM T e ≤ T.length
  | [] => Nat.le_refl _
  | x :: T => by
    rw [atM]
    split
    · have := atM_le e T; simp; omega
    · exact Nat.zero_le _
theorem atM_before (e : MEnt) : ∀ (T : List MEnt) (i : Nat) (_ : i < atM T e) (h : i < T.length), befM T[i] e = true
  | x :: T, i, hi, h => by
    rw [atM] at hi
    split at hi
    · rename_i hx
      cases i with
      | zero => exact hx
      | succ i => simpa using atM_before e T i (by omega) (by simpa using h)
    · omega
theorem atM_at (e : MEnt) : ∀ (T : List MEnt) (h : atM T e < T.length), ¬befM T[atM T e] e = true
  | [], h => by simp at h
  | x :: T, h => by
    by_cases hx : befM x e = true
    · have e1 : atM (x :: T) e = atM T e + 1 := by rw [atM, if_pos hx]
      have h2 : atM T e < T.length := by rw [e1] at h; simpa using h
      have := atM_at e T h2
      simpa [e1] using this
    · have e1 : atM (x :: T) e = 0 := by rw [atM, if_neg hx]
      simpa [e1] using hx
theorem MmOk.bef {T : List MEnt} (h : MmOk T) {i j : Nat} (hij : i < j) (hj : j < T.length) : befM T[i] T[j] = true := List.pairwise_iff_getElem.1 h.up i j (by omega) hj hij
theorem MmOk.nil : MmOk [] := ⟨List.Pairwise.nil, fun e he => by simp at he⟩
theorem hasM_get {T : List MEnt} {e : MEnt} (h : hasM T e = true) : ∃ hi : atM T e < T.length, sameM T[atM T e] e = true := by
  unfold hasM at h
  cases hg : T[atM T e]? with
  | none => rw [hg] at h; cases h
  | some x =>
    rw [hg] at h
    obtain ⟨hi, rfl⟩ := List.getElem?_eq_some_iff.1 hg
    exact ⟨hi, h⟩
theorem MmOk.has {T : List MEnt} (h : MmOk T) (e : MEnt) : hasM T e = true ↔ ∃ x ∈ T, sameM x e = true := by
  constructor
  · intro hh
    obtain ⟨hi, h1⟩ := hasM_get hh
    exact ⟨_, List.getElem_mem hi, h1⟩
  · rintro ⟨x, hx, hs⟩
    obtain ⟨i, hi, rfl⟩ := List.getElem_of_mem hx
    have hia : i = atM T e := by
      rcases Nat.lt_trichotomy i (atM T e) with h1 | h1 | h1
      · have := atM_before e T i h1 hi
        rw [same_not_bef hs] at this; cases this
      · exact h1
      · exfalso
        have h2 := atM_at e T (by omega)
        have h3 := h.bef h1 hi
        rw [bef_same hs] at h3
        exact h2 h3
    subst hia
    unfold hasM
    rw [List.getElem?_eq_getElem hi]; exact hs
theorem putC_zero {T : List MEnt} {e : MEnt} : putC T e = 0 ↔ rightM e = true ∧ hasM T e = false := by
  unfold putC
  by_cases h1 : rightM e = true
  · rw [if_pos h1]
    cases h2 : hasM T e <;> simp [h1]
  · rw [if_neg h1]; simp [h1]
theorem mem_ins {T : List MEnt} {e x : MEnt} : x ∈ insM T e ↔ x = e ∨ x ∈ T := by
  unfold insM
  rw [List.mem_append, List.mem_cons]
  constructor
  · rintro (h | rfl | h)
    · exact .inr (List.mem_of_mem_take h)
    · exact .inl rfl
    · exact .inr (List.mem_of_mem_drop h)
  · rintro (rfl | h)
    · exact .inr (.inl rfl)
    · rw [← List.take_append_drop (atM T e) T] at h
      rcases List.mem_append.1 h with h | h
      · exact .inl h
      · exact .inr (.inr h)
theorem ins_length (T : List MEnt) (e : MEnt) : (insM T e).length = T.length + 1 := by
  have := atM_le e T
  unfold insM; simp; omega
theorem MmOk.ins {T : List MEnt} (h : MmOk T) {e : MEnt} (hc : putC T e = 0) : MmOk (insM T e) := by
  obtain ⟨hr, hn⟩ := putC_zero.1 hc
  refine ⟨?_, fun x hx => ?_⟩
  · unfold insM
    have hle := atM_le e T
    rw [List.pairwise_append]
    have hafter : ∀ x ∈ T.drop (atM T e), befM e x = true := by
      intro x hx
      obtain ⟨i, hi, rfl⟩ := List.getElem_of_mem hx
      rw [List.getElem_drop]
      rw [List.length_drop] at hi
      have hl : atM T e < T.length := by omega
      have h1 : befM e T[atM T e] = true := bef_not (atM_at e T hl) (fun hs => by
        have : hasM T e = true := by unfold hasM; rw [List.getElem?_eq_getElem hl]; exact hs
        rw [hn] at this; cases this)
      cases i with
      | zero => exact h1
      | succ i => exact bef_trans h1 (h.bef (by omega) (by omega))
    refine ⟨h.up.sublist (List.take_sublist _ _), List.pairwise_cons.2 ⟨hafter, h.up.sublist (List.drop_sublist _ _)⟩, ?_⟩
    intro a ha b hb
    obtain ⟨i, hi, rfl⟩ := List.getElem_of_mem ha
    rw [List.getElem_take]
    rw [List.length_take] at hi
    have h1 := atM_before e T i (by omega) (by omega)
    rcases List.mem_cons.1 hb with rfl | hb
    · exact h1
    · exact bef_trans h1 (hafter b hb)
  · rcases mem_ins.1 hx with rfl | hx
    · exact hr
    · exact h.right x hx
theorem MmOk.put {T : List MEnt} (h : MmOk T) (e : MEnt) : MmOk (putM T e) := by
  unfold putM
  split
  · rename_i hc; exact h.ins hc
  · exact h
theorem mem_put {T : List MEnt} {e x : MEnt} : x ∈ putM T e ↔ (putC T e = 0 ∧ x = e) ∨ x ∈ T := by
  unfold putM
  split
  · rename_i hc
    rw [mem_ins]; simp [hc]
  · rename_i hc; simp [hc]
theorem put_length (T : List MEnt) (e : MEnt) : (putM T e).length = if putC T e = 0 then T.length + 1 else T.length := by
  unfold putM; split
  · exact ins_length T e
  · rfl
theorem sizeM_append (A C : List MEnt) : sizeM (A ++ C) = sizeM A + sizeM C := by
  induction A with
  | nil => simp [sizeM]
  | cons a A ih => show a.1.length + a.2.2.2.length + 16 + sizeM (A ++ C) = _; rw [ih]; simp only [sizeM]; omega
theorem size_ins (T : List MEnt) (e : MEnt) : sizeM (insM T e) = sizeM T + (e.1.length + e.2.2.2.length + 16) := by
  unfold insM
  have := congrArg sizeM (List.take_append_drop (atM T e) T)
  rw [sizeM_append] at this ⊢
  simp only [sizeM]; omega
theorem size_put (T : List MEnt) (e : MEnt) : sizeM (putM T e) = if putC T e = 0 then sizeM T + (e.1.length + e.2.2.2.length + 16) else sizeM T := by
  unfold putM; split
  · exact size_ins T e
  · rfl
theorem size_bound {T : List MEnt} (h : MmOk T) : sizeM T ≤ 396 * T.length := by
  have hr := h.right
  clear h
  induction T with
  | nil => simp [sizeM]
  | cons e T ih =>
    have h1 := hr e (by simp)
    have h2 := ih (fun x hx => hr x (by simp [hx]))
    unfold rightM at h1
    simp only [decide_eq_true_eq] at h1
    simp only [sizeM, List.length_cons]; omega

/-- What Find finds: the greatest number that is not above, of that key. -/
theorem find_some {T : List MEnt} (h : MmOk T) {k : Txt} {s : Int} {x : MEnt} (hf : findM T k s = some x) : x ∈ T ∧ x.1 = k ∧ x.2.1 ≤ s ∧ ∀ y ∈ T, y.1 = k → y.2.1 ≤ s → y.2.1 ≤ x.2.1 := by
  unfold findM at hf
  rw [List.find?_eq_some_iff_getElem] at hf
  obtain ⟨hx, i, hi, rfl, hb⟩ := hf
  simp only [Bool.and_eq_true, beq_iff_eq, decide_eq_true_eq] at hx
  refine ⟨List.getElem_mem hi, hx.1, hx.2, fun y hy hk hs => ?_⟩
  obtain ⟨j, hj, rfl⟩ := List.getElem_of_mem hy
  rcases Nat.lt_trichotomy j i with h1 | h1 | h1
  · have := hb j h1
    simp [hk, hs] at this
  · subst h1; exact Int.le_refl _
  · have := h.bef h1 hj
    unfold befM at this
    rw [if_pos (hx.1.trans hk.symm)] at this
    simp only [decide_eq_true_eq] at this; omega
theorem find_none {T : List MEnt} {k : Txt} {s : Int} (hf : findM T k s = none) : ∀ y ∈ T, y.1 = k → ¬y.2.1 ≤ s := by
  intro y hy hk hs
  unfold findM at hf
  have := List.find?_eq_none.1 hf y hy
  simp [hk, hs] at this
theorem MmOk.unique {T : List MEnt} (h : MmOk T) {a b : MEnt} (ha : a ∈ T) (hb : b ∈ T) (hs : sameM a b = true) : a = b := by
  obtain ⟨i, hi, rfl⟩ := List.getElem_of_mem ha
  obtain ⟨j, hj, rfl⟩ := List.getElem_of_mem hb
  rcases Nat.lt_trichotomy i j with h1 | h1 | h1
  · have := h.bef h1 hj; rw [same_not_bef hs] at this; cases this
  · subst h1; rfl
  · have := h.bef h1 hi
    obtain ⟨e1, e2⟩ := same_iff.1 hs
    rw [same_not_bef (same_iff.2 ⟨e1.symm, e2.symm⟩)] at this; cases this
theorem find_mem {T : List MEnt} (h : MmOk T) {e : MEnt} (he : e ∈ T) : findM T e.1 e.2.1 = some e := by
  cases hf : findM T e.1 e.2.1 with
  | none => exact absurd (Int.le_refl _) (find_none hf e he rfl)
  | some x =>
    obtain ⟨h1, h2, h3, h4⟩ := find_some h hf
    have h5 := h4 e he rfl (Int.le_refl _)
    rw [h.unique h1 he (same_iff.2 ⟨h2, by omega⟩)]
/-- The greatest of those that were put is the one that is found. -/
theorem find_best {T : List MEnt} (h : MmOk T) {k : Txt} {s : Int} {b : MEnt} (hb : b ∈ T) (hk : b.1 = k) (hs : b.2.1 ≤ s) (hm : ∀ y ∈ T, y.1 = k → y.2.1 ≤ s → y.2.1 ≤ b.2.1) : findM T k s = some b := by
  cases hf : findM T k s with
  | none => exact absurd hs (find_none hf b hb hk)
  | some x =>
    obtain ⟨h1, h2, h3, h4⟩ := find_some h hf
    have h5 := h4 b hb hk hs
    have h6 := hm x h1 h2 h3
    rw [h.unique h1 hb (same_iff.2 ⟨h2.trans hk.symm, by omega⟩)]
theorem find_no {T : List MEnt} {k : Txt} {s : Int} (hm : ∀ y ∈ T, y.1 = k → ¬y.2.1 ≤ s) : findM T k s = none := by
  unfold findM
  rw [List.find?_eq_none]
  intro y hy hc
  simp only [Bool.and_eq_true, beq_iff_eq, decide_eq_true_eq] at hc
  exact hm y hy hc.1 hc.2
/-- Put behind one another from the last one on, a table is as it was. -/
theorem put_front {T : List MEnt} (h : MmOk T) {i : Nat} (hi : i < T.length) : putC (T.drop (i + 1)) T[i] = 0 ∧ putM (T.drop (i + 1)) T[i] = T.drop i := by
  have hat : atM (T.drop (i + 1)) T[i] = 0 := by
    cases hd : T.drop (i + 1) with
    | nil => rfl
    | cons x D =>
      have hl : i + 1 < T.length := by
        have := congrArg List.length hd
        rw [List.length_drop, List.length_cons] at this; omega
      have hx : x = T[i + 1] := by
        have := List.drop_eq_getElem_cons hl
        rw [hd] at this
        injection this
      rw [atM, if_neg]
      rw [hx, bef_anti (h.bef (Nat.lt_succ_self i) hl)]; simp
  have hz : putC (T.drop (i + 1)) T[i] = 0 := by
    rw [putC_zero]
    refine ⟨h.right _ (List.getElem_mem hi), ?_⟩
    unfold hasM
    rw [hat]
    cases hg : (T.drop (i + 1))[0]? with
    | none => rfl
    | some x =>
      rw [List.getElem?_drop] at hg
      obtain ⟨hl, rfl⟩ := List.getElem?_eq_some_iff.1 hg
      have hb := h.bef (Nat.lt_succ_self i) (j := i + 1) (by simpa using hl)
      cases hs : sameM T[i + 1 + 0] T[i] with
      | false => exact hs
      | true =>
        obtain ⟨e1, e2⟩ := same_iff.1 hs
        have := same_not_bef (same_iff.2 ⟨e1.symm, e2.symm⟩)
        simp only [Nat.add_zero] at this
        rw [hb] at this; cases this
  refine ⟨hz, ?_⟩
  unfold putM
  rw [if_pos hz]
  unfold insM
  rw [hat, List.take_zero, List.drop_zero, List.nil_append, ← List.drop_eq_getElem_cons hi]
end Go.Proofs.Pk

/- A slice of entries among a law's arguments, opened: it reads as a list of entries. -/
namespace Go.Proofs.Ytgcepbpdicadnaa
open Go.ChangeShapes Go.WideShapes Go.ChangeAt Go.RowKit Go.Proofs.Pk
set_option maxRecDepth 10000

/-- An entry's cells. -/
def entC (u : MEnt) : List Value := [.string ⟨u.1.toArray⟩, .int .i64 u.2.1, .bool u.2.2.1, .string ⟨u.2.2.2.toArray⟩]
def FitN (n : Int) : Prop := -9223372036854775808 ≤ n ∧ n ≤ 9223372036854775807
structure EntAt (w : World) (b o : Nat) (u : MEnt) : Prop where
  row : ∀ j v, (entC u)[j]? = some v → w.cell? ⟨b, o + j, none⟩ = some v
  fit : FitN u.2.1
def EntsW (w : World) (ad : Option Addr) (len : Nat) (l : List MEnt) : Prop :=
  l.length = len ∧ (l = [] ∨ ∃ b off, ad = some ⟨b, off, none⟩ ∧ b < w.heap.size ∧ ∀ i (h : i < l.length), EntAt w b (off + i * 4) l[i])
/-- An entry of a slice among the arguments, in each later world. -/
theorem entsW_all {w : World} {ad : Option Addr} {len : Nat} {l : List MEnt} (h : EntsW w ad len l) (i : Nat) (hi : i < len) : ∃ b off, ad = some ⟨b, off, none⟩ ∧ b < w.heap.size ∧ ∃ h' : i < l.length, FitN (l[i]).2.1 ∧ ∀ w', Below w.heap.size w w' → w'.rangeAt b (off + i * 4) (entC l[i]) := by
  have hl := h.1
  rcases h.2 with h0 | ⟨b, off, h1, h2, h3⟩
  · rw [h0] at hl; simp at hl; omega
  · have hp := h3 i (by omega)
    exact ⟨b, off, h1, h2, by omega, hp.fit, fun w' hb j v hv => (hb.cell (p := ⟨b, off + i * 4 + j, none⟩) h2).trans (hp.row j v hv)⟩
theorem fit_ofN {n : Int} (h : (Lit.int .i64 n).wf = true) : FitN n := by simpa [FitN, Lit.wf, IntKind.min, IntKind.max, IntKind.signed, IntKind.bits] using h

theorem openEntW {H : Type} {enc : TypeId × Value → H} {W : World} {base : Nat} {spare : Nat → Bool} {held : Bool} {n : Nat} {b o : Nat} {cs : List Value} {x : DataW H × List MemPlace}
    (h1 : W.cells? base ⟨b, o, none⟩ 4 = some cs) (h2 : DataW.trod enc Try.prog W base spare held n 45 cs = some x) : ∃ u, EntAt W b o u := by
  obtain ⟨_, hlen, hcell⟩ := World.cells?_some h1
  obtain ⟨xs, m, _, hx, _, hxl, hf⟩ := DataW.trod_struct Try.underlying45 h2
  have c1 : Try.prog.cellsOf 3 = 1 := by kernel_rfl
  have c2 : Try.prog.cellsOf 9 = 1 := by kernel_rfl
  have c3 : Try.prog.cellsOf 4 = 1 := by kernel_rfl
  match xs, hxl, cs, hlen with
  | [y0, y1, y2, y3], _, [v0, v1, v2, v3], _ =>
    have g0 := hf 0 _ rfl
    have g1 := hf 1 _ rfl
    have g2 := hf 2 _ rfl
    have g3 := hf 3 _ rfl
    simp [c1, c2, c3] at g0 g1 g2 g3
    obtain ⟨⟨⟨s0⟩⟩, e0, _, w0⟩ := DataW.trod_string Try.underlying9 g0
    obtain ⟨n1, e1, _, w1⟩ := DataW.trod_int Try.underlying3 g1
    obtain ⟨b2, e2, _⟩ := DataW.trod_bool Try.underlying4 g2
    obtain ⟨⟨⟨s3⟩⟩, e3, _, w3⟩ := DataW.trod_string Try.underlying9 g3
    simp at e0 e1 e2 e3
    subst e0 e1 e2 e3
    refine ⟨(s0, n1, b2, s3), ?_, fit_ofN w1⟩
    intro j v hv
    have hj : j < 4 := by have := (List.getElem?_eq_some_iff.1 hv).1; simpa [entC] using this
    have := hcell j hj
    rw [Addr.add_mid] at this
    rw [this]
    simpa [entC] using hv

theorem openEnts {H : Type} {enc : TypeId × Value → H} {W : World} {base : Nat} {spare : Nat → Bool} {held : Bool} {fuel : Nat} {ad : Option Addr} {len cap : Nat} {d : DataW H} {p : List MemPlace}
    (hf : DataW.trod enc Try.prog W base spare held fuel 34 (Value.slice ad len cap).cells.toList = some (d, p)) : ∃ l, EntsW W ad len l ∧ len ≤ cap := by
  have c6 : Try.prog.cellsOf 45 = 4 := by kernel_rfl
  rcases Go.Deep.open_slice Try.underlying34 hf with ⟨hcs, _⟩ | ⟨a, len', cap', m, n, D, Pl, hcs, _, hl, hm, hmm, hx, hel⟩
  · simp [Value.cells] at hcs
    obtain ⟨rfl, rfl, rfl⟩ := hcs
    exact ⟨[], ⟨rfl, .inl rfl⟩, Nat.le_refl _⟩
  · simp [Value.cells] at hcs
    obtain ⟨rfl, rfl, rfl⟩ := hcs
    have hlen : len ≤ m := by rw [hmm]; split <;> omega
    by_cases h0 : len = 0
    · subst h0; exact ⟨[], ⟨rfl, .inl rfl⟩, hl⟩
    · rw [c6] at hel
      obtain ⟨b, off, spot⟩ := a
      have hspot : spot = none := by
        obtain ⟨cs', g1, _⟩ := hel 0 (by omega)
        obtain ⟨_, hl3, hc⟩ := World.cells?_some g1
        have hc0 := hc 0 (by omega)
        have : ∃ v, cs'[0]? = some v := ⟨cs'[0]'(by omega), by rw [List.getElem?_eq_getElem (by omega)]⟩
        obtain ⟨v, hv⟩ := this
        rw [hv] at hc0
        simpa [Addr.add] using World.cell?_spot hc0
      subst hspot
      have each : ∀ i, i < len → ∃ u, EntAt W b (off + i * 4) u := fun i hi => by
        obtain ⟨cs', g1, g2⟩ := hel i (by omega)
        rw [Addr.add_mid] at g1
        exact openEntW g1 g2
      obtain ⟨f, hff⟩ : ∃ f : Nat → MEnt, ∀ i, i < len → EntAt W b (off + i * 4) (f i) := by
        refine ⟨fun i => if h : i < len then (each i h).choose else ([], 0, false, []), fun i hi => ?_⟩
        simp only [hi, dif_pos]
        exact (each i hi).choose_spec
      have hblk : b < W.heap.size := by
        have := (hff 0 (by omega)).row 0 _ rfl
        exact World.block_lt_of_cell? W _ this
      refine ⟨(List.range len).map f, ⟨by simp, .inr ⟨b, off, rfl, hblk, fun i hi => ?_⟩⟩, hl⟩
      have hi' : i < len := by simpa using hi
      have e : ((List.range len).map f)[i]'hi = f i := by simp
      rw [e]; exact hff i hi'

end Go.Proofs.Ytgcepbpdicadnaa
