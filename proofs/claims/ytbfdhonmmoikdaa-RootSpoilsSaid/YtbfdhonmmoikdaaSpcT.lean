/- Mathematics of layer 5 (space): runs taken one by one, in whatever order, and the same runs in order. No program. -/
import Derived.Test.YtbfdhonmmoikdaaSpcM
namespace Go.Proofs.Pk
set_option maxRecDepth 10000

/-- Sectors are marked one by one; none may be marked before. -/
def mark : List Bool → Nat → Nat → Option (List Bool)
  | t, _, 0 => some t
  | t, k, n + 1 => if t.getD k false = true then none else mark (t.set k true) (k + 1) n
/-- Is a run within so many sectors, and not empty? -/
def Good (total : Nat) (r : Int × Int) : Prop := ¬(r.2 < 1 ∨ r.1 < 0 ∨ (total : Int) < r.1 ∨ (total : Int) - r.1 < r.2)
instance (total : Nat) (r : Int × Int) : Decidable (Good total r) := inferInstanceAs (Decidable (¬_))
def natR (r : Int × Int) : Nat × Nat := (r.1.toNat, r.2.toNat)
def takeAll (total : Nat) : List (Int × Int) → List Bool → Option (List Bool)
  | [], t => some t
  | r :: l, t => if Good total r then (mark t (natR r).1 (natR r).2).bind (takeAll total l) else none

theorem getD_set (t : List Bool) (k i : Nat) (b : Bool) (hk : k < t.length) : (t.set k b).getD i false = if k = i then b else t.getD i false := by
  simp only [List.getD, List.getElem?_set]
  by_cases h : k = i
  · subst h; simp [hk]
  · simp [h]
theorem mark_some : ∀ (n k : Nat) (t t' : List Bool), k + n ≤ t.length → mark t k n = some t' →
    (∀ i, k ≤ i → i < k + n → t.getD i false = false) ∧ t'.length = t.length ∧ ∀ i, t'.getD i false = (t.getD i false || decide (k ≤ i ∧ i < k + n))
  | 0, k, t, t', _, h => by
    have e : t = t' := by simpa [mark] using h
    subst e
    exact ⟨fun i h1 h2 => by omega, rfl, fun i => by simp; omega⟩
  | n + 1, k, t, t', hl, h => by
    unfold mark at h
    split at h
    · cases h
    · rename_i h0
      have h0' : t.getD k false = false := by simpa using h0
      obtain ⟨a, b, c⟩ := mark_some n (k + 1) (t.set k true) t' (by rw [List.length_set]; omega) h
      refine ⟨fun i h1 h2 => ?_, by rw [b, List.length_set], fun i => ?_⟩
      · by_cases e : k = i
        · subst e; exact h0'
        · have := a i (by omega) (by omega)
          rwa [getD_set _ _ _ _ (by omega), if_neg e] at this
      · rw [c i, getD_set _ _ _ _ (by omega)]
        by_cases e : k = i
        · subst e; simp
        · rw [if_neg e]; congr 1; exact decide_eq_decide.2 (by omega)
theorem mark_ok : ∀ (n k : Nat) (t : List Bool), k + n ≤ t.length → (∀ i, k ≤ i → i < k + n → t.getD i false = false) → ∃ t', mark t k n = some t'
  | 0, k, t, _, _ => ⟨t, rfl⟩
  | n + 1, k, t, hl, h => by
    have h0 := h k (Nat.le_refl _) (by omega)
    obtain ⟨t', ht⟩ := mark_ok n (k + 1) (t.set k true) (by rw [List.length_set]; omega) (fun i h1 h2 => by
      rw [getD_set _ _ _ _ (by omega), if_neg (by omega)]; exact h i (by omega) (by omega))
    exact ⟨t', by unfold mark; rw [if_neg (by rw [h0]; decide)]; exact ht⟩

/-- Two runs that have no sector in common. -/
def Apart (r s : Nat × Nat) : Prop := r.1 + r.2 ≤ s.1 ∨ s.1 + s.2 ≤ r.1
theorem Good.nat {total : Nat} {r : Int × Int} (h : Good total r) : 1 ≤ (natR r).2 ∧ (natR r).1 + (natR r).2 ≤ total := by
  unfold Good at h; unfold natR; simp only; omega
theorem takeAll_some : ∀ (l : List (Int × Int)) (total : Nat) (t t' : List Bool), t.length = total → takeAll total l t = some t' →
    (∀ r ∈ l, Good total r) ∧ (l.map natR).Pairwise Apart ∧ (∀ r ∈ l, ∀ i, (natR r).1 ≤ i → i < (natR r).1 + (natR r).2 → t.getD i false = false) ∧ t'.length = total ∧
      ∀ i, (t'.getD i false = true ↔ t.getD i false = true ∨ holdsK (l.map natR) i)
  | [], total, t, t', hl, h => by
    have e : t = t' := by simpa [takeAll] using h
    subst e
    exact ⟨by simp, by simp, by simp, hl, fun i => by simp [holdsK]⟩
  | r :: l, total, t, t', hl, h => by
    unfold takeAll at h
    split at h
    · rename_i hg
      obtain ⟨u, hu, hr⟩ := Option.bind_eq_some_iff.1 h
      have hn := hg.nat
      obtain ⟨a, b, c⟩ := mark_some _ _ _ _ (by omega) hu
      obtain ⟨d1, d2, d3, d4, d5⟩ := takeAll_some l total u t' (by omega) hr
      refine ⟨fun x hx => ?_, ?_, fun x hx i h1 h2 => ?_, d4, fun i => ?_⟩
      · rcases List.mem_cons.1 hx with rfl | hx
        · exact hg
        · exact d1 x hx
      · rw [List.map_cons, List.pairwise_cons]
        refine ⟨fun y hy => ?_, d2⟩
        obtain ⟨x, hx, rfl⟩ := List.mem_map.1 hy
        have hx1 := (d1 x hx).nat
        have hd := d3 x hx
        unfold Apart
        by_cases e : (natR r).1 + (natR r).2 ≤ (natR x).1 ∨ (natR x).1 + (natR x).2 ≤ (natR r).1
        · exact e
        · exfalso
          have h1 := hd (max (natR r).1 (natR x).1) (by omega) (by omega)
          rw [c, Bool.or_eq_false_iff] at h1
          have := h1.2
          simp at this
          omega
      · rcases List.mem_cons.1 hx with rfl | hx
        · exact a i h1 h2
        · have := d3 x hx i h1 h2
          rw [c, Bool.or_eq_false_iff] at this
          exact this.1
      · rw [d5 i, c i]
        simp only [Bool.or_eq_true, decide_eq_true_eq, holdsK, List.map_cons, List.mem_cons]
        constructor
        · rintro ((h | h) | ⟨x, hx, h1, h2⟩)
          · exact .inl h
          · exact .inr ⟨_, .inl rfl, h.1, h.2⟩
          · exact .inr ⟨x, .inr hx, h1, h2⟩
        · rintro (h | ⟨x, rfl | hx, h1, h2⟩)
          · exact .inl (.inl h)
          · exact .inl (.inr ⟨h1, h2⟩)
          · exact .inr ⟨x, hx, h1, h2⟩
    · cases h
theorem takeAll_ok : ∀ (l : List (Int × Int)) (total : Nat) (t : List Bool), t.length = total → (∀ r ∈ l, Good total r) → (l.map natR).Pairwise Apart →
    (∀ r ∈ l, ∀ i, (natR r).1 ≤ i → i < (natR r).1 + (natR r).2 → t.getD i false = false) → ∃ t', takeAll total l t = some t'
  | [], _, t, _, _, _, _ => ⟨t, rfl⟩
  | r :: l, total, t, hl, hg, hp, hf => by
    have hg0 := hg r (by simp)
    have hn := hg0.nat
    rw [List.map_cons, List.pairwise_cons] at hp
    obtain ⟨u, hu⟩ := mark_ok (natR r).2 (natR r).1 t (by omega) (hf r (by simp))
    obtain ⟨a, b, c⟩ := mark_some _ _ _ _ (by omega) hu
    obtain ⟨t', ht⟩ := takeAll_ok l total u (by omega) (fun x hx => hg x (by simp [hx])) hp.2 (fun x hx i h1 h2 => by
      rw [c, hf x (by simp [hx]) i h1 h2, Bool.false_or, decide_eq_false_iff_not]
      rcases hp.1 (natR x) (List.mem_map.2 ⟨x, hx, rfl⟩) with h | h <;> omega)
    exact ⟨t', by unfold takeAll; rw [if_pos hg0, hu]; exact ht⟩

/-- Runs in order that are apart lie one behind the other. -/
theorem sorted_of : ∀ (l : List (Nat × Nat)) (pos total : Nat), pos ≤ total → (∀ r ∈ l, pos ≤ r.1 ∧ 1 ≤ r.2 ∧ r.1 + r.2 ≤ total) → l.Pairwise (fun r s => r.1 ≤ s.1) → l.Pairwise Apart → Sorted' pos total l
  | [], _, _, hp, _, _, _ => hp
  | r :: l, pos, total, hp, hg, hs, ha => by
    obtain ⟨h1, h2, h3⟩ := hg r (by simp)
    rw [List.pairwise_cons] at hs ha
    refine ⟨h1, h2, h3, sorted_of l _ _ h3 (fun x hx => ?_) hs.2 ha.2⟩
    obtain ⟨g1, g2, g3⟩ := hg x (by simp [hx])
    have hsx := hs.1 x hx
    rcases ha.1 x hx with h | h
    · exact ⟨h, g2, g3⟩
    · omega
theorem Sorted'.low : ∀ {l : List (Nat × Nat)} {pos total : Nat}, Sorted' pos total l → ∀ x ∈ l, pos ≤ x.1 ∧ 1 ≤ x.2 ∧ x.1 + x.2 ≤ total
  | y :: l, pos, total, h, x, hx => by
    obtain ⟨h1, h2, h3, h4⟩ := h
    rcases List.mem_cons.1 hx with rfl | hx
    · exact ⟨h1, h2, h3⟩
    · have := Sorted'.low h4 x hx; omega
theorem Sorted'.apart : ∀ {l : List (Nat × Nat)} {pos total : Nat}, Sorted' pos total l → l.Pairwise Apart
  | [], _, _, _ => List.Pairwise.nil
  | y :: l, pos, total, h => by
    obtain ⟨h1, h2, h3, h4⟩ := h
    rw [List.pairwise_cons]
    exact ⟨fun x hx => .inl (h4.low x hx).1, h4.apart⟩
theorem Apart.symm {r s : Nat × Nat} (h : Apart r s) : Apart s r := h.elim .inr .inl

/-- Runs taken one by one, and the same runs in order: they are right together, and take the same sectors. -/
theorem take_sorted (used : List (Int × Int)) (total : Nat) (l : List (Nat × Nat)) (hl : l.Perm (used.map natR)) (hs : l.Pairwise (fun r s => r.1 ≤ s.1)) (hg : ∀ r ∈ used, Good total r) :
    (Sorted' 0 total l → takeAll total used (List.replicate total false) = some (rowOf 0 total l)) ∧ (¬Sorted' 0 total l → takeAll total used (List.replicate total false) = none) := by
  have hz : ∀ i, (List.replicate total false).getD i false = false := fun i => by
    simp only [List.getD, List.getElem?_replicate]; split <;> rfl
  constructor
  · intro h
    have hp : (used.map natR).Pairwise Apart := (hl.pairwise_iff (fun h => h.symm)).1 h.apart
    obtain ⟨t', ht⟩ := takeAll_ok used total (List.replicate total false) (by simp) hg hp (fun r _ i _ _ => hz i)
    obtain ⟨_, _, _, e4, e5⟩ := takeAll_some used total _ t' (by simp) ht
    rw [ht]
    congr 1
    apply List.ext_getElem?
    intro i
    by_cases hi : i < total
    · have h1 := e5 i
      rw [hz i] at h1
      have h2 := rowOf_get l 0 total h i (Nat.zero_le _) hi
      rw [Nat.sub_zero] at h2
      have hk : holdsK (used.map natR) i ↔ holdsK l i := ⟨fun ⟨r, hr, hx⟩ => ⟨r, hl.mem_iff.2 hr, hx⟩, fun ⟨r, hr, hx⟩ => ⟨r, hl.mem_iff.1 hr, hx⟩⟩
      have hlen := rowOf_length l 0 total h
      obtain ⟨b, hb⟩ : ∃ b, t'[i]? = some b := ⟨t'[i]'(by omega), List.getElem?_eq_getElem (by omega)⟩
      obtain ⟨c, hc⟩ : ∃ c, (rowOf 0 total l)[i]? = some c := ⟨(rowOf 0 total l)[i]'(by omega), List.getElem?_eq_getElem (by omega)⟩
      simp only [List.getD, hb, Option.getD_some] at h1
      rw [hc] at h2
      rw [hb, hc]
      congr 1
      have h3 : b = true ↔ c = true := by
        rw [h1, hk]; simp at h2 ⊢; exact h2.symm
      cases b <;> cases c <;> first | rfl | exact absurd (h3.1 rfl) (by decide) | exact absurd (h3.2 rfl) (by decide)
    · rw [List.getElem?_eq_none (by omega), List.getElem?_eq_none (by rw [rowOf_length l 0 total h]; omega)]
  · intro h
    cases ht : takeAll total used (List.replicate total false) with
    | none => rfl
    | some t' =>
      obtain ⟨e1, e2, _, _, _⟩ := takeAll_some used total _ t' (by simp) ht
      exact absurd (sorted_of l 0 total (Nat.zero_le _) (fun r hr => by
        obtain ⟨x, hx, rfl⟩ := List.mem_map.1 (hl.mem_iff.1 hr)
        have := (e1 x hx).nat; omega) hs ((hl.pairwise_iff (fun h => h.symm)).2 e2)) h

end Go.Proofs.Pk
