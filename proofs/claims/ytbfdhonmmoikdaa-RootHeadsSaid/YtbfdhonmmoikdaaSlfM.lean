/- Mathematics of layer 5 (space): runs sorted by their first sectors, looked at one behind the other. No program. -/
import Derived.Test.YtbfdhonmmoikdaaSpcT
namespace Go.Proofs.Pk
set_option maxRecDepth 10000

/-- Runs looked at one behind the other: none empty, none ahead of the last one's end, none beyond the end. -/
def okR (total : Int) : Int → List (Int × Int) → Bool
  | _, [] => true
  | p, r :: l => !(decide (r.2 < 1) || decide (r.1 < p) || decide (total - r.1 < r.2)) && okR total (r.1 + r.2) l

theorem okR_iff : ∀ (l : List (Int × Int)) (p N : Nat), p ≤ N → (okR N p l = true ↔ (∀ r ∈ l, Good N r) ∧ Sorted' p N (l.map natR))
  | [], p, N, h => by simp [okR, Sorted', h]
  | (a, n) :: l, p, N, h => by
    simp only [okR, List.map_cons, Sorted', natR, List.mem_cons, forall_eq_or_imp, Bool.and_eq_true, Bool.not_eq_true', Bool.or_eq_false_iff, decide_eq_false_iff_not]
    by_cases hb : n < 1 ∨ a < p ∨ (N : Int) - a < n
    · constructor
      · rintro ⟨⟨⟨h1, h2⟩, h3⟩, _⟩; omega
      · rintro ⟨⟨hg, _⟩, h1, h2, h3, _⟩
        unfold Good at hg
        simp only at hg
        omega
    · obtain ⟨A, rfl⟩ := Int.eq_ofNat_of_zero_le (show 0 ≤ a by omega)
      obtain ⟨M, rfl⟩ := Int.eq_ofNat_of_zero_le (show 0 ≤ n by omega)
      have ih := okR_iff l (A + M) N (by omega)
      simp only [Int.toNat_natCast]
      have e : (A : Int) + (M : Int) = ((A + M : Nat) : Int) := by omega
      rw [e]
      constructor
      · rintro ⟨_, h4⟩
        obtain ⟨h5, h6⟩ := ih.1 h4
        refine ⟨⟨?_, h5⟩, by omega, by omega, by omega, h6⟩
        unfold Good; simp only; omega
      · rintro ⟨⟨_, h5⟩, _, _, _, h6⟩
        exact ⟨⟨⟨by omega, by omega⟩, by omega⟩, ih.2 ⟨h5, h6⟩⟩

theorem taken_sorted (used L : List (Int × Int)) (N : Nat) (hp : L.Perm used) (hs : L.Pairwise (fun r s => r.1 ≤ s.1)) :
    takeAll N used (List.replicate N false) = if okR N 0 L then some (rowOf 0 N (L.map natR)) else none := by
  have hiff := okR_iff L 0 N (Nat.zero_le _)
  have hm : (L.map natR).Perm (used.map natR) := hp.map natR
  have hs2 : (L.map natR).Pairwise (fun r s => r.1 ≤ s.1) := by
    rw [List.pairwise_map]
    exact hs.imp (fun h => by simp only [natR]; omega)
  by_cases hg : ∀ r ∈ used, Good N r
  · obtain ⟨h1, h2⟩ := take_sorted used N (L.map natR) hm hs2 hg
    split
    · rename_i h
      exact h1 (hiff.1 h).2
    · rename_i h
      refine h2 fun hx => h (hiff.2 ⟨fun r hr => hg r (hp.mem_iff.1 hr), hx⟩)
  · have hno : ¬okR N 0 L = true := fun h => hg fun r hr => (hiff.1 h).1 r (hp.mem_iff.2 hr)
    rw [if_neg hno]
    cases ht : takeAll N used (List.replicate N false) with
    | none => rfl
    | some t => exact absurd (takeAll_some used N _ t (by simp) ht).1 hg

theorem rowOf_free : ∀ (l : List (Nat × Nat)) (pos total : Nat), Sorted' pos total l → (rowOf pos total l).count false + (l.map (·.2)).sum = total - pos
  | [], pos, total, h => by simp [rowOf]
  | r :: l, pos, total, h => by
    obtain ⟨h1, h2, h3, h4⟩ := h
    have ih := rowOf_free l _ _ h4
    have hc : (List.replicate r.2 true).count false = 0 := List.count_eq_zero.2 (by simp)
    simp only [rowOf, List.count_append, List.count_replicate_self, hc, List.map_cons, List.sum_cons]
    omega

theorem gaps_end : ∀ (l : List (Nat × Nat)) (N : Nat), Sorted' N N l → l = []
  | [], _, _ => rfl
  | r :: l, N, h => by obtain ⟨h1, h2, h3, _⟩ := h; omega

theorem mark_count : ∀ (n k : Nat) (t t' : List Bool), k + n ≤ t.length → mark t k n = some t' → t'.count false + n = t.count false
  | 0, k, t, t', _, h => by
    have e : t = t' := by simpa [mark] using h
    subst e; omega
  | n + 1, k, t, t', hl, h => by
    rw [mark] at h
    split at h
    · cases h
    · rename_i h0
      have h0' : t.getD k false = false := by simpa using h0
      have ih := mark_count n (k + 1) (t.set k true) t' (by rw [List.length_set]; omega) h
      have hk : t[k]'(by omega) = false := by
        simpa [List.getD, List.getElem?_eq_getElem (show k < t.length by omega)] using h0'
      rw [List.count_set (by omega)] at ih
      have hc : 0 < t.count false := List.count_pos_iff.2 (by rw [← hk]; exact List.getElem_mem _)
      simp [hk] at ih
      omega
theorem takeAll_count : ∀ (l : List (Int × Int)) (N : Nat) (t t' : List Bool), t.length = N → takeAll N l t = some t' → t'.count false + ((l.map natR).map (·.2)).sum = t.count false
  | [], N, t, t', _, h => by
    have e : t = t' := by simpa [takeAll] using h
    subst e; simp
  | r :: l, N, t, t', hl, h => by
    rw [takeAll] at h
    split at h
    · rename_i hg
      obtain ⟨u, hu, hr⟩ := Option.bind_eq_some_iff.1 h
      have hn := hg.nat
      obtain ⟨_, b, _⟩ := mark_some _ _ _ _ (by omega) hu
      have h1 := mark_count _ _ _ _ (by omega) hu
      have h2 := takeAll_count l N u t' (by omega) hr
      simp only [List.map_cons, List.sum_cons]
      omega
    · cases h

theorem natR_int (r : Nat × Nat) : natR ((r.1 : Int), (r.2 : Int)) = r := by simp [natR]
def intR (r : Nat × Nat) : Int × Int := ((r.1 : Int), (r.2 : Int))
theorem intR_natR {total : Nat} {r : Int × Int} (h : Good total r) : intR (natR r) = r := by
  unfold Good at h
  obtain ⟨a, n⟩ := r
  simp only [intR, natR] at *
  ext <;> simp <;> omega
theorem map_intR {total : Nat} : ∀ {l : List (Int × Int)}, (∀ r ∈ l, Good total r) → (l.map natR).map intR = l
  | [], _ => rfl
  | r :: l, h => by rw [List.map_cons, List.map_cons, intR_natR (h r (by simp)), map_intR (fun x hx => h x (by simp [hx]))]

end Go.Proofs.Pk
