/- Layer 6 as mathematics: when a root is right, in so many words; a file more; a file that is not right. -/
import Derived.Test.YtbfdhonmmoikdaaRtE
namespace Go.Proofs.Ytbfdhonmmoikdaa
open Go.RowKit Go.Proofs Go.Proofs.Pk
set_option maxRecDepth 10000

theorem takenO_iff (T : Int) (l : List (Int × Int)) : (takenO T l).isSome = true ↔ ∃ N : Nat, T = (N : Int) ∧ N ≤ 4000 ∧ l.length ≤ 200 ∧ (∀ r ∈ l, Pk.Good N r) ∧ (l.map natR).Pairwise Apart := by
  constructor
  · intro h
    obtain ⟨t, ht⟩ := Option.isSome_iff_exists.1 h
    obtain ⟨N, e, h1, h2, h3, _⟩ := takenO_some ht
    obtain ⟨g1, g2, _⟩ := takeAll_some l N _ t (by simp) h3
    exact ⟨N, e, h1, h2, g1, g2⟩
  · rintro ⟨N, rfl, h1, h2, h3, h4⟩
    rw [takenO_nat h1 h2]
    obtain ⟨t, ht⟩ := takeAll_ok l N (List.replicate N false) (by simp) h3 h4 (fun r _ i _ _ => by
      simp only [List.getD, List.getElem?_replicate]; split <;> rfl)
    rw [ht]; rfl
theorem okF_iff (next : Int) : ∀ (l : List FileV) (last : Int), okF next last l = true ↔ (∀ f ∈ l, last < f.1 ∧ f.1 < next ∧ 18 ≤ f.2.1) ∧ l.Pairwise (fun f g => f.1 < g.1)
  | [], last => by simp [okF]
  | f :: l, last => by
    have ih := okF_iff next l f.1
    rw [okF, Bool.and_eq_true, ih, List.pairwise_cons]
    simp only [Bool.not_eq_true', Bool.or_eq_false_iff, decide_eq_false_iff_not, List.mem_cons, forall_eq_or_imp]
    constructor
    · rintro ⟨⟨⟨h1, h2⟩, h3⟩, h4, h5⟩
      exact ⟨⟨⟨by omega, by omega, by omega⟩, fun g hg => by have := h4 g hg; omega⟩, fun g hg => (h4 g hg).1, h5⟩
    · rintro ⟨⟨⟨h1, h2, h3⟩, h4⟩, h5, h6⟩
      exact ⟨⟨⟨by omega, by omega⟩, by omega⟩, fun g hg => ⟨h5 g hg, (h4 g hg).2⟩, h6⟩
theorem curF_iff (cur : Int) (l : List FileV) : curF cur l = true ↔ cur = 0 ∨ ∃ f ∈ l, f.1 = cur := by
  unfold curF; simp [List.any_eq_true]
/-- When a root is right. -/
structure RightP (T seq next cur : Int) (l : List FileV) : Prop where
  aSeq : 1 ≤ seq ∧ seq ≤ 9007199254740991
  aNext : 1 ≤ next ∧ next ≤ 9007199254740991
  few : l.length ≤ 24
  each : ∀ f ∈ l, 0 < f.1 ∧ f.1 < next ∧ 18 ≤ f.2.1
  up : l.Pairwise (fun f g => f.1 < g.1)
  aCur : cur = 0 ∨ ∃ f ∈ l, f.1 = cur
  runs : ∃ N : Nat, T = (N : Int) ∧ N ≤ 4000 ∧ (∀ r ∈ usedF l, Pk.Good N r) ∧ ((usedF l).map natR).Pairwise Apart
theorem right_prop (T seq next cur : Int) (l : List FileV) : rightV T seq next cur l = true ↔ RightP T seq next cur l := by
  have hu : (usedF l).length = l.length := by unfold usedF; simp
  unfold rightV headF
  simp only [Bool.and_eq_true, decide_eq_true_eq, okF_iff, curF_iff, takenO_iff]
  constructor
  · rintro ⟨⟨⟨⟨⟨⟨⟨h1, h2⟩, h3⟩, h4⟩, h5⟩, h6, h7⟩, h8⟩, N, e, h9, _, h10, h11⟩
    exact ⟨⟨h1, h2⟩, ⟨h3, h4⟩, by omega, h6, h7, h8, N, e, h9, h10, h11⟩
  · rintro ⟨⟨h1, h2⟩, ⟨h3, h4⟩, h5, h6, h7, h8, N, e, h9, h10, h11⟩
    exact ⟨⟨⟨⟨⟨⟨⟨h1, h2⟩, h3⟩, h4⟩, by omega⟩, h6, h7⟩, h8⟩, N, e, h9, by omega, h10, h11⟩

/-- A file more behind all. -/
theorem right_next {T seq next cur at_ many : Int} {l : List FileV} (h : RightP T seq next cur l) (hs : seq < 9007199254740991) (hn : next < 9007199254740991) (h18 : 18 ≤ at_) (hend : ∀ f ∈ l, f.2.1 + f.2.2 ≤ at_) :
    rightV T (seq + 1) (next + 1) cur (l ++ [(next, at_, many)]) = true ↔ 1 ≤ many ∧ at_ ≤ T ∧ many ≤ T - at_ ∧ l.length + 1 ≤ 24 := by
  obtain ⟨q1, q2, q3, q4, q5, q6, N, e, q7, q8, q9⟩ := h
  rw [right_prop]
  constructor
  · rintro ⟨_, _, p3, _, _, _, N', e', _, p8, _⟩
    have g := p8 (at_, many) (by unfold usedF; simp)
    unfold Pk.Good at g
    simp only at g
    simp only [List.length_append, List.length_cons, List.length_nil] at p3
    omega
  · rintro ⟨m1, m2, m3, m4⟩
    refine ⟨by omega, by omega, by simp; omega, fun f hf => ?_, ?_, ?_, N, e, q7, fun r hr => ?_, ?_⟩
    · rcases List.mem_append.1 hf with hf | hf
      · have := q4 f hf; omega
      · simp at hf; subst hf; simp only; omega
    · rw [List.pairwise_append]
      refine ⟨q5, by simp, fun f hf g hg => ?_⟩
      simp at hg; subst hg
      exact (q4 f hf).2.1
    · rcases q6 with q6 | ⟨f, hf, q6⟩
      · exact .inl q6
      · exact .inr ⟨f, by simp [hf], q6⟩
    · rw [usedF_snoc] at hr
      rcases List.mem_append.1 hr with hr | hr
      · exact q8 r hr
      · simp at hr; subst hr; unfold Pk.Good; simp only; omega
    · rw [usedF_snoc, List.map_append, List.pairwise_append]
      refine ⟨q9, by simp, fun r hr s hs => ?_⟩
      simp at hs; subst hs
      obtain ⟨u, hu, rfl⟩ := List.mem_map.1 hr
      unfold usedF at hu
      obtain ⟨f, hf, rfl⟩ := List.mem_map.1 hu
      have h1 := hend f hf
      have h2 := q8 f.2 (by unfold usedF; exact List.mem_map_of_mem hf)
      unfold Pk.Good at h2
      left
      unfold natR
      simp only
      omega
theorem right_bare {T seq next cur : Int} {l : List FileV} (h : RightP T seq next cur l) : rightV T seq next 0 [] = true := by
  obtain ⟨q1, q2, q3, q4, q5, q6, N, e, q7, q8, q9⟩ := h
  rw [right_prop]
  exact ⟨q1, q2, by simp, by simp, by simp, .inl rfl, N, e, q7, by simp [usedF], by simp [usedF]⟩

theorem mem_set_self {α : Type} {l : List α} {i : Nat} {a : α} (h : i < l.length) : a ∈ l.set i a := by
  have := List.getElem_mem (l := l.set i a) (n := i) (by rw [List.length_set]; exact h)
  rwa [List.getElem_set_self] at this
theorem not_right {T seq next cur : Int} {l : List FileV} (h : ¬RightP T seq next cur l) : rightV T seq next cur l = false := by
  cases e : rightV T seq next cur l with
  | false => rfl
  | true => exact absurd ((right_prop ..).1 e) h
/-- A file that lies among the first sectors. -/
theorem spoil_low {T seq next cur : Int} {l : List FileV} {i : Nat} (hi : i < l.length) (f : FileV) : rightV T seq next cur (l.set i (f.1, 17, f.2.2)) = false :=
  not_right fun h => by have := (h.each _ (mem_set_self hi)).2.2; simp only at this; omega
/-- A file without a sector. -/
theorem spoil_none {T seq next cur : Int} {l : List FileV} {i : Nat} (hi : i < l.length) (f : FileV) : rightV T seq next cur (l.set i (f.1, f.2.1, 0)) = false :=
  not_right fun h => by
    obtain ⟨N, _, _, h8, _⟩ := h.runs
    have := h8 (f.2.1, 0) (by unfold usedF; exact List.mem_map.2 ⟨_, mem_set_self hi, rfl⟩)
    unfold Pk.Good at this; simp only at this; omega
/-- A file's number once more. -/
theorem spoil_twice {T seq next cur at_ many : Int} {l : List FileV} {i : Nat} (hi : i < l.length) : rightV T seq next cur (l ++ [((l[i]).1, at_, many)]) = false :=
  not_right fun h => by
    have := h.up
    rw [List.pairwise_append] at this
    have := this.2.2 l[i] (List.getElem_mem hi) ((l[i]).1, at_, many) (by simp)
    simp only at this; omega
/-- A file with the next number. -/
theorem spoil_next {T seq next cur : Int} {l : List FileV} {i : Nat} (hi : i < l.length) (f : FileV) : rightV T seq next cur (l.set i (next, f.2.1, f.2.2)) = false :=
  not_right fun h => by have := (h.each _ (mem_set_self hi)).2.1; simp only at this; omega
/-- The next number as the current one. -/
theorem spoil_cur {T seq next : Int} {l : List FileV} : rightV T seq next next l = false :=
  not_right fun h => by
    rcases h.aCur with h0 | ⟨f, hf, h0⟩
    · have := h.aNext; omega
    · have := h.each f hf; omega

end Go.Proofs.Ytbfdhonmmoikdaa
