/- A region that draws its order, in which two operations that make memory may come in either order. No program. -/
import Derived.Test.YtbfdhonmmoikdaaOrd
namespace Go.Proofs.Pk
section
variable {P : Program} {ops : Array Oper} {Q : Exit → Act → World → Prop} {md : Region.Mode} {S : World → Prop} {z : Nat}

/-- Two may come up, i or j, and then the other one. -/
theorem wpAnyU_fork {i j : Nat} {oi oj : Oper} {fuel : Nat} {listed : Array Bool} {a : Act} {w : World} (di dj : Tmp) (hne : di ≠ dj) (hij : i ≠ j) (hi : ops[i]? = some oi) (hj : ops[j]? = some oj) (hdi : oi.dst = some di) (hdj : oj.dst = some dj)
    (hr : Region.ready md ops listed = [i, j]) (hri : Region.ready md ops (listed.setIfInBounds i true) = [j]) (hrj : Region.ready md ops (listed.setIfInBounds j true) = [i])
    (hgi : oi.guard = none) (hgj : oj.guard = none) (X : World → Value → Value → Prop)
    (h1 : ∃ vi w1 vj w2, (execOp a.eval oi).run P w = .ok (.value vi) w1 ∧ S w1 ∧ (execOp (a.put (some di) vi).eval oj).run P w1 = .ok (.value vj) w2 ∧ S w2 ∧ X w2 vi vj)
    (h2 : ∃ vj w1 vi w2, (execOp a.eval oj).run P w = .ok (.value vj) w1 ∧ S w1 ∧ (execOp (a.put (some dj) vj).eval oi).run P w1 = .ok (.value vi) w2 ∧ S w2 ∧ X w2 vi vj)
    (h : ∀ w' vi vj, S w' → X w' vi vj → wpAnyU P md ops Q S z fuel ((listed.setIfInBounds i true).setIfInBounds j true) ((a.put (some di) vi).put (some dj) vj) w') :
    wpAnyU P md ops Q S z (fuel + 1 + 1) listed a w := by
  refine ⟨fun h0 => absurd (hr ▸ h0) (by simp), ?_⟩
  rw [hr]
  intro k hk
  have hk2 : k = i ∨ k = j := by simpa using hk
  have wi : ∀ b : Act, Region.wanted oi (yielded ops b.tmps) = true := fun b => by simp [Region.wanted, hgi]
  have wj : ∀ b : Act, Region.wanted oj (yielded ops b.tmps) = true := fun b => by simp [Region.wanted, hgj]
  rcases hk2 with rfl | rfl
  · obtain ⟨vi, w1, vj, w2, e1, s1, e2, s2, x⟩ := h1
    unfold wpOp
    simp only [hi, wi, if_true, Oper.wp, e1, Oper.upon, hdi]
    refine .inl ⟨fun _ => s1, ?_⟩
    refine ⟨fun h0 => absurd (hri ▸ h0) (by simp), ?_⟩
    rw [hri]
    intro k hk
    obtain rfl : k = j := by simpa using hk
    unfold wpOp
    simp only [hj, wj, if_true, Oper.wp, e2, Oper.upon, hdj]
    exact .inl ⟨fun _ => s2, h w2 vi vj s2 x⟩
  · obtain ⟨vj, w1, vi, w2, e1, s1, e2, s2, x⟩ := h2
    unfold wpOp
    simp only [hj, wj, if_true, Oper.wp, e1, Oper.upon, hdj]
    refine .inl ⟨fun _ => s1, ?_⟩
    refine ⟨fun h0 => absurd (hrj ▸ h0) (by simp), ?_⟩
    rw [hrj]
    intro k' hk'
    obtain rfl : k' = i := by simpa using hk'
    unfold wpOp
    simp only [hi, wi, if_true, Oper.wp, e2, Oper.upon, hdi]
    refine .inl ⟨fun _ => s2, ?_⟩
    have hh := h w2 vi vj s2 x
    rw [Array.setIfInBounds_comm _ _ hij, Act.put_comm a vi vj (fun d hd e => by cases hd; cases e; exact hne rfl)] at hh
    exact hh
end
end Go.Proofs.Pk
