/- Layer 14: right but for numbers that stand twice. -/
import Derived.Test.YtjdolimeibpacaaGreatVnL
namespace Go.Proofs.YtjdolimeibpacaaGreat
open Go.RowKit Go.Proofs Go.Proofs.Pk
set_option maxRecDepth 10000

theorem chain_iff : ∀ l : List MetaV, chainM l = true ↔ ∀ i (h : i + 1 < l.length), okM (l[i]'(by omega)) l[i + 1] = true
  | [] => by simp [chainM]
  | [a] => by simp [chainM]
  | a :: b :: r => by
    have ih := chain_iff (b :: r)
    simp only [chainM, Bool.and_eq_true, ih]
    constructor
    · rintro ⟨h1, h2⟩ i hi
      cases i with
      | zero => exact h1
      | succ i => exact h2 i (by simpa using hi)
    · intro h
      exact ⟨h 0 (by simp), fun i hi => h (i + 1) (by simpa using hi)⟩
/-- Right, but for the numbers that stand twice. -/
structure AlmostR (v : VerV) : Prop where
  a : v.1.length ≤ 200 ∧ v.2.1.length ≤ 20 ∧ 0 ≤ v.2.2 ∧ v.2.2 ≤ 9007199254740991
  b : ∀ n ∈ v.2.1, 1 ≤ n ∧ n ≤ 9007199254740991
  c : ∀ m ∈ v.1, metaOk m = true
  d : ∀ i (h : i + 1 < v.1.length), okM (v.1[i]'(by omega)) v.1[i + 1] = true
theorem right_almost {v : VerV} (h : rightV v = true) : AlmostR v := by
  obtain ⟨h1, h2, h3, h4, _⟩ := right_ofV h
  exact ⟨h1, h2, h3, (chain_iff v.1).1 h4⟩
theorem almost_right {v : VerV} (h : AlmostR v) : rightV v = decide (idsV v).Nodup := by
  have h4 := (chain_iff v.1).2 h.d
  unfold rightV
  rw [decide_eq_true h.a, List.all_eq_true.2 (fun n hn => decide_eq_true (h.b n hn)), List.all_eq_true.2 h.c, h4]
  simp

end Go.Proofs.YtjdolimeibpacaaGreat
