/- MgR, OutO. -/
import Derived.Test.YthkejfhcdodggaaJ03
import Derived.Test.YthkejfhcdodggaaJ02
import Derived.Test.YthkejfhcdodggaaJ05
import Derived.Test.YthkejfhcdodggaaJ04

/- Mathematics of layer 15, step by step: which place of a sorted list is seen, which is needed, told by the place before it. No program. -/
namespace Go.Proofs.Pk
set_option maxRecDepth 10000

theorem bef_key {a b : MEnt} (h : befM a b = true) : a.1 = b.1 ∨ a.1 < b.1 := by
  unfold befM at h
  by_cases hk : a.1 = b.1
  · exact .inl hk
  · rw [if_neg hk] at h; exact .inr (by simpa using h)
theorem bef_seq {a b : MEnt} (h : befM a b = true) (hk : a.1 = b.1) : b.2.1 < a.2.1 := by
  unfold befM at h; rw [if_pos hk] at h; simpa using h
theorem up_at {l : List MEnt} (hu : UpM l) {i j : Nat} (hj : j < l.length) (hij : i < j) : befM (l[i]'(by omega)) l[j] = true := List.pairwise_iff_getElem.1 hu i j (by omega) hj hij
/-- Between two of a key lies that key alone. -/
theorem key_mid {a b c : MEnt} (h1 : befM a b = true) (h2 : befM b c = true) (hk : a.1 = c.1) : b.1 = c.1 := by
  rcases bef_key h2 with h | h
  · exact h
  · rcases bef_key h1 with g | g
    · exact g.symm.trans hk
    · rw [hk] at g
      exact absurd (List.lt_trans g h) (List.lt_irrefl _)
/-- Is a place of a sorted list the first of its key up to a number? -/
theorem first_iff {l : List MEnt} (hu : UpM l) {i : Nat} (hi : i < l.length) (s : Int) :
    (∀ x ∈ l, x.1 = l[i].1 → x.2.1 ≤ s → x.2.1 ≤ l[i].2.1) ↔ i = 0 ∨ (l[i - 1]'(by omega)).1 ≠ l[i].1 ∨ s < (l[i - 1]'(by omega)).2.1 := by
  constructor
  · intro h
    by_cases h0 : i = 0
    · exact .inl h0
    · by_cases hk : (l[i - 1]'(by omega)).1 = l[i].1
      · refine .inr (.inr ?_)
        have hb := up_at hu hi (show i - 1 < i by omega)
        have hs := bef_seq hb hk
        by_cases hle : (l[i - 1]'(by omega)).2.1 ≤ s
        · have := h _ (List.getElem_mem (by omega)) hk hle
          omega
        · omega
      · exact .inr (.inl hk)
  · intro h x hx hk hs
    obtain ⟨j, hj, rfl⟩ := List.getElem_of_mem hx
    rcases Nat.lt_trichotomy j i with hji | hji | hji
    · have hb := up_at hu hi hji
      have hq : (l[i - 1]'(by omega)).1 = l[i].1 ∧ l[j].2.1 ≥ (l[i - 1]'(by omega)).2.1 := by
        by_cases he : j = i - 1
        · subst he; exact ⟨hk, Int.le_refl _⟩
        · have hb1 := up_at hu (show i - 1 < l.length by omega) (show j < i - 1 by omega)
          have hb2 := up_at hu hi (show i - 1 < i by omega)
          have hk2 := key_mid hb1 hb2 hk
          have := bef_seq hb1 (hk.trans hk2.symm)
          exact ⟨hk2, by omega⟩
      rcases h with h | h | h
      · omega
      · exact absurd hq.1 h
      · omega
    · subst hji; exact Int.le_refl _
    · have := bef_seq (up_at hu hj hji) hk.symm
      omega
theorem find_at {l : List MEnt} (hu : UpM l) {i : Nat} (hi : i < l.length) (s : Int) :
    findM l l[i].1 s = some l[i] ↔ l[i].2.1 ≤ s ∧ (i = 0 ∨ (l[i - 1]'(by omega)).1 ≠ l[i].1 ∨ s < (l[i - 1]'(by omega)).2.1) := by
  rw [find_iff hu, ← first_iff hu hi s]
  exact ⟨fun h => ⟨h.2.2.1, h.2.2.2⟩, fun h => ⟨List.getElem_mem hi, rfl, h.1, h.2⟩⟩
theorem head_at {l : List MEnt} (hu : UpM l) {i : Nat} (hi : i < l.length) : headM l l[i] = true ↔ i = 0 ∨ (l[i - 1]'(by omega)).1 ≠ l[i].1 := by
  unfold headM
  rw [decide_eq_true_eq]
  obtain ⟨M, hM⟩ := bound_seq l
  constructor
  · intro h
    rcases (first_iff hu hi M).1 (fun x hx hk _ => h x hx hk) with g | g | g
    · exact .inl g
    · exact .inr g
    · have := hM _ (List.getElem_mem (show i - 1 < l.length by omega))
      omega
  · intro h x hx hk
    exact (first_iff hu hi M).2 (h.imp_right .inl) x hx hk (hM x hx)
/-- What is needed, told by the place before. -/
theorem need_at {l : List MEnt} (hu : UpM l) {i : Nat} (hi : i < l.length) (ks : List Int) :
    needM l ks l[i] = true ↔ (i = 0 ∨ (l[i - 1]'(by omega)).1 ≠ l[i].1) ∨ ∃ n ∈ ks, l[i].2.1 ≤ n ∧ n < (l[i - 1]'(by omega)).2.1 := by
  unfold needM
  rw [Bool.or_eq_true, head_at hu hi, List.any_eq_true]
  constructor
  · rintro (h | ⟨n, hn, hp⟩)
    · exact .inl h
    · obtain ⟨h1, h2⟩ := (find_at hu hi n).1 (of_decide_eq_true hp)
      rcases h2 with h2 | h2 | h2
      · exact .inl (.inl h2)
      · exact .inl (.inr h2)
      · exact .inr ⟨n, hn, h1, h2⟩
  · rintro (h | ⟨n, hn, h1, h2⟩)
    · exact .inl h
    · exact .inr ⟨n, hn, decide_eq_true ((find_at hu hi n).2 ⟨h1, .inr (.inr h2)⟩)⟩
/-- Is a place seen? -/
def seenB (l : List MEnt) (s : Int) (e : MEnt) : Bool := decide (findM l e.1 s = some e) && !e.2.2.1
theorem see_take {l : List MEnt} (s : Int) {i : Nat} (hi : i < l.length) : (l.take (i + 1)).filter (seenB l s) = (l.take i).filter (seenB l s) ++ if seenB l s l[i] = true then [l[i]] else [] := by
  rw [List.take_succ_eq_append_getElem hi, List.filter_append]
  congr 1
  rw [List.filter_cons, List.filter_nil]
theorem see_all (l : List MEnt) (s : Int) : (l.take l.length).filter (seenB l s) = seeM l s := by rw [List.take_length]; rfl
theorem seen_at {l : List MEnt} (hu : UpM l) {i : Nat} (hi : i < l.length) (s : Int) :
    seenB l s l[i] = true ↔ l[i].2.1 ≤ s ∧ (i = 0 ∨ (l[i - 1]'(by omega)).1 ≠ l[i].1 ∨ s < (l[i - 1]'(by omega)).2.1) ∧ l[i].2.2.1 = false := by
  unfold seenB
  rw [Bool.and_eq_true, decide_eq_true_eq, find_at hu hi s, Bool.not_eq_true', and_assoc]
end Go.Proofs.Pk

/- A list of entries that grows in a row of its own. -/
namespace Go.Proofs.Ythkejfhcdodggaa
open Go.RowKit Go.Proofs Go.Proofs.Pk
set_option maxRecDepth 10000

/-- A list that grows in a row of its own. -/
def OutO (w0 w : World) (ad : Option Addr) (n cap : Nat) (T : List MEnt) : Prop := T.length = n ∧ w.ownsRow w0.heap.size 34 4 (.slice ad n cap) n (cellsM T) ∧ Kept (fun _ => False) w0 w ∧ ∀ e ∈ T, FitN e.2.1
theorem OutO.nil {w0 w : World} (h : Kept (fun _ => False) w0 w) : OutO w0 w none 0 0 [] := ⟨rfl, World.ownsRow_nil _ _ _ _, h, fun _ h => (by cases h)⟩
theorem OutO.drewN {w0 w : World} {ad : Option Addr} {n cap : Nat} {T : List MEnt} (h : OutO w0 w ad n cap T) (k : Nat) : OutO w0 (w.drewN k) ad n cap T := ⟨h.1, owns_of_block h.2.1 fun _ _ => rfl, h.2.2.1.drewN k, h.2.2.2⟩
theorem OutO.kept {w0 w w' : World} {ad : Option Addr} {n cap : Nat} {T : List MEnt} (h : OutO w0 w ad n cap T) (hk : Kept (fun _ => False) w w') : OutO w0 w' ad n cap T :=
  ⟨h.1, owns_of_block h.2.1 fun g hg => hk.block g (h.2.1.lt g hg).2 (fun f => f), h.2.2.1.trans hk (fun _ f => f.elim), h.2.2.2⟩
theorem OutO.grown {w0 wx wy wB : World} {ad : Option Addr} {n cap : Nat} {T : List MEnt} {x : MEnt} {v : Value} (h : OutO w0 wx ad n cap T) (hf : FitN x.2.1) (hy : Kept (fun _ => False) wx wy) (h2 : wB.ownsRow w0.heap.size 34 4 v (n + 1) (cellsM T ++ entC x)) (hg : wy.grownBy wB (Value.slice ad n cap).ownBlock) :
    ∃ ad2 cap2, v = .slice ad2 (n + 1) cap2 ∧ OutO w0 wB ad2 (n + 1) cap2 (T ++ [x]) := by
  obtain ⟨ad2, cap2, rfl⟩ : ∃ ad2 cap2, v = .slice ad2 (n + 1) cap2 := by
    rcases h2.2 with ⟨_, h⟩ | ⟨g, cap, cur, h, _⟩
    · omega
    · exact ⟨_, _, h⟩
  refine ⟨ad2, cap2, rfl, by rw [List.length_append, h.1]; rfl, by rw [cellsM_append]; simpa [cellsM] using h2, kept_grown (h.2.2.1.trans hy (fun _ f => f.elim)) hg (fun b hb => .inr (h.2.1.lt b hb).1), fun e he => ?_⟩
  rcases List.mem_append.1 he with he | he
  · exact h.2.2.2 e he
  · rw [List.mem_singleton] at he; subst he; exact hf
theorem OutO.join {w0 wx wy wB : World} {ad : Option Addr} {n cap m : Nat} {T p : List MEnt} {v : Value} (h : OutO w0 wx ad n cap T) (hp : p.length = m) (hf : ∀ e ∈ p, FitN e.2.1) (hm : 0 < m) (hy : Kept (fun _ => False) wx wy) (h2 : wB.ownsRow w0.heap.size 34 4 v (n + m) (cellsM T ++ cellsM p)) (hg : wy.grownBy wB (Value.slice ad n cap).ownBlock) :
    ∃ ad2 cap2, v = .slice ad2 (n + m) cap2 ∧ OutO w0 wB ad2 (n + m) cap2 (T ++ p) := by
  obtain ⟨ad2, cap2, rfl⟩ : ∃ ad2 cap2, v = .slice ad2 (n + m) cap2 := by
    rcases h2.2 with ⟨_, h⟩ | ⟨g, cap, cur, h, _⟩
    · omega
    · exact ⟨_, _, h⟩
  refine ⟨ad2, cap2, rfl, by rw [List.length_append, h.1, hp], by rw [cellsM_append]; exact h2, kept_grown (h.2.2.1.trans hy (fun _ f => f.elim)) hg (fun b hb => .inr (h.2.1.lt b hb).1), fun e he => ?_⟩
  rcases List.mem_append.1 he with he | he
  · exact h.2.2.2 e he
  · exact hf e he

theorem ents_cells {W : World} {b off len : Nat} {l : List MEnt} (h : EntsW W (some ⟨b, off, none⟩) len l) (m : Nat) (u : Value) (hu : (cellsM l)[m]? = some u) : W.cell? ⟨b, off + m, none⟩ = some u := by
  rcases h.2 with h0 | ⟨b', off', h1, h2, h3⟩
  · rw [h0] at hu; simp [cellsM] at hu
  · cases h1
    have hm : m < l.length * 4 := by have := (List.getElem?_eq_some_iff.1 hu).1; rwa [cellsM_length] at this
    have hi : m / 4 < l.length := by omega
    have hr := (h3 (m / 4) hi).row (m % 4)
    have hx : ∃ v, (entC l[m / 4])[m % 4]? = some v := by
      have : m % 4 < (entC l[m / 4]).length := by simp [entC]; omega
      exact ⟨_, List.getElem?_eq_getElem this⟩
    obtain ⟨v, hv⟩ := hx
    have e1 := cellsM_get l (m / 4) hi (m % 4) v hv
    rw [show m / 4 * 4 + m % 4 = m from by omega, hu] at e1
    cases e1
    have := hr _ hv
    rwa [show off + m / 4 * 4 + m % 4 = off + m from by omega] at this

end Go.Proofs.Ythkejfhcdodggaa
