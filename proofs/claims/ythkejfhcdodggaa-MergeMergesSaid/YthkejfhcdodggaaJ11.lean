/- MgT, MgF. -/
import Derived.Test.YthkejfhcdodggaaJ10

/- Mathematics of layer 15: the last ones of a key taken away as long as they drop. No program. -/
namespace Go.Proofs.Pk
set_option maxRecDepth 10000

def dropK (k : Txt) (e : MEnt) : Bool := e.1 == k && e.2.2.1
/-- The last ones taken away, as long as they are of this key and drop. -/
def trimD (k : Txt) : List MEnt → List MEnt
  | [] => []
  | e :: r => if dropK k e = true ∧ trimD k r = [] then [] else e :: trimD k r
theorem trim_snoc (k : Txt) (x : MEnt) : ∀ o : List MEnt, trimD k (o ++ [x]) = if dropK k x = true then trimD k o else o ++ [x]
  | [] => by
    by_cases h : dropK k x = true
    · simp [trimD, h]
    · simp [trimD, h]
  | e :: r => by
    have ih := trim_snoc k x r
    by_cases h : dropK k x = true
    · rw [if_pos h] at ih ⊢
      rw [List.cons_append, trimD, ih, trimD]
    · rw [if_neg h] at ih ⊢
      rw [List.cons_append, trimD, ih, if_neg (by simp)]
theorem live_cons {e : MEnt} {r : List MEnt} (hu : UpM (e :: r)) {x : MEnt} (hx : x ∈ r) : liveM (e :: r) x = liveM r x := by
  have hb := (List.pairwise_cons.1 hu).1 x hx
  unfold liveM
  rw [List.any_cons]
  have : (e.1 == x.1 && decide (e.2.1 ≤ x.2.1) && !e.2.2.1) = false := by
    rw [Bool.eq_false_iff]
    intro h
    simp only [Bool.and_eq_true, beq_iff_eq, decide_eq_true_eq] at h
    have := bef_seq hb h.1.1
    omega
  rw [this, Bool.false_or]
/-- It is a filter. -/
theorem trim_filter (k : Txt) : ∀ o : List MEnt, UpM o → (∀ e ∈ o, e.1 = k ∨ e.1 < k) → trimD k o = o.filter fun e => decide (e.1 ≠ k) || liveM o e
  | [], _, _ => rfl
  | e :: r, hu, hk => by
    obtain ⟨u1, u2⟩ := List.pairwise_cons.1 hu
    have ih := trim_filter k r u2 fun x hx => hk x (by simp [hx])
    have hr : (r.filter fun x => decide (x.1 ≠ k) || liveM (e :: r) x) = trimD k r := by
      rw [ih]
      exact List.filter_congr fun x hx => by rw [live_cons hu hx]
    rw [List.filter_cons, hr, trimD]
    by_cases hek : e.1 = k
    · -- all behind it are of this key
      have hall : ∀ x ∈ r, x.1 = k := fun x hx => by
        rcases hk x (by simp [hx]) with h | h
        · exact h
        · rcases bef_key (u1 x hx) with g | g
          · rw [← g]; exact hek
          · rw [hek] at g; exact absurd (List.lt_trans g h) (List.lt_irrefl _)
      have hlive : liveM (e :: r) e = true ↔ e.2.2.1 = false ∨ ∃ x ∈ r, x.2.2.1 = false := by
        unfold liveM
        rw [List.any_cons, Bool.or_eq_true, List.any_eq_true]
        constructor
        · rintro (h | ⟨x, hx, h⟩)
          · simp only [Bool.and_eq_true, Bool.not_eq_true'] at h; exact .inl h.2
          · simp only [Bool.and_eq_true, Bool.not_eq_true'] at h; exact .inr ⟨x, hx, h.2⟩
        · rintro (h | ⟨x, hx, h⟩)
          · exact .inl (by simp [h])
          · have := bef_seq (u1 x hx) (hek.trans (hall x hx).symm)
            exact .inr ⟨x, hx, by simp only [Bool.and_eq_true, beq_iff_eq, decide_eq_true_eq, Bool.not_eq_true']; exact ⟨⟨(hall x hx).trans hek.symm, by omega⟩, h⟩⟩
      have hnil : trimD k r = [] ↔ ¬∃ x ∈ r, x.2.2.1 = false := by
        rw [ih, List.filter_eq_nil_iff]
        constructor
        · rintro h ⟨x, hx, hd⟩
          refine h x hx ?_
          rw [Bool.or_eq_true]
          exact .inr (List.any_eq_true.2 ⟨x, hx, by simp [hd]⟩)
        · intro h x hx hp
          rw [Bool.or_eq_true] at hp
          rcases hp with hp | hp
          · exact (of_decide_eq_true hp) (hall x hx)
          · obtain ⟨y, hy, hq⟩ := List.any_eq_true.1 hp
            simp only [Bool.and_eq_true, Bool.not_eq_true'] at hq
            exact h ⟨y, hy, hq.2⟩
      have hd : (decide (e.1 ≠ k) || liveM (e :: r) e) = true ↔ ¬(dropK k e = true ∧ trimD k r = []) := by
        rw [Bool.or_eq_true, hlive, hnil]
        unfold dropK
        simp only [hek, ne_eq, not_true_eq_false, decide_false, Bool.false_eq_true, false_or, beq_self_eq_true, Bool.true_and]
        cases e.2.2.1 <;> simp
      by_cases hc : dropK k e = true ∧ trimD k r = []
      · rw [if_pos hc, if_neg (fun h => hd.1 h hc)]
        exact hc.2.symm
      · rw [if_neg hc, if_pos (hd.2 hc)]
    · rw [if_neg (fun h => hek (by have := h.1; unfold dropK at this; simp only [Bool.and_eq_true, beq_iff_eq] at this; exact this.1)), if_pos (by simp [hek])]
end Go.Proofs.Pk

/- Mathematics of layer 15: a fold, place by place. No program. -/
namespace Go.Proofs.Pk
set_option maxRecDepth 10000

/-- Is an entry of the key that a place has? -/
def openB (l : List MEnt) (j : Nat) (e : MEnt) : Bool := match l[j]? with | some x => e.1 == x.1 | none => false
/-- What a fold has kept ahead of a place: of the key there, what is needed; of the others, what lives. -/
def foldAt (l : List MEnt) (ks : List Int) (b : Bool) (j : Nat) : List MEnt := (l.take j).filter fun e => needM l ks e && (!b || openB l j e || liveM (foldU l ks) e)
theorem foldAt_zero (l : List MEnt) (ks : List Int) (b : Bool) : foldAt l ks b 0 = [] := by simp [foldAt]
theorem foldAt_all (l : List MEnt) (ks : List Int) (b : Bool) : foldAt l ks b l.length = foldM l ks b := by
  unfold foldAt
  rw [List.take_length, fold_filter]
  refine List.filter_congr fun e _ => ?_
  have : openB l l.length e = false := by unfold openB; rw [List.getElem?_eq_none (Nat.le_refl _)]
  rw [this, Bool.or_false]
/-- The place itself put to it. -/
def foldOn (l : List MEnt) (ks : List Int) (b : Bool) (j : Nat) (h : j < l.length) : List MEnt := foldAt l ks b j ++ if needM l ks l[j] = true then [l[j]] else []
theorem foldOn_eq (l : List MEnt) (ks : List Int) (b : Bool) (j : Nat) (h : j < l.length) : foldOn l ks b j h = (l.take (j + 1)).filter fun e => needM l ks e && (!b || e.1 == l[j].1 || liveM (foldU l ks) e) := by
  have ho : ∀ e, openB l j e = (e.1 == l[j].1) := fun e => by unfold openB; rw [List.getElem?_eq_getElem h]
  unfold foldOn foldAt
  rw [List.take_succ_eq_append_getElem h, List.filter_append]
  congr 1
  · exact List.filter_congr fun e _ => by rw [ho]
  · rw [List.filter_cons, List.filter_nil]
    simp
/-- Is a place the last one of its key? -/
def lastB (l : List MEnt) (j : Nat) (h : j < l.length) : Prop := j + 1 = l.length ∨ ∃ h2 : j + 1 < l.length, l[j + 1].1 ≠ l[j].1
theorem foldAt_more {l : List MEnt} (ks : List Int) (b : Bool) (j : Nat) (h : j < l.length) (hb : b = false ∨ ¬lastB l j h) : foldAt l ks b (j + 1) = foldOn l ks b j h := by
  rw [foldOn_eq]
  unfold foldAt
  refine List.filter_congr fun e _ => ?_
  rcases hb with rfl | hl
  · rfl
  · have h2 : j + 1 < l.length := by
      rcases Nat.lt_or_ge (j + 1) l.length with g | g
      · exact g
      · exact absurd (.inl (by omega)) hl
    have hk : l[j + 1].1 = l[j].1 := Decidable.byContradiction fun hk => hl (.inr ⟨h2, hk⟩)
    have ho : openB l (j + 1) e = (e.1 == l[j].1) := by unfold openB; rw [List.getElem?_eq_getElem h2]; simp only [hk]
    rw [ho]
theorem foldAt_last {l : List MEnt} (hu : UpM l) (ks : List Int) (j : Nat) (h : j < l.length) (hl : lastB l j h) : foldAt l ks true (j + 1) = trimD l[j].1 (foldOn l ks true j h) := by
  have htake : ∀ e ∈ l.take (j + 1), ∃ i, ∃ hi : i < l.length, i ≤ j ∧ l[i] = e := fun e he => by
    obtain ⟨i, hi, rfl⟩ := List.getElem_of_mem he
    have h2 : i < l.length ∧ i ≤ j := by rw [List.length_take] at hi; omega
    exact ⟨i, h2.1, h2.2, by simp⟩
  have hkey : ∀ e ∈ l.take (j + 1), e.1 = l[j].1 ∨ e.1 < l[j].1 := fun e he => by
    obtain ⟨i, hi, hij, rfl⟩ := htake e he
    by_cases hh : i = j
    · subst hh; exact .inl rfl
    · exact bef_key (up_at hu h (show i < j by omega))
  have hclosed : ∀ e ∈ l.take (j + 1), openB l (j + 1) e = false := fun e he => by
    unfold openB
    rcases hl with hl | ⟨h2, hk⟩
    · rw [List.getElem?_eq_none (by omega)]
    · rw [List.getElem?_eq_getElem h2]
      rw [Bool.eq_false_iff]
      intro hp
      have hp : e.1 = l[j + 1].1 := by simpa using hp
      obtain ⟨i, hi, hij, rfl⟩ := htake e he
      by_cases hh : i = j
      · subst hh; exact hk hp.symm
      · exact hk (key_mid (up_at hu h (show i < j by omega)) (up_at hu h2 (show j < j + 1 by omega)) hp).symm
  have hsub : (foldOn l ks true j h).Sublist l := by rw [foldOn_eq]; exact List.filter_sublist.trans (List.take_sublist _ _)
  rw [trim_filter _ _ (hu.sublist hsub) (fun e he => hkey e (by rw [foldOn_eq] at he; exact (List.mem_filter.1 he).1))]
  -- what lives among these lives among all that is needed
  have hlive : ∀ e ∈ foldOn l ks true j h, e.1 = l[j].1 → (liveM (foldOn l ks true j h) e = true ↔ liveM (foldU l ks) e = true) := fun e he hk => by
    unfold liveM
    rw [List.any_eq_true, List.any_eq_true]
    constructor
    · rintro ⟨x, hx, hp⟩
      rw [foldOn_eq] at hx
      obtain ⟨x1, x2⟩ := List.mem_filter.1 hx
      rw [Bool.and_eq_true] at x2
      exact ⟨x, List.mem_filter.2 ⟨List.mem_of_mem_take x1, x2.1⟩, hp⟩
    · rintro ⟨x, hx, hp⟩
      obtain ⟨x1, x2⟩ := List.mem_filter.1 hx
      have hp2 := hp
      simp only [Bool.and_eq_true, beq_iff_eq] at hp2
      have hxk : x.1 = l[j].1 := hp2.1.1.trans hk
      refine ⟨x, ?_, hp⟩
      rw [foldOn_eq]
      refine List.mem_filter.2 ⟨?_, by rw [x2, hxk]; simp⟩
      obtain ⟨i, hi, rfl⟩ := List.getElem_of_mem x1
      by_cases hij : i ≤ j
      · exact List.mem_take_iff_getElem.2 ⟨i, by omega, rfl⟩
      · rcases hl with hl | ⟨h2, hk2⟩
        · omega
        · by_cases hi1 : i = j + 1
          · subst hi1; exact absurd hxk hk2
          · exact absurd (key_mid (up_at hu h2 (show j < j + 1 by omega)) (up_at hu hi (show j + 1 < i by omega)) hxk.symm) (fun g => hk2 (g.trans hxk))
  rw [foldOn_eq] at hlive ⊢
  unfold foldAt
  rw [List.filter_filter]
  refine List.filter_congr fun e he => ?_
  rw [hclosed e he]
  by_cases hk : e.1 = l[j].1
  · cases hn : needM l ks e with
    | false => simp
    | true =>
      have := hlive e (List.mem_filter.2 ⟨he, by rw [hn, hk]; simp⟩) hk
      rw [hk]
      simp only [Bool.not_true, Bool.false_or, Bool.true_and, ne_eq, not_true_eq_false, decide_false, beq_self_eq_true, Bool.true_or, Bool.and_true]
      rw [Bool.eq_iff_iff]
      exact this.symm
  · have hk2 : (e.1 == l[j].1) = false := by simpa using hk
    simp [hk2, hk]
/-- Put, by the place. -/
theorem putG_at : ∀ (T : List MEnt) (e : MEnt), putG T e = if hasM T e = true then T else T.take (atM T e) ++ e :: T.drop (atM T e)
  | [], e => by simp [putG, hasM, atM]
  | x :: r, e => by
    have ih := putG_at r e
    unfold putG
    by_cases hb : befM x e = true
    · have ha : atM (x :: r) e = atM r e + 1 := by rw [atM, if_pos hb]
      have hh : hasM (x :: r) e = hasM r e := by unfold hasM; rw [ha, List.getElem?_cons_succ]
      rw [if_pos hb, ih, hh, ha]
      by_cases hc : hasM r e = true
      · rw [if_pos hc, if_pos hc]
      · rw [if_neg hc, if_neg hc]; simp
    · have ha : atM (x :: r) e = 0 := by rw [atM, if_neg hb]
      have hh : hasM (x :: r) e = sameM x e := by unfold hasM; rw [ha]; rfl
      rw [if_neg hb, hh, ha]
      by_cases hc : sameM x e = true
      · rw [if_pos hc, if_pos hc]
      · rw [if_neg hc, if_neg hc]; simp
/-- Merged list by list. -/
theorem merge_take (ls : List (List MEnt)) (i : Nat) (h : i < ls.length) : mergeG (ls.take (i + 1)) = ls[i].foldl putG (mergeG (ls.take i)) := by
  unfold mergeG
  rw [List.take_succ_eq_append_getElem h, List.flatten_append, List.foldl_append]
  simp
end Go.Proofs.Pk
