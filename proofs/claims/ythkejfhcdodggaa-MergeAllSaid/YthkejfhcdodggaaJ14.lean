/- MgP, App15. -/
import Derived.Test.YthkejfhcdodggaaJ11
import Derived.Test.YthkejfhcdodggaaJ10
import Derived.Test.YthkejfhcdodggaaJ06
import Derived.Test.YthkejfhcdodggaaRp15
import Derived.OwnWalkIn

/- Mathematics of layer 15, as the landed program goes: two lists made one, lists two by two, a list key by key. No program. -/
namespace Go.Proofs.Pk
set_option maxRecDepth 10000

/-! Two lists made one. -/
/-- An entry of the second list: what goes ahead of it (itself among these, if there is none like it), and what is left of the first one. -/
def stepU : List MEnt → MEnt → List MEnt × List MEnt
  | [], e => ([e], [])
  | x :: r, e => if befM e x = true then ([e], x :: r) else if befM x e = true then (x :: (stepU r e).1, (stepU r e).2) else ([x], r)
def uniM : List MEnt → List MEnt → List MEnt
  | a, [] => a
  | a, e :: b => (stepU a e).1 ++ uniM (stepU a e).2 b
theorem stepU_put : ∀ (a : List MEnt) (e : MEnt), (stepU a e).1 ++ (stepU a e).2 = putG a e
  | [], e => rfl
  | x :: r, e => by
    have ih := stepU_put r e
    unfold stepU putG
    by_cases h1 : befM e x = true
    · have h2 : befM x e = false := bef_anti h1
      have h3 : sameM x e = false := by
        rw [Bool.eq_false_iff]; intro h; rw [same_not_bef (same_symm h)] at h1; cases h1
      rw [if_pos h1, if_neg (by rw [h2]; simp), if_neg (by rw [h3]; simp)]; rfl
    · rw [if_neg h1]
      by_cases h2 : befM x e = true
      · rw [if_pos h2, if_pos h2]
        show x :: ((stepU r e).1 ++ (stepU r e).2) = _
        rw [ih]
      · have h3 : sameM x e = true := by
          by_cases h : sameM x e = true
          · exact h
          · exact absurd (bef_not h2 h) h1
        rw [if_neg h2, if_neg h2, if_pos h3]; rfl
theorem stepU_bef : ∀ (a : List MEnt) (e : MEnt), ∀ x ∈ (stepU a e).1, befM x e = true ∨ sameM x e = true
  | [], e, x, h => by
    rw [stepU, List.mem_singleton] at h; subst h; exact .inr (same_refl _)
  | y :: r, e, x, h => by
    have ih := stepU_bef r e x
    unfold stepU at h
    by_cases h1 : befM e y = true
    · rw [if_pos h1, List.mem_singleton] at h; subst h; exact .inr (same_refl _)
    · rw [if_neg h1] at h
      by_cases h2 : befM y e = true
      · rw [if_pos h2] at h
        rcases List.mem_cons.1 h with rfl | h
        · exact .inl h2
        · exact ih h
      · rw [if_neg h2, List.mem_singleton] at h; subst h
        by_cases h3 : sameM x e = true
        · exact .inr h3
        · exact absurd (bef_not h2 h3) h1
theorem putG_behind : ∀ (p q : List MEnt) (e : MEnt), (∀ x ∈ p, befM x e = true) → putG (p ++ q) e = p ++ putG q e
  | [], _, _, _ => rfl
  | x :: p, q, e, h => by
    rw [List.cons_append, putG, if_pos (h x (by simp)), putG_behind p q e fun y hy => h y (by simp [hy])]; rfl
theorem puts_behind : ∀ (b p q : List MEnt), (∀ x ∈ p, ∀ e ∈ b, befM x e = true) → b.foldl putG (p ++ q) = p ++ b.foldl putG q
  | [], _, _, _ => rfl
  | e :: b, p, q, h => by
    rw [List.foldl_cons, List.foldl_cons, putG_behind p q e fun x hx => h x hx e (by simp), puts_behind b p (putG q e) fun x hx y hy => h x hx y (by simp [hy])]
theorem uni_puts : ∀ (b a : List MEnt), UpM b → uniM a b = b.foldl putG a
  | [], a, _ => rfl
  | e :: b, a, h => by
    obtain ⟨h1, h2⟩ := List.pairwise_cons.1 h
    rw [uniM, uni_puts b _ h2, List.foldl_cons, ← stepU_put a e, puts_behind b]
    intro x hx y hy
    rcases stepU_bef a e x hx with hb | hs
    · exact bef_trans hb (h1 y hy)
    · have hb := h1 y hy
      obtain ⟨k1, k2⟩ := same_iff.1 hs
      unfold befM at hb ⊢
      rw [k1, k2]; exact hb
theorem uni_merge {a b : List MEnt} (ha : UpM a) (hb : UpM b) : uniM a b = mergeG [a, b] := by rw [uni_puts b a hb, merge_one a b ha]
theorem uni_len (a b : List MEnt) (hb : UpM b) : (uniM a b).length ≤ a.length + b.length := by rw [uni_puts b a hb]; exact merge_le b a
theorem uni_sort {a b : List MEnt} (ha : sortB a = true) (hb : sortB b = true) : sortB (uniM a b) = true := by
  rw [uni_merge (sort_up ha) (sort_up hb)]
  exact merge_sort (by simp [ha, hb])

/-! Lists two by two. -/
def pairM : List (List MEnt) → List (List MEnt)
  | [] => []
  | [a] => [uniM a []]
  | a :: b :: r => uniM a b :: pairM r
theorem pair_len : ∀ ls : List (List MEnt), (pairM ls).length = (ls.length + 1) / 2
  | [] => rfl
  | [_] => by simp [pairM]
  | a :: b :: r => by rw [pairM, List.length_cons, pair_len r]; simp only [List.length_cons]; omega
theorem pair_get : ∀ (ls : List (List MEnt)) (k : Nat) (h : k < (pairM ls).length), (pairM ls)[k] = uniM (ls.getD (2 * k) []) (ls.getD (2 * k + 1) [])
  | [], k, h => by simp [pairM] at h
  | [a], k, h => by
    have : k = 0 := by simp [pairM] at h; exact h
    subst this; simp [pairM]
  | a :: b :: r, 0, h => by simp [pairM]
  | a :: b :: r, k + 1, h => by
    have ih := pair_get r k (by simpa [pairM] using h)
    have e : (pairM (a :: b :: r))[k + 1] = (pairM r)[k]'(by simpa [pairM] using h) := by simp [pairM]
    rw [e, ih, show 2 * (k + 1) = 2 * k + 1 + 1 from by omega, show 2 * k + 1 + 1 + 1 = (2 * k + 1) + 1 + 1 from rfl, List.getD_cons_succ, List.getD_cons_succ, List.getD_cons_succ, List.getD_cons_succ]
theorem pair_sort : ∀ ls : List (List MEnt), ls.all sortB = true → (pairM ls).all sortB = true
  | [], _ => rfl
  | [a], h => by simpa [pairM, uniM] using h
  | a :: b :: r, h => by
    simp only [List.all_cons, Bool.and_eq_true] at h
    rw [pairM, List.all_cons, uni_sort h.1 h.2.1, pair_sort r h.2.2]; rfl
theorem puts_merge (ls : List (List MEnt)) {T : List MEnt} (hT : UpM T) : (mergeG ls).foldl putG T = ls.flatten.foldl putG T := by
  obtain ⟨a1, a2⟩ := puts_go (mergeG ls) T hT
  obtain ⟨b1, b2⟩ := puts_go ls.flatten T hT
  refine up_uniq _ _ a1 b1 fun x => ?_
  rw [a2 x, b2 x]
  refine or_congr Iff.rfl (and_congr Iff.rfl ?_)
  rw [← merge_mem ls x]
  constructor
  · exact fun h => List.mem_of_find?_eq_some h
  · intro h
    cases hf : firstS (mergeG ls) x with
    | none => exact absurd (same_refl x) (List.find?_eq_none.1 hf x h)
    | some y =>
      have hy := List.find?_some (p := fun y => sameM y x) hf
      rw [same_up (merge_up ls) (List.mem_of_find?_eq_some hf) h hy]
theorem pair_puts : ∀ (ls : List (List MEnt)) (T : List MEnt), ls.all sortB = true → UpM T → (pairM ls).flatten.foldl putG T = ls.flatten.foldl putG T
  | [], _, _, _ => rfl
  | [a], _, _, _ => rfl
  | a :: b :: r, T, h, hT => by
    simp only [List.all_cons, Bool.and_eq_true] at h
    rw [pairM, List.flatten_cons, List.foldl_append, uni_merge (sort_up h.1) (sort_up h.2.1), puts_merge _ hT]
    simp only [List.flatten_cons, List.flatten_nil, List.append_nil, List.foldl_append]
    refine pair_puts r _ h.2.2 ?_
    exact (puts_go b _ (puts_go a T hT).1).1
theorem pair_merge {ls : List (List MEnt)} (h : ls.all sortB = true) : mergeG (pairM ls) = mergeG ls := pair_puts ls [] h List.Pairwise.nil
theorem pair_flat_len : ∀ (ls : List (List MEnt)), ls.all sortB = true → (pairM ls).flatten.length ≤ ls.flatten.length
  | [], _ => by simp [pairM]
  | [a], _ => by simp [pairM, uniM]
  | a :: b :: r, h => by
    simp only [List.all_cons, Bool.and_eq_true] at h
    have := pair_flat_len r h.2.2
    have := uni_len a b (sort_up h.2.1)
    rw [pairM]
    simp only [List.flatten_cons, List.length_append]
    omega
theorem flat_one {ls : List (List MEnt)} (h : ls.all sortB = true) (hl : ls.length ≤ 1) : ls.flatten = mergeG ls := by
  match ls, h, hl with
  | [], _, _ => rfl
  | [a], h, _ =>
    simp only [List.all_cons, List.all_nil, Bool.and_true] at h
    unfold mergeG
    simp only [List.flatten_cons, List.flatten_nil, List.append_nil]
    exact (puts_self (sort_up h)).symm
  | _ :: _ :: _, _, hl => simp at hl

/-! A list key by key. -/
theorem find_apart {a b : List MEnt} (h : ∀ x ∈ a, ∀ y ∈ b, x.1 ≠ y.1) (s : Int) : (∀ e ∈ a, findM (a ++ b) e.1 s = findM a e.1 s) ∧ ∀ e ∈ b, findM (a ++ b) e.1 s = findM b e.1 s := by
  unfold findM
  constructor
  · intro e he
    rw [List.find?_append]
    have : b.find? (fun x => x.1 == e.1 && decide (x.2.1 ≤ s)) = none := List.find?_eq_none.2 fun x hx hp => by
      simp only [Bool.and_eq_true, beq_iff_eq] at hp
      exact h e he x hx hp.1.symm
    rw [this]; simp
  · intro e he
    rw [List.find?_append]
    have : a.find? (fun x => x.1 == e.1 && decide (x.2.1 ≤ s)) = none := List.find?_eq_none.2 fun x hx hp => by
      simp only [Bool.and_eq_true, beq_iff_eq] at hp
      exact h x hx e he hp.1
    rw [this]; simp
theorem see_apart {a b : List MEnt} (h : ∀ x ∈ a, ∀ y ∈ b, x.1 ≠ y.1) (s : Int) : seeM (a ++ b) s = seeM a s ++ seeM b s := by
  obtain ⟨h1, h2⟩ := find_apart h s
  unfold seeM
  rw [List.filter_append]
  congr 1
  · exact List.filter_congr fun e he => by rw [h1 e he]
  · exact List.filter_congr fun e he => by rw [h2 e he]
theorem head_apart {a b : List MEnt} (h : ∀ x ∈ a, ∀ y ∈ b, x.1 ≠ y.1) : (∀ e ∈ a, headM (a ++ b) e = headM a e) ∧ ∀ e ∈ b, headM (a ++ b) e = headM b e := by
  unfold headM
  constructor
  · intro e he
    refine decide_eq_decide.2 ⟨fun g x hx => g x (by simp [hx]), fun g x hx hk => ?_⟩
    rcases List.mem_append.1 hx with hx | hx
    · exact g x hx hk
    · exact absurd hk.symm (h e he x hx)
  · intro e he
    refine decide_eq_decide.2 ⟨fun g x hx => g x (by simp [hx]), fun g x hx hk => ?_⟩
    rcases List.mem_append.1 hx with hx | hx
    · exact absurd hk (h x hx e he)
    · exact g x hx hk
theorem need_apart {a b : List MEnt} (h : ∀ x ∈ a, ∀ y ∈ b, x.1 ≠ y.1) (ks : List Int) : (∀ e ∈ a, needM (a ++ b) ks e = needM a ks e) ∧ ∀ e ∈ b, needM (a ++ b) ks e = needM b ks e := by
  unfold needM
  constructor
  · intro e he
    rw [(head_apart h).1 e he]
    congr 1
    exact congrArg ks.any (funext fun n => by rw [(find_apart h n).1 e he])
  · intro e he
    rw [(head_apart h).2 e he]
    congr 1
    exact congrArg ks.any (funext fun n => by rw [(find_apart h n).2 e he])
theorem foldU_apart {a b : List MEnt} (h : ∀ x ∈ a, ∀ y ∈ b, x.1 ≠ y.1) (ks : List Int) : foldU (a ++ b) ks = foldU a ks ++ foldU b ks := by
  unfold foldU
  rw [List.filter_append]
  congr 1
  · exact List.filter_congr fun e he => (need_apart h ks).1 e he
  · exact List.filter_congr fun e he => (need_apart h ks).2 e he
theorem live_apart {a b : List MEnt} (h : ∀ x ∈ a, ∀ y ∈ b, x.1 ≠ y.1) : (∀ e ∈ a, liveM (a ++ b) e = liveM a e) ∧ ∀ e ∈ b, liveM (a ++ b) e = liveM b e := by
  unfold liveM
  constructor
  · intro e he
    rw [List.any_append]
    have : (b.any fun x => x.1 == e.1 && decide (x.2.1 ≤ e.2.1) && !x.2.2.1) = false := by
      rw [List.any_eq_false]
      intro x hx hp
      simp only [Bool.and_eq_true, beq_iff_eq] at hp
      exact h e he x hx hp.1.1.symm
    rw [this, Bool.or_false]
  · intro e he
    rw [List.any_append]
    have : (a.any fun x => x.1 == e.1 && decide (x.2.1 ≤ e.2.1) && !x.2.2.1) = false := by
      rw [List.any_eq_false]
      intro x hx hp
      simp only [Bool.and_eq_true, beq_iff_eq] at hp
      exact h x hx e he hp.1.1
    rw [this, Bool.false_or]
theorem fold_apart {a b : List MEnt} (h : ∀ x ∈ a, ∀ y ∈ b, x.1 ≠ y.1) (ks : List Int) (bt : Bool) : foldM (a ++ b) ks bt = foldM a ks bt ++ foldM b ks bt := by
  have hU := foldU_apart h ks
  unfold foldM
  cases bt with
  | false => simpa using hU
  | true =>
    rw [if_pos rfl, if_pos rfl, if_pos rfl, hU, List.filter_append]
    have hs : ∀ x ∈ foldU a ks, ∀ y ∈ foldU b ks, x.1 ≠ y.1 := fun x hx y hy => h x (List.mem_filter.1 hx).1 y (List.mem_filter.1 hy).1
    congr 1
    · exact List.filter_congr fun e he => (live_apart hs).1 e he
    · exact List.filter_congr fun e he => (live_apart hs).2 e he

/-! One key. -/
abbrev OneK (k : Txt) (l : List MEnt) : Prop := ∀ e ∈ l, e.1 = k
/-- What is seen of a key's entries. -/
def seeK (l : List MEnt) (k : Txt) (s : Int) : List MEnt := match findM l k s with
  | some e => if e.2.2.1 = true then [] else [e]
  | none => []
theorem see_one {l : List MEnt} {k : Txt} (hu : UpM l) (hk : OneK k l) (s : Int) : seeM l s = seeK l k s := by
  have hs : UpM (seeM l s) := hu.sublist List.filter_sublist
  have hmem : ∀ x, x ∈ seeM l s ↔ findM l k s = some x ∧ x.2.2.1 = false := fun x => by
    unfold seeM
    rw [List.mem_filter]
    simp only [Bool.and_eq_true, decide_eq_true_eq, Bool.not_eq_true']
    constructor
    · rintro ⟨h1, h2, h3⟩; rw [hk x h1] at h2; exact ⟨h2, h3⟩
    · rintro ⟨h1, h2⟩
      have := find_key h1
      exact ⟨this.1, by rw [hk x this.1]; exact h1, h2⟩
  refine up_uniq _ _ hs ?_ fun x => ?_
  · unfold seeK
    split
    · split
      · exact List.Pairwise.nil
      · exact List.pairwise_singleton _ _
    · exact List.Pairwise.nil
  · rw [hmem x]
    unfold seeK
    cases hf : findM l k s with
    | none => simp
    | some e =>
      cases hd : e.2.2.1 with
      | true =>
        have e0 : (match some e with | some e => if e.2.2.1 = true then ([] : List MEnt) else [e] | none => []) = [] := by simp only [hd, if_true]
        rw [e0]
        constructor
        · rintro ⟨h, h2⟩; cases h; rw [hd] at h2; cases h2
        · intro h; cases h
      | false =>
        have e0 : (match some e with | some e => if e.2.2.1 = true then ([] : List MEnt) else [e] | none => []) = [e] := by simp only [hd, Bool.false_eq_true, if_false]
        rw [e0, List.mem_singleton]
        constructor
        · rintro ⟨h, _⟩; cases h; rfl
        · rintro rfl; exact ⟨rfl, hd⟩
/-- What is needed of a key's entries, the newest one first: m is the number of the one before. -/
def needB (rs : List Int) (m : Int) (e : MEnt) : Bool := rs.any fun n => decide (e.2.1 ≤ n) && decide (n < m)
def needK (rs : List Int) : Int → List MEnt → List MEnt
  | _, [] => []
  | m, e :: r => (if needB rs m e = true then [e] else []) ++ needK rs e.2.1 r
/-- The number of the last one. -/
def lastS : Int → List MEnt → Int
  | m, [] => m
  | _, e :: r => lastS e.2.1 r
theorem lastS_snoc (y : MEnt) : ∀ (l : List MEnt) (m : Int), lastS m (l ++ [y]) = y.2.1
  | [], _ => rfl
  | _ :: r, _ => lastS_snoc y r _
theorem needK_snoc (rs : List Int) (x : MEnt) : ∀ (l : List MEnt) (m : Int), needK rs m (l ++ [x]) = needK rs m l ++ if needB rs (lastS m l) x = true then [x] else []
  | [], m => (List.append_nil _).trans rfl
  | e :: r, m => by
    rw [List.cons_append, needK, needK_snoc rs x r e.2.1, needK, List.append_assoc, lastS]
theorem need_take {l : List MEnt} {k : Txt} (h : sortB l = true) (hk : OneK k l) {ks rs : List Int} (hrs : ∀ n, n ∈ rs ↔ n ∈ ks ∨ n = 9007199254740991) : ∀ i, i ≤ l.length → needK rs 9007199254740992 (l.take i) = (l.take i).filter (needM l ks)
  | 0, _ => by simp [needK]
  | i + 1, hi => by
    have hi' : i < l.length := hi
    obtain ⟨hu, hr⟩ := sort_iff.1 h
    have right : ∀ j (hj : j < l.length), 1 ≤ l[j].2.1 ∧ l[j].2.1 ≤ 9007199254740991 := fun j hj => by
      have := hr l[j] (List.getElem_mem hj)
      unfold rightM at this
      have := of_decide_eq_true this
      exact ⟨this.2.2.2.1, this.2.2.2.2.1⟩
    rw [List.take_succ_eq_append_getElem hi', needK_snoc, List.filter_append, need_take h hk hrs i (by omega)]
    congr 1
    rw [List.filter_cons, List.filter_nil]
    have hn := need_at hu hi' ks
    have hiff : needB rs (lastS 9007199254740992 (l.take i)) l[i] = true ↔ needM l ks l[i] = true := by
      rw [hn]
      have hb : ∀ m, needB rs m l[i] = true ↔ ∃ n ∈ rs, l[i].2.1 ≤ n ∧ n < m := fun m => by unfold needB; simp
      rw [hb]
      by_cases h0 : i = 0
      · subst h0
        refine ⟨fun _ => .inl (.inl rfl), fun _ => ⟨9007199254740991, (hrs _).2 (.inr rfl), (right 0 hi').2, by show (9007199254740991 : Int) < 9007199254740992; omega⟩⟩
      · have hl : lastS 9007199254740992 (l.take i) = (l[i - 1]'(by omega)).2.1 := by
          obtain ⟨j, rfl⟩ : ∃ j, i = j + 1 := ⟨i - 1, by omega⟩
          rw [List.take_succ_eq_append_getElem (by omega), lastS_snoc]; rfl
        rw [hl]
        have hkk : (l[i - 1]'(by omega)).1 = l[i].1 := (hk _ (List.getElem_mem (by omega))).trans (hk _ (List.getElem_mem hi')).symm
        constructor
        · rintro ⟨n, hn1, hn2, hn3⟩
          rcases (hrs n).1 hn1 with g | g
          · exact .inr ⟨n, g, hn2, hn3⟩
          · subst g
            have := (right (i - 1) (by omega)).2
            omega
        · rintro ((g | g) | ⟨n, hn1, hn2, hn3⟩)
          · exact absurd g h0
          · exact absurd hkk g
          · exact ⟨n, (hrs n).2 (.inl hn1), hn2, hn3⟩
    by_cases hc : needM l ks l[i] = true
    · rw [if_pos hc, if_pos (hiff.2 hc)]
    · rw [if_neg hc, if_neg (fun g => hc (hiff.1 g))]
/-- A key's entries, folded. -/
def foldK (rs : List Int) (b : Bool) (k : Txt) (l : List MEnt) : List MEnt := if b = true then trimD k (needK rs 9007199254740992 l) else needK rs 9007199254740992 l
theorem fold_one {l : List MEnt} {k : Txt} (h : sortB l = true) (hk : OneK k l) {ks rs : List Int} (hrs : ∀ n, n ∈ rs ↔ n ∈ ks ∨ n = 9007199254740991) (b : Bool) : foldM l ks b = foldK rs b k l := by
  have hu := sort_up h
  have hU : needK rs 9007199254740992 l = foldU l ks := by
    have := need_take h hk hrs l.length (Nat.le_refl _)
    rw [List.take_length] at this
    exact this
  have hsub : (foldU l ks).Sublist l := List.filter_sublist
  unfold foldM foldK
  rw [hU]
  cases b with
  | false => rfl
  | true =>
    rw [if_pos rfl, if_pos rfl, trim_filter k _ (hu.sublist hsub) (fun e he => .inl (hk e (hsub.subset he)))]
    refine List.filter_congr fun e he => ?_
    simp [hk e (hsub.subset he)]

/-! A list in runs of one key each. -/
/-- How many at the head are of the first one's key. -/
def runLen : List MEnt → Nat
  | [] => 0
  | e :: r => (r.takeWhile fun x => x.1 == e.1).length + 1
/-- The runs from a place on: where each begins, where it ends. -/
def runsN (l : List MEnt) : Nat → Nat → List (Nat × Nat)
  | 0, _ => []
  | n + 1, s => if s < l.length then (s, s + runLen (l.drop s)) :: runsN l n (s + runLen (l.drop s)) else []
def runsM (l : List MEnt) : List (Nat × Nat) := runsN l l.length 0
def cutR (l : List MEnt) (x : Nat × Nat) : List MEnt := (l.drop x.1).take (x.2 - x.1)
theorem runLen_le : ∀ l : List MEnt, runLen l ≤ l.length
  | [] => Nat.le_refl _
  | e :: r => by
    have := (List.takeWhile_prefix (p := fun x : MEnt => x.1 == e.1) (l := r)).length_le
    simp only [runLen, List.length_cons]; omega
theorem runLen_pos {l : List MEnt} (h : l ≠ []) : 0 < runLen l := by
  cases l with
  | nil => exact absurd rfl h
  | cons e r => simp [runLen]
theorem runLen_one : ∀ {l : List MEnt} (h : l ≠ []), OneK (l.head h).1 (l.take (runLen l))
  | [], h => absurd rfl h
  | e :: r, _ => fun x hx => by
    rw [runLen, List.take_succ_cons] at hx
    rcases List.mem_cons.1 hx with rfl | hx
    · rfl
    · have hp : r.take (r.takeWhile fun x => x.1 == e.1).length = r.takeWhile fun x => x.1 == e.1 := (List.prefix_iff_eq_take.1 (List.takeWhile_prefix _)).symm
      rw [hp] at hx
      have hall := List.all_takeWhile (p := fun x : MEnt => x.1 == e.1) (l := r)
      have := List.all_eq_true.1 hall x hx
      simpa using this
theorem runLen_apart {l : List MEnt} (hu : UpM l) : ∀ x ∈ l.take (runLen l), ∀ y ∈ l.drop (runLen l), x.1 ≠ y.1 := by
  cases l with
  | nil => intro x hx; simp at hx
  | cons e r =>
    intro x hx y hy hxy
    have hk := runLen_one (l := e :: r) (by simp) x hx
    simp only [List.head_cons] at hk
    rw [runLen, List.drop_succ_cons] at hy
    obtain ⟨u1, u2⟩ := List.pairwise_cons.1 hu
    -- the first one behind the run is of another key; all behind it are not less
    have hd : r.drop (r.takeWhile fun x => x.1 == e.1).length = r.dropWhile fun x => x.1 == e.1 := by
      have := List.takeWhile_append_dropWhile (p := fun x : MEnt => x.1 == e.1) (l := r)
      conv => lhs; arg 2; rw [← this]
      rw [List.drop_left]
    rw [hd] at hy
    have hup : UpM (r.dropWhile fun x => x.1 == e.1) := u2.sublist (List.dropWhile_sublist _)
    cases hw : r.dropWhile fun x => x.1 == e.1 with
    | nil => rw [hw] at hy; cases hy
    | cons z t =>
      have hz : (z.1 == e.1) = false := by
        have := List.head?_dropWhile_not (p := fun x : MEnt => x.1 == e.1) r
        rw [hw] at this
        simpa using this
      rw [hw] at hy hup
      have hzr : z ∈ r := (List.dropWhile_sublist _).subset (by rw [hw]; simp)
      have hez := u1 z hzr
      have hye : y.1 = e.1 := hxy.symm.trans hk
      rcases List.mem_cons.1 hy with rfl | hy
      · rw [hye] at hz; simp at hz
      · have hzy := (List.pairwise_cons.1 hup).1 y hy
        have := key_mid hez hzy hye.symm
        rw [this, hye] at hz; simp at hz
/-- Whatever parts where keys do is what it is of the runs, one behind the other. -/
theorem runs_parts (G : List MEnt → List MEnt) (h0 : G [] = []) (hG : ∀ a b : List MEnt, (∀ x ∈ a, ∀ y ∈ b, x.1 ≠ y.1) → G (a ++ b) = G a ++ G b) {l : List MEnt} (hu : UpM l) :
    ∀ n s, l.length ≤ s + n → (runsN l n s).flatMap (fun x => G (cutR l x)) = G (l.drop s)
  | 0, s, h => by rw [List.drop_eq_nil_of_le (by omega), h0]; rfl
  | n + 1, s, h => by
    unfold runsN
    by_cases hs : s < l.length
    · have hne : l.drop s ≠ [] := by intro e; have := congrArg List.length e; simp at this; omega
      have hp := runLen_pos hne
      rw [if_pos hs, List.flatMap_cons, runs_parts G h0 hG hu n _ (by omega)]
      have hup : UpM (l.drop s) := hu.sublist (List.drop_sublist _ _)
      have hap := hG _ _ (runLen_apart hup)
      rw [List.take_append_drop, List.drop_drop] at hap
      rw [hap]
      show G (cutR l (s, s + runLen (l.drop s))) ++ _ = _
      unfold cutR
      simp only [Nat.add_sub_cancel_left]
    · rw [if_neg hs, List.drop_eq_nil_of_le (by omega), h0]; rfl
theorem runs_in {l : List MEnt} : ∀ n s, ∀ x ∈ runsN l n s, x.1 < x.2 ∧ x.2 ≤ l.length ∧ (∃ h : x.1 < l.length, OneK l[x.1].1 (cutR l x))
  | 0, _, _, h => by cases h
  | n + 1, s, x, h => by
    unfold runsN at h
    by_cases hs : s < l.length
    · rw [if_pos hs] at h
      have hne : l.drop s ≠ [] := by intro e; have := congrArg List.length e; simp at this; omega
      rcases List.mem_cons.1 h with rfl | h
      · have hp := runLen_pos hne
        have hl := runLen_le (l.drop s)
        rw [List.length_drop] at hl
        refine ⟨by show s < _; omega, by show _ ≤ l.length; omega, hs, ?_⟩
        have := runLen_one hne
        unfold cutR
        simp only [Nat.add_sub_cancel_left]
        rw [List.head_drop] at this
        exact this
      · exact runs_in n _ x h
    · rw [if_neg hs] at h; cases h
theorem runs_len {l : List MEnt} : ∀ n s, (runsN l n s).length ≤ n
  | 0, _ => Nat.le_refl _
  | n + 1, s => by
    unfold runsN
    split
    · have := runs_len (l := l) n (s + runLen (l.drop s)); simp only [List.length_cons]; omega
    · simp
theorem flatMap_same {α β : Type} {f g : α → List β} : ∀ (l : List α), (∀ x ∈ l, f x = g x) → l.flatMap f = l.flatMap g
  | [], _ => rfl
  | a :: r, h => by rw [List.flatMap_cons, List.flatMap_cons, h a (by simp), flatMap_same r fun x hx => h x (by simp [hx])]
theorem see_runs {l : List MEnt} (h : sortB l = true) (s : Int) : (runsM l).flatMap (fun x => seeK (cutR l x) (l.getD x.1 default).1 s) = seeM l s := by
  have := runs_parts (fun l => seeM l s) rfl (fun a b hab => see_apart hab s) (sort_up h) l.length 0 (by omega)
  rw [List.drop_zero] at this
  rw [← this]
  unfold runsM
  refine flatMap_same _ fun x hx => ?_
  obtain ⟨h1, h2, h3, h4⟩ := runs_in l.length 0 x hx
  have hu : UpM (cutR l x) := (sort_up h).sublist ((List.take_sublist _ _).trans (List.drop_sublist _ _))
  rw [List.getD_eq_getElem?_getD, List.getElem?_eq_getElem h3, Option.getD_some, see_one hu h4]
theorem fold_runs {l : List MEnt} (h : sortB l = true) {ks rs : List Int} (hrs : ∀ n, n ∈ rs ↔ n ∈ ks ∨ n = 9007199254740991) (b : Bool) : (runsM l).flatMap (fun x => foldK rs b (l.getD x.1 default).1 (cutR l x)) = foldM l ks b := by
  have := runs_parts (fun l => foldM l ks b) (by unfold foldM foldU; simp) (fun a c hab => fold_apart hab ks b) (sort_up h) l.length 0 (by omega)
  rw [List.drop_zero] at this
  rw [← this]
  unfold runsM
  refine flatMap_same _ fun x hx => ?_
  obtain ⟨h1, h2, h3, h4⟩ := runs_in l.length 0 x hx
  have hs : sortB (cutR l x) = true := sort_sub h ((List.take_sublist _ _).trans (List.drop_sublist _ _))
  rw [List.getD_eq_getElem?_getD, List.getElem?_eq_getElem h3, Option.getD_some, fold_one hs h4 hrs]
end Go.Proofs.Pk

/- Appends to a list of entries that grows in a row of its own: one entry, a whole list. -/
namespace Go.Proofs.Ythkejfhcdodggaa
open Go.RowKit Go.Proofs Go.Proofs.Pk
set_option maxRecDepth 10000
attribute [local simp] mk_get wrap64_u8 mk_extract ByteArray.mk_append_mk

theorem ents_fit {w : World} {ad : Option Addr} {len : Nat} {l : List MEnt} (h : EntsW w ad len l) : ∀ e ∈ l, FitN e.2.1 := by
  intro e he
  obtain ⟨i, hi, rfl⟩ := List.getElem_of_mem he
  obtain ⟨_, _, _, _, _, hf, _⟩ := entsW_all h i (by rw [← h.1]; exact hi)
  exact hf
theorem addN (b off m : Nat) : (⟨b, off, none⟩ : Addr).add m = ⟨b, off + m, none⟩ := by unfold Addr.add; split <;> simp_all
theorem OutO.ents {w0 w : World} {ad : Option Addr} {n cap : Nat} {T : List MEnt} (h : OutO w0 w ad n cap T) : EntsW w ad n T := by
  have h1 := h.1
  subst h1
  exact owns_ents h.2.1 h.2.2.2
theorem OutO.few {w0 w : World} {ad : Option Addr} {n cap : Nat} {T : List MEnt} (h : OutO w0 w ad n cap T) : n ≤ cap := by
  rcases h.form with ⟨_, _, h0, _⟩ | ⟨_, _, _, h0, _⟩
  · omega
  · exact h0
/-- What an append's run gives is what its operation does. -/
theorem wpList_run_append {P : Program} {ops : Array Oper} {rest : List Oper} {o : Oper} {a : Act} {Q : Exit → Act → World → Prop} {W w' : World} {v' vs vx : Value} (hgd : o.guard = none) (s x : Operand) (t ty : TypeId)
    (ho : o.op = .call { callee := .builtin .append, args := #[s, x], argTypes := #[t, t] }) (hty : o.type = ty) (hs : a.eval s = vs) (hx : a.eval x = vx)
    (hrun : (Builtin.append_ #[t, t] ty #[vs, vx]).run P W = .ok v' w') (h : wpList P ops Q rest (a.put o.dst v') w') : wpList P ops Q (o :: rest) a W := by
  refine wpList_plain hgd fun K hK => ?_
  unfold Oper.wp
  rw [← hty] at hrun
  simp [execOp, ho, resolve, invoke, builtin, hs, hx, hrun, Result.andThen]
  exact hK _ _ h
/-- A list in a row of its own, from block B on. -/
structure OutG (B : Nat) (w : World) (ad : Option Addr) (n cap : Nat) (T : List MEnt) : Prop where
  len : T.length = n
  row : w.ownsRow B 34 4 (.slice ad n cap) n (cellsM T)
  fit : ∀ e ∈ T, FitN e.2.1
theorem OutG.nil (B : Nat) (w : World) : OutG B w none 0 0 [] := ⟨rfl, World.ownsRow_nil _ _ _ _, fun _ h => (by cases h)⟩
theorem OutO.g {w0 w : World} {ad : Option Addr} {n cap : Nat} {T : List MEnt} (h : OutO w0 w ad n cap T) : OutG w0.heap.size w ad n cap T := ⟨h.1, h.2.1, h.2.2.2⟩
theorem OutG.o {w0 w : World} {ad : Option Addr} {n cap : Nat} {T : List MEnt} (h : OutG w0.heap.size w ad n cap T) (hk : Kept (fun _ => False) w0 w) : OutO w0 w ad n cap T := ⟨h.len, h.row, hk, h.fit⟩
theorem OutG.of_block {B : Nat} {w w' : World} {ad : Option Addr} {n cap : Nat} {T : List MEnt} (h : OutG B w ad n cap T) (hb : ∀ g, (Value.slice ad n cap).ownBlock = some g → w'.heap[g]? = w.heap[g]?) : OutG B w' ad n cap T := ⟨h.len, owns_of_block h.row hb, h.fit⟩
theorem OutG.ents {B : Nat} {w : World} {ad : Option Addr} {n cap : Nat} {T : List MEnt} (h : OutG B w ad n cap T) : EntsW w ad n T := by
  have h1 := h.len
  subst h1
  exact owns_ents h.row h.fit
theorem OutG.cells {B : Nat} {w : World} {ad : Option Addr} {n cap : Nat} {T : List MEnt} (h : OutG B w ad n cap T) (g : Nat) (hg : (Value.slice ad n cap).ownBlock = some g) : B ≤ g ∧ ∃ cur, w.heap[g]? = some (.cells cur 34) := by
  rcases h.row.2 with ⟨hv, _⟩ | ⟨g', c, cur, hv, hb, h2, _⟩
  · rw [hv] at hg; cases hg
  · rw [hv] at hg; cases hg; exact ⟨hb, cur, h2⟩
theorem OutG.few {B : Nat} {w : World} {ad : Option Addr} {n cap : Nat} {T : List MEnt} (h : OutG B w ad n cap T) : n ≤ cap ∧ (n = 0 ∧ ad = none ∧ cap = 0 ∨ ∃ g, ad = some ⟨g, 0, none⟩) := by
  rcases h.row.2 with ⟨hv, hn⟩ | ⟨g, c, cur, hv, _, h2, h3, _⟩
  · cases hv; exact ⟨Nat.le_of_eq hn, .inl ⟨hn, rfl, rfl⟩⟩
  · cases hv; exact ⟨h3, .inr ⟨g, rfl⟩⟩
/-- A whole list behind what there is. -/
theorem app_row {B : Nat} {W : World} {ad ax : Option Addr} {n cap m cx : Nat} {T L : List MEnt} (h : OutG B W ad n cap T) (he : EntsW W ax m L) (hB : B ≤ W.heap.size) (hb : n + m ≤ 1000000) (ty : TypeId) :
    ∃ (ad2 : Option Addr) (cap2 : Nat) (w' : World), (Builtin.append_ #[24, 24] ty #[.slice ad n cap, .slice ax m cx]).run Try.prog W = .ok (.slice ad2 (n + m) cap2) w' ∧ OutG B w' ad2 (n + m) cap2 (T ++ L) ∧ W.grownBy w' (Value.slice ad n cap).ownBlock ∧
      ((Value.slice ad2 (n + m) cap2).ownBlock = (Value.slice ad n cap).ownBlock ∨ (Value.slice ad2 (n + m) cap2).ownBlock = some W.heap.size) := by
  obtain ⟨i0, hi0, hz0, hz1, hz2⟩ := info_parts ent_info
  have hlen := he.1
  by_cases hm : m = 0
  · subst hm
    have hL : L = [] := List.length_eq_zero_iff.1 hlen
    subst hL
    obtain ⟨hfew, hform⟩ := h.few
    refine ⟨ad, cap, W, ?_, by simpa using h, ⟨rfl, rfl, rfl, Nat.le_refl _, fun _ _ _ => rfl⟩, .inl rfl⟩
    have hs : (Go.sizeOf 34).run Try.prog W = .ok 4 W := by kernel_rfl
    have hu : Try.prog.underlying 24 = some (.slice 34) := by kernel_rfl
    rcases hform with ⟨h0, rfl, rfl⟩ | ⟨g, rfl⟩
    · subst h0
      cases ax <;> simp [Builtin.append_, run_underlying hu, hs, Builtin.lenOf, Builtin.firstCells, loadCells, Result.andThen, go_sem]
    · cases ax <;> simp [Builtin.append_, run_underlying hu, hs, Builtin.lenOf, Builtin.firstCells, loadCells, hfew, storeCells, Result.andThen, go_sem]
  cases ax with
  | none =>
    have hL : L = [] := by
      rcases he.2 with h0 | ⟨b, off, h1, _⟩
      · exact h0
      · cases h1
    subst hL
    exact absurd (by simpa using hlen.symm) hm
  | some a =>
    have hc : ∀ (k : Nat) (u : Value), (cellsM L)[k]? = some u → W.cell? (a.add k) = some u := fun k u hu => by
      rcases he.2 with h0 | ⟨b, off, h1, h2, h3⟩
      · rw [h0] at hu; simp [cellsM] at hu
      · cases h1
        rw [addN]
        exact ents_cells he k u hu
    obtain ⟨v', w', hr, h2, h3, h4⟩ := run_append_at (P := Try.prog) W B 24 ty 34 i0 _ 4 48 Try.underlying24 hi0 hz0 hz1 hz2 rfl (by decide) (.slice ad n cap) n (cellsM T) h.row a m cx (cellsM L) (by rw [cellsM_length, hlen]) hc (cellsM_one _) (by unfold maxLen; omega) (by omega) hB (by omega)
    obtain ⟨ad2, cap2, rfl⟩ : ∃ ad2 cap2, v' = .slice ad2 (n + m) cap2 := by
      rcases h2.2 with ⟨hv, h0⟩ | ⟨g, c, cur, hv, _⟩
      · exact ⟨none, 0, by rw [hv]; congr 1; exact h0.symm⟩
      · exact ⟨_, _, hv⟩
    refine ⟨ad2, cap2, w', hr, ⟨by rw [List.length_append, h.len, hlen], by rw [cellsM_append]; exact h2, fun e hx => ?_⟩, h3, h4⟩
    rcases List.mem_append.1 hx with hx | hx
    · exact h.fit e hx
    · exact ents_fit he e hx
theorem app_list {w0 W : World} {ad ax : Option Addr} {n cap m cx : Nat} {T L : List MEnt} (h : OutO w0 W ad n cap T) (he : EntsW W ax m L) (hb : n + m ≤ 1000000) (ty : TypeId) :
    ∃ (ad2 : Option Addr) (cap2 : Nat) (w' : World), (Builtin.append_ #[24, 24] ty #[.slice ad n cap, .slice ax m cx]).run Try.prog W = .ok (.slice ad2 (n + m) cap2) w' ∧ OutO w0 w' ad2 (n + m) cap2 (T ++ L) ∧ W.grownBy w' (Value.slice ad n cap).ownBlock ∧
      ((Value.slice ad2 (n + m) cap2).ownBlock = (Value.slice ad n cap).ownBlock ∨ (Value.slice ad2 (n + m) cap2).ownBlock = some W.heap.size) := by
  obtain ⟨ad2, cap2, w', h1, h2, h3, h4⟩ := app_row (cx := cx) h.g he h.2.2.1.size hb ty
  exact ⟨ad2, cap2, w', h1, h2.o (kept_grown h.2.2.1 h3 (fun b hb => .inr (h.2.1.lt b hb).1)), h3, h4⟩
/-- A slice without its first one. -/
theorem slice_rest {W : World} {ad : Option Addr} {n cap : Nat} {x : MEnt} {A : List MEnt} (h : EntsW W ad n (x :: A)) (hc : n ≤ cap) : ∃ ad2, EntsW W ad2 (n - 1) A ∧ n - 1 ≤ cap - 1 ∧ ∀ w : World, (Instr.slice 24 (.slice ad n cap) (some (.int .i64 1)) none none).run Try.prog w = .ok (.slice ad2 (n - 1) (cap - 1)) w := by
  have hlen := h.1
  simp only [List.length_cons] at hlen
  have hs : ∀ w, (Go.sizeOf 34).run Try.prog w = .ok 4 w := fun w => by kernel_rfl
  have hu : Try.prog.underlying 24 = some (.slice 34) := by kernel_rfl
  refine ⟨if cap = 1 then ad else ad.map (·.add 4), ?_, by omega, fun w => ?_⟩
  · by_cases hA : A = []
    · subst hA; exact ⟨by simp at hlen ⊢; omega, .inl rfl⟩
    · have : 0 < A.length := List.length_pos_iff.2 hA
      rw [if_neg (by omega)]
      rcases h.2 with h0 | ⟨b, off, h1, h2, h3⟩
      · cases h0
      · subst h1
        refine ⟨by omega, .inr ⟨b, off + 4, by simp [addN], h2, fun i hi => ?_⟩⟩
        have := h3 (i + 1) (by simp; omega)
        rw [show off + (i + 1) * 4 = off + 4 + i * 4 from by omega] at this
        simpa using this
  · have h1 : (1 : Int) ≤ (n : Int) := by omega
    simp only [Instr.slice, Instr.sliceBounds, Instr.sliceBound, asIntOf, run_underlying hu, go_sem]
    simp [h1, hs, Result.andThen]
    split
    · rfl
    · congr 1

/-- What an append's run gives is what its operation does, in a fence. -/
theorem wpListIn_run_append {F : Fence} {r : Nat} {P : Program} {ops : Array Oper} {rest : List Oper} {o : Oper} {a : Act} {Q : Exit → Act → World → Prop} {W w' : World} {v' vs vx : Value} (hgd : o.guard = none) (s x : Operand) (t ty : TypeId)
    (ho : o.op = .call { callee := .builtin .append, args := #[s, x], argTypes := #[t, t] }) (hty : o.type = ty) (hs : a.eval s = vs) (hx : a.eval x = vx)
    (hrun : (Builtin.append_ #[t, t] ty #[vs, vx]).run P W = .ok v' w') (h : wpListIn F r P ops Q rest (a.put o.dst v') w') : wpListIn F r P ops Q (o :: rest) a W := by
  refine wpListIn_plain hgd fun K hK => ?_
  rw [← hty] at hrun
  unfold Oper.wpIn
  refine ⟨?_, ?_⟩
  · simp [Oper.about, ho, resolve, Target.leads, Sem.run_pure]
  · rw [Oper.semAt_plain F _ _ (by rw [ho]; intro c hc'; cases hc')]
    simp [execOp, ho, resolve, invoke, builtin, hs, hx, hrun, Result.andThen]
    exact hK _ _ h

end Go.Proofs.Ythkejfhcdodggaa
