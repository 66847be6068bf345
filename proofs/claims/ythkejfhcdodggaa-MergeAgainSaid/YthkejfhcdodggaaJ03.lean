/- BkS, MgM, Foot, DskM. -/
import Derived.Test.YthkejfhcdodggaaJ02
import Derived.Test.YthkejfhcdodggaaJ01

/- Mathematics of sorted lists of entries: each stands ahead of all behind it, and is found by its key and number. No program. -/
namespace Go.Proofs.Pk
set_option maxRecDepth 10000

theorem sortF_up : ∀ (l : List MEnt) (p : Option MEnt), sortF p l = true → l.Pairwise (fun a b => befM a b = true) ∧ ∀ q, p = some q → ∀ e ∈ l, befM q e = true
  | [], _, _ => ⟨List.Pairwise.nil, fun _ _ _ h => by cases h⟩
  | e :: r, p, h => by
    obtain ⟨_, h2⟩ := sortF_cons h
    obtain ⟨i1, i2⟩ := sortF_up r (some e) h2
    have i3 := i2 e rfl
    refine ⟨List.pairwise_cons.2 ⟨i3, i1⟩, fun q hq x hx => ?_⟩
    subst hq
    have hb : befM q e = true := by simp only [sortF, Bool.and_eq_true] at h; exact h.1.2
    rcases List.mem_cons.1 hx with rfl | hx
    · exact hb
    · exact bef_trans hb (i3 x hx)
theorem sort_up {l : List MEnt} (h : sortB l = true) : l.Pairwise (fun a b => befM a b = true) := (sortF_up l none h).1
/-- Each entry of a sorted list is found by its key and number. -/
theorem find_self : ∀ (l : List MEnt) (e : MEnt), l.Pairwise (fun a b => befM a b = true) → e ∈ l → findM l e.1 e.2.1 = some e
  | [], _, _, h => by cases h
  | x :: r, e, hp, he => by
    obtain ⟨h1, h2⟩ := List.pairwise_cons.1 hp
    rcases List.mem_cons.1 he with rfl | he
    · unfold findM
      rw [List.find?_cons_of_pos]
      simp
    · have hb := h1 e he
      have hn : ¬(x.1 = e.1 ∧ x.2.1 ≤ e.2.1) := by
        rintro ⟨a, b⟩
        unfold befM at hb
        rw [if_pos a] at hb
        simp at hb
        omega
      have := find_self r e h2 he
      unfold findM at this ⊢
      rw [List.find?_cons_of_neg (by simpa using hn)]
      exact this
theorem get_self {l : List MEnt} (h : sortB l = true) {j : Nat} (hj : j < l.length) : getM l l[j].1 l[j].2.1 = (l[j], true) := by
  unfold getM
  rw [find_self l l[j] (sort_up h) (List.getElem_mem hj)]
end Go.Proofs.Pk

/- Mathematics of layer 15 (merge): what a reader sees, what is kept, lists merged. No program. -/
namespace Go.Proofs.Pk
set_option maxRecDepth 10000

abbrev UpM (l : List MEnt) : Prop := l.Pairwise fun a b => befM a b = true
theorem sortF_of : ∀ (l : List MEnt) (p : Option MEnt), UpM l → (∀ e ∈ l, rightM e = true) → (∀ q, p = some q → ∀ e ∈ l, befM q e = true) → sortF p l = true
  | [], _, _, _, _ => by simp [sortF]
  | e :: r, p, h, hr, hp => by
    obtain ⟨h1, h2⟩ := List.pairwise_cons.1 h
    have ih := sortF_of r (some e) h2 (fun x hx => hr x (by simp [hx])) (fun q hq x hx => by cases hq; exact h1 x hx)
    cases p with
    | none => simp only [sortF, hr e (by simp), ih, Bool.and_self]
    | some q => simp only [sortF, hr e (by simp), hp q rfl e (by simp), ih, Bool.and_self]
theorem sort_iff {l : List MEnt} : sortB l = true ↔ UpM l ∧ ∀ e ∈ l, rightM e = true :=
  ⟨fun h => ⟨sort_up h, sort_mem l none h⟩, fun h => sortF_of l none h.1 h.2 (fun _ h => by cases h)⟩
theorem sort_sub {l m : List MEnt} (h : sortB l = true) (hs : m.Sublist l) : sortB m = true := by
  obtain ⟨h1, h2⟩ := sort_iff.1 h
  exact sort_iff.2 ⟨h1.sublist hs, fun e he => h2 e (hs.subset he)⟩

/-! What is found: the first one of a key up to a number. -/
theorem find_key {l : List MEnt} {k : Txt} {s : Int} {e : MEnt} (h : findM l k s = some e) : e ∈ l ∧ e.1 = k ∧ e.2.1 ≤ s := by
  unfold findM at h
  have hp := List.find?_some h
  exact ⟨List.mem_of_find?_eq_some h, by simpa using hp⟩
/-- In a sorted list it is the newest one. -/
theorem find_newest : ∀ {l : List MEnt} {k : Txt} {s : Int} {e : MEnt}, UpM l → findM l k s = some e → ∀ x ∈ l, x.1 = k → x.2.1 ≤ s → x.2.1 ≤ e.2.1
  | [], _, _, _, _, h, _, _, _, _ => by cases h
  | y :: r, k, s, e, hu, h, x, hx, hk, hs => by
    obtain ⟨u1, u2⟩ := List.pairwise_cons.1 hu
    unfold findM at h
    by_cases hy : y.1 = k ∧ y.2.1 ≤ s
    · rw [List.find?_cons_of_pos (by simp [hy.1, hy.2])] at h
      cases h
      rcases List.mem_cons.1 hx with rfl | hx
      · exact Int.le_refl _
      · have hb := u1 x hx
        unfold befM at hb
        rw [if_pos (hy.1.trans hk.symm)] at hb
        simp only [decide_eq_true_eq] at hb
        omega
    · rw [List.find?_cons_of_neg (by simpa using hy)] at h
      rcases List.mem_cons.1 hx with rfl | hx
      · exact absurd ⟨hk, hs⟩ hy
      · exact find_newest u2 h x hx hk hs
theorem up_inj {l : List MEnt} (hu : UpM l) {a b : MEnt} (ha : a ∈ l) (hb : b ∈ l) (h1 : a.1 = b.1) (h2 : a.2.1 = b.2.1) : a = b := by
  obtain ⟨i, hi, rfl⟩ := List.getElem_of_mem ha
  obtain ⟨j, hj, rfl⟩ := List.getElem_of_mem hb
  have hp := List.pairwise_iff_getElem.1 hu
  rcases Nat.lt_trichotomy i j with h | h | h
  · have := hp i j hi hj h
    unfold befM at this; rw [if_pos h1] at this; simp at this; omega
  · subst h; rfl
  · have := hp j i hj hi h
    unfold befM at this; rw [if_pos h1.symm] at this; simp at this; omega
/-- Found, said without an order. -/
theorem find_iff {l : List MEnt} (hu : UpM l) {k : Txt} {s : Int} {e : MEnt} : findM l k s = some e ↔ e ∈ l ∧ e.1 = k ∧ e.2.1 ≤ s ∧ ∀ x ∈ l, x.1 = k → x.2.1 ≤ s → x.2.1 ≤ e.2.1 := by
  constructor
  · intro h
    obtain ⟨h1, h2, h3⟩ := find_key h
    exact ⟨h1, h2, h3, find_newest hu h⟩
  · rintro ⟨h1, h2, h3, h4⟩
    cases hf : findM l k s with
    | none =>
      unfold findM at hf
      exact absurd (show (e.1 == k && decide (e.2.1 ≤ s)) = true from by simp [h2, h3]) (List.find?_eq_none.1 hf e h1)
    | some y =>
      obtain ⟨y1, y2, y3⟩ := find_key hf
      have := find_newest hu hf e h1 h2 h3
      have := h4 y y1 y2 y3
      rw [up_inj hu y1 h1 (y2.trans h2.symm) (by omega)]
theorem find_someG {l : List MEnt} {e : MEnt} {s : Int} (he : e ∈ l) (hs : e.2.1 ≤ s) : ∃ y, findM l e.1 s = some y := by
  cases hf : findM l e.1 s with
  | none =>
    unfold findM at hf
    exact absurd (show (e.1 == e.1 && decide (e.2.1 ≤ s)) = true from by simp [hs]) (List.find?_eq_none.1 hf e he)
  | some y => exact ⟨y, rfl⟩

/-- What is seen at a number: of each key the newest one up to it, if it is none that drops. -/
def seeM (l : List MEnt) (s : Int) : List MEnt := l.filter fun e => decide (findM l e.1 s = some e) && !e.2.2.1
/-- The greatest of a key. -/
def headM (l : List MEnt) (e : MEnt) : Bool := decide (∀ x ∈ l, x.1 = e.1 → x.2.1 ≤ e.2.1)
def needM (l : List MEnt) (keep : List Int) (e : MEnt) : Bool := headM l e || keep.any fun n => decide (findM l e.1 n = some e)
def foldU (l : List MEnt) (keep : List Int) : List MEnt := l.filter (needM l keep)
/-- Those behind which, or at which, one of the key does not drop. -/
def liveM (f : List MEnt) (e : MEnt) : Bool := f.any fun x => x.1 == e.1 && decide (x.2.1 ≤ e.2.1) && !x.2.2.1
def foldM (l : List MEnt) (keep : List Int) (bottom : Bool) : List MEnt := if bottom = true then (foldU l keep).filter (liveM (foldU l keep)) else foldU l keep

theorem fold_sub (l : List MEnt) (keep : List Int) (b : Bool) : (foldM l keep b).Sublist l := by
  unfold foldM foldU
  split
  · exact (List.filter_sublist).trans List.filter_sublist
  · exact List.filter_sublist
theorem fold_sort {l : List MEnt} (h : sortB l = true) (keep : List Int) (b : Bool) : sortB (foldM l keep b) = true := sort_sub h (fold_sub l keep b)
theorem see_sort {l : List MEnt} (h : sortB l = true) (s : Int) : sortB (seeM l s) = true := sort_sub h List.filter_sublist
theorem mem_fold {l : List MEnt} {keep : List Int} {b : Bool} {e : MEnt} : e ∈ foldM l keep b ↔ e ∈ l ∧ needM l keep e = true ∧ (b = true → liveM (foldU l keep) e = true) := by
  unfold foldM
  split
  · rename_i hb
    rw [List.mem_filter]
    unfold foldU
    rw [List.mem_filter]
    exact ⟨fun h => ⟨h.1.1, h.1.2, fun _ => h.2⟩, fun h => ⟨⟨h.1, h.2.1⟩, h.2.2 hb⟩⟩
  · rename_i hb
    unfold foldU
    rw [List.mem_filter]
    exact ⟨fun h => ⟨h.1, h.2, fun h => absurd h hb⟩, fun h => ⟨h.1, h.2.1⟩⟩
/-- Numbers that a fold keeps. -/
def Kept1 (l : List MEnt) (keep : List Int) (s : Int) : Prop := s ∈ keep ∨ ∀ e ∈ l, e.2.1 ≤ s
theorem head_of {l : List MEnt} {s : Int} {e : MEnt} (hu : UpM l) (hs : ∀ e ∈ l, e.2.1 ≤ s) (h : findM l e.1 s = some e) : headM l e = true := by
  obtain ⟨_, _, _, h4⟩ := (find_iff hu).1 h
  exact decide_eq_true fun x hx hk => h4 x hx hk (hs x hx)
theorem need_of {l : List MEnt} {keep : List Int} {s : Int} {e : MEnt} (hu : UpM l) (hs : Kept1 l keep s) (h : findM l e.1 s = some e) : needM l keep e = true := by
  unfold needM
  rcases hs with hs | hs
  · rw [Bool.or_eq_true]; exact .inr (List.any_eq_true.2 ⟨s, hs, decide_eq_true h⟩)
  · rw [Bool.or_eq_true]; exact .inl (head_of hu hs h)
theorem live_up {f : List MEnt} {x e : MEnt} (h : liveM f x = true) (hk : x.1 = e.1) (hs : x.2.1 ≤ e.2.1) : liveM f e = true := by
  unfold liveM at h ⊢
  obtain ⟨y, hy, hp⟩ := List.any_eq_true.1 h
  simp only [Bool.and_eq_true, beq_iff_eq, decide_eq_true_eq, Bool.not_eq_true'] at hp
  exact List.any_eq_true.2 ⟨y, hy, by simp only [Bool.and_eq_true, beq_iff_eq, decide_eq_true_eq, Bool.not_eq_true']; exact ⟨⟨hp.1.1.trans hk, by omega⟩, hp.2⟩⟩
/-- What is found of a folded list is what was found of the list, or was dropped. -/
theorem find_fold {l : List MEnt} {keep : List Int} {b : Bool} {s : Int} {e : MEnt} (hu : UpM l) (hs : Kept1 l keep s) (he : e ∈ foldM l keep b) : findM (foldM l keep b) e.1 s = some e ↔ findM l e.1 s = some e := by
  have hf : UpM (foldM l keep b) := hu.sublist (fold_sub l keep b)
  constructor
  · intro h
    obtain ⟨_, _, h3, h4⟩ := (find_iff hf).1 h
    obtain ⟨hel, _, hlv⟩ := mem_fold.1 he
    obtain ⟨y, hy⟩ := find_someG hel h3
    obtain ⟨y1, y2, y3, y4⟩ := (find_iff hu).1 hy
    have hle := y4 e hel rfl h3
    have hyf : y ∈ foldM l keep b := mem_fold.2 ⟨y1, need_of hu hs (by rw [y2]; exact hy), fun hb => live_up (hlv hb) y2.symm hle⟩
    have := h4 y hyf y2 y3
    rw [hy, up_inj hu y1 hel y2 (by omega)]
  · intro h
    obtain ⟨_, _, h3, h4⟩ := (find_iff hu).1 h
    exact (find_iff hf).2 ⟨he, rfl, h3, fun x hx => h4 x ((fold_sub l keep b).subset hx)⟩
theorem filter_sub {α : Type} (p q : α → Bool) (l : List α) (h : ∀ x ∈ l, q x = true → p x = true) : (l.filter p).filter q = l.filter q := by
  rw [List.filter_filter]
  refine List.filter_congr fun x hx => ?_
  cases hq : q x with
  | false => simp
  | true => simp [h x hx hq]
theorem fold_filter (l : List MEnt) (keep : List Int) (b : Bool) : foldM l keep b = l.filter fun e => needM l keep e && (!b || liveM (foldU l keep) e) := by
  unfold foldM foldU
  cases b with
  | false => simp
  | true =>
    rw [if_pos rfl, List.filter_filter]
    refine List.filter_congr fun x _ => ?_
    simp [Bool.and_comm]
/-- What is seen of a folded list is what was seen of the list. -/
theorem see_fold {l : List MEnt} (h : sortB l = true) {keep : List Int} (b : Bool) {s : Int} (hs : Kept1 l keep s) : seeM (foldM l keep b) s = seeM l s := by
  have hu := sort_up h
  have e1 : seeM (foldM l keep b) s = (foldM l keep b).filter fun e => decide (findM l e.1 s = some e) && !e.2.2.1 := by
    unfold seeM
    refine List.filter_congr fun x hx => ?_
    congr 1
    exact decide_eq_decide.2 (find_fold hu hs hx)
  rw [e1, fold_filter]
  unfold seeM
  refine filter_sub _ _ l fun x hx hq => ?_
  simp only [Bool.and_eq_true, decide_eq_true_eq, Bool.not_eq_true'] at hq
  have hn := need_of hu hs hq.1
  rw [hn, Bool.true_and, Bool.or_eq_true]
  refine .inr (List.any_eq_true.2 ⟨x, List.mem_filter.2 ⟨hx, hn⟩, ?_⟩)
  simp [hq.2]
theorem bound_seq : ∀ (l : List MEnt), ∃ M : Int, ∀ e ∈ l, e.2.1 ≤ M
  | [] => ⟨0, fun _ h => by cases h⟩
  | a :: r => by
    obtain ⟨M, hM⟩ := bound_seq r
    refine ⟨max M a.2.1, fun e he => ?_⟩
    rcases List.mem_cons.1 he with rfl | he
    · omega
    · have := hM e he; omega
theorem head_fold {l : List MEnt} {keep : List Int} {b : Bool} {e : MEnt} (hu : UpM l) (he : e ∈ foldM l keep b) : headM (foldM l keep b) e = headM l e := by
  have h0 : (headM (foldM l keep b) e = true) ↔ (headM l e = true) := by
    unfold headM
    rw [decide_eq_true_eq, decide_eq_true_eq]
    constructor
    · intro h x hx hk
      -- the greatest of the key
      obtain ⟨hel, _, hlv⟩ := mem_fold.1 he
      obtain ⟨M, hM⟩ := bound_seq l
      obtain ⟨y, hy⟩ := find_someG hel (hM e hel)
      obtain ⟨y1, y2, y3, y4⟩ := (find_iff hu).1 hy
      have hle := y4 e hel rfl (hM e hel)
      have hyf : y ∈ foldM l keep b := mem_fold.2 ⟨y1, by unfold needM; rw [head_of hu hM (by rw [y2]; exact hy)]; rfl, fun hb => live_up (hlv hb) y2.symm hle⟩
      have := h y hyf y2
      have := y4 x hx hk (hM x hx)
      omega
    · intro h x hx hk
      exact h x ((fold_sub l keep b).subset hx) hk
  cases h1 : headM l e with
  | true => exact h0.2 h1
  | false => rw [Bool.eq_false_iff]; intro h; rw [h0.1 h] at h1; cases h1
theorem need_fold {l : List MEnt} {keep : List Int} {b : Bool} {e : MEnt} (hu : UpM l) (he : e ∈ foldM l keep b) : needM (foldM l keep b) keep e = true := by
  obtain ⟨_, hn, _⟩ := mem_fold.1 he
  unfold needM at hn ⊢
  rw [head_fold hu he]
  rw [Bool.or_eq_true] at hn ⊢
  rcases hn with hn | hn
  · exact .inl hn
  · obtain ⟨n, hk, hp⟩ := List.any_eq_true.1 hn
    exact .inr (List.any_eq_true.2 ⟨n, hk, decide_eq_true ((find_fold hu (.inl hk) he).2 (of_decide_eq_true hp))⟩)
/-- What was folded, folded again, stays. -/
theorem fold_again {l : List MEnt} (h : sortB l = true) (keep : List Int) (b : Bool) : foldM (foldM l keep b) keep b = foldM l keep b := by
  have hu := sort_up h
  have hU : foldU (foldM l keep b) keep = foldM l keep b := List.filter_eq_self.2 fun x hx => need_fold hu hx
  cases b with
  | false => exact hU
  | true =>
    have e : foldM (foldM l keep true) keep true = (foldU (foldM l keep true) keep).filter (liveM (foldU (foldM l keep true) keep)) := by
      rw [foldM, if_pos rfl]
    rw [e, hU]
    refine List.filter_eq_self.2 fun x hx => ?_
    obtain ⟨hxl, hn, hlv⟩ := mem_fold.1 hx
    obtain ⟨y, hy, hp⟩ := List.any_eq_true.1 (hlv rfl)
    simp only [Bool.and_eq_true, beq_iff_eq, decide_eq_true_eq, Bool.not_eq_true'] at hp
    have hyl := List.mem_filter.1 hy
    refine List.any_eq_true.2 ⟨y, mem_fold.2 ⟨hyl.1, hyl.2, fun _ => List.any_eq_true.2 ⟨y, hy, by simp [hp.2]⟩⟩, ?_⟩
    simp [hp.1.1, hp.1.2, hp.2]
/-- With less kept there is no more. -/
theorem fold_less {l : List MEnt} (h : sortB l = true) (keep : List Int) (b : Bool) : (foldM l [] b).length ≤ (foldM l keep b).length := by
  have hu := sort_up h
  rw [fold_filter, fold_filter, ← List.countP_eq_length_filter, ← List.countP_eq_length_filter]
  refine List.countP_mono_left fun x hx hp => ?_
  have mono : ∀ y, needM l [] y = true → needM l keep y = true := fun y hy => by
    unfold needM at hy ⊢
    simp only [List.any_nil, Bool.or_false] at hy
    rw [hy]; rfl
  simp only [Bool.and_eq_true, Bool.or_eq_true, Bool.not_eq_true'] at hp ⊢
  refine ⟨mono x hp.1, hp.2.imp_right fun hl => ?_⟩
  obtain ⟨y, hy, hq⟩ := List.any_eq_true.1 hl
  obtain ⟨y1, y2⟩ := List.mem_filter.1 hy
  exact List.any_eq_true.2 ⟨y, List.mem_filter.2 ⟨y1, mono y y2⟩, hq⟩
/-- What is seen: each found, none dropped, the keys rising. -/
theorem see_mem {l : List MEnt} {s : Int} {e : MEnt} (h : e ∈ seeM l s) : findM l e.1 s = some e ∧ e.2.2.1 = false ∧ e.2.1 ≤ s := by
  obtain ⟨_, hp⟩ := List.mem_filter.1 h
  simp only [Bool.and_eq_true, decide_eq_true_eq, Bool.not_eq_true'] at hp
  exact ⟨hp.1, hp.2, (find_key hp.1).2.2⟩
theorem see_rise {l : List MEnt} (h : sortB l = true) (s : Int) : (seeM l s).Pairwise fun a b => a.1 < b.1 := by
  have hp : UpM (seeM l s) := (sort_up h).sublist List.filter_sublist
  refine List.Pairwise.imp_of_mem ?_ hp
  intro a b ha hb hab
  unfold befM at hab
  by_cases hk : a.1 = b.1
  · rw [if_pos hk] at hab
    obtain ⟨a1, _, _⟩ := see_mem ha
    obtain ⟨b1, _, _⟩ := see_mem hb
    rw [hk, b1] at a1
    cases a1
    simp at hab
  · rw [if_neg hk] at hab
    simpa using hab

/-! Lists, merged. -/
/-- An entry is put into a sorted list, if there is none of its key and number. -/
def putG : List MEnt → MEnt → List MEnt
  | [], e => [e]
  | x :: r, e => if befM x e = true then x :: putG r e else if sameM x e = true then x :: r else e :: x :: r
def mergeG (ls : List (List MEnt)) : List MEnt := ls.flatten.foldl putG []
def mergeM (ls : List (List MEnt)) : List MEnt × Bool := if ls.all sortB = true then (mergeG ls, true) else ([], false)
theorem putG_mem : ∀ (T : List MEnt) (e x : MEnt), UpM T → (x ∈ putG T e ↔ x ∈ T ∨ (x = e ∧ ∀ y ∈ T, sameM y e = false))
  | [], e, x, _ => by simp [putG]
  | y :: r, e, x, hu => by
    obtain ⟨u1, u2⟩ := List.pairwise_cons.1 hu
    have ih := putG_mem r e x u2
    unfold putG
    by_cases hb : befM y e = true
    · rw [if_pos hb]
      have hs : sameM y e = false := by
        rw [Bool.eq_false_iff]; intro hs; rw [same_not_bef hs] at hb; cases hb
      rw [List.mem_cons, ih, List.mem_cons]
      constructor
      · rintro (h | h | ⟨h1, h2⟩)
        · exact .inl (.inl h)
        · exact .inl (.inr h)
        · exact .inr ⟨h1, fun z hz => by rcases List.mem_cons.1 hz with rfl | hz; exact hs; exact h2 z hz⟩
      · rintro ((h | h) | ⟨h1, h2⟩)
        · exact .inl h
        · exact .inr (.inl h)
        · exact .inr (.inr ⟨h1, fun z hz => h2 z (by simp [hz])⟩)
    · rw [if_neg hb]
      by_cases hs : sameM y e = true
      · rw [if_pos hs]
        constructor
        · exact .inl
        · rintro (h | ⟨_, h2⟩)
          · exact h
          · have := h2 y (by simp); rw [hs] at this; cases this
      · rw [if_neg hs]
        have hey : befM e y = true := bef_not hb hs
        have hall : ∀ z ∈ y :: r, sameM z e = false := fun z hz => by
          rw [Bool.eq_false_iff]
          intro hz2
          have hez : befM e z = true := by
            rcases List.mem_cons.1 hz with rfl | hz
            · exact hey
            · exact bef_trans hey (u1 z hz)
          rw [bef_same hz2] at hez
          rw [bef_irr] at hez; cases hez
        rw [List.mem_cons]
        constructor
        · rintro (h | h)
          · exact .inr ⟨h, hall⟩
          · exact .inl h
        · rintro (h | ⟨h, _⟩)
          · exact .inr h
          · exact .inl h
theorem putG_up : ∀ (T : List MEnt) (e : MEnt), UpM T → UpM (putG T e)
  | [], e, _ => by simp [putG, UpM]
  | y :: r, e, hu => by
    obtain ⟨u1, u2⟩ := List.pairwise_cons.1 hu
    unfold putG
    by_cases hb : befM y e = true
    · rw [if_pos hb]
      refine List.pairwise_cons.2 ⟨fun x hx => ?_, putG_up r e u2⟩
      rcases (putG_mem r e x u2).1 hx with h | ⟨h, _⟩
      · exact u1 x h
      · rw [h]; exact hb
    · rw [if_neg hb]
      by_cases hs : sameM y e = true
      · rw [if_pos hs]; exact hu
      · rw [if_neg hs]
        have hey : befM e y = true := bef_not hb hs
        refine List.pairwise_cons.2 ⟨fun x hx => ?_, hu⟩
        rcases List.mem_cons.1 hx with rfl | hx
        · exact hey
        · exact bef_trans hey (u1 x hx)
/-- The first of some entries that has a key and a number. -/
def firstS (l : List MEnt) (x : MEnt) : Option MEnt := l.find? fun y => sameM y x
theorem same_symm {a b : MEnt} (h : sameM a b = true) : sameM b a = true := by rw [same_iff] at *; exact ⟨h.1.symm, h.2.symm⟩
theorem same_trans {a b c : MEnt} (h : sameM a b = true) (k : sameM b c = true) : sameM a c = true := by rw [same_iff] at *; exact ⟨h.1.trans k.1, h.2.trans k.2⟩
theorem same_refl (a : MEnt) : sameM a a = true := by rw [same_iff]; exact ⟨rfl, rfl⟩
theorem same_up {l : List MEnt} (hu : UpM l) {a b : MEnt} (ha : a ∈ l) (hb : b ∈ l) (h : sameM a b = true) : a = b := up_inj hu ha hb (same_iff.1 h).1 (same_iff.1 h).2
/-- What has been put: sorted; of each key and number the first one. -/
theorem puts_go : ∀ (l T : List MEnt), UpM T → UpM (l.foldl putG T) ∧ ∀ x, x ∈ l.foldl putG T ↔ x ∈ T ∨ ((∀ y ∈ T, sameM y x = false) ∧ firstS l x = some x)
  | [], T, h => ⟨h, fun x => by simp [firstS]⟩
  | e :: r, T, h => by
    obtain ⟨h1, h2⟩ := puts_go r (putG T e) (putG_up T e h)
    refine ⟨h1, fun x => ?_⟩
    rw [List.foldl_cons, h2 x, putG_mem T e x h]
    have hm := putG_mem T e
    unfold firstS
    constructor
    · rintro ((hx | ⟨hx, hy⟩) | ⟨hx, hy⟩)
      · exact .inl hx
      · refine .inr ⟨fun y hyT => by rw [hx]; exact hy y hyT, ?_⟩
        rw [List.find?_cons_of_pos (by rw [hx]; exact same_refl e), hx]
      · refine .inr ⟨fun y hyT => hx y ((hm y h).2 (.inl hyT)), ?_⟩
        have hex : sameM e x = false := by
          by_cases hT : ∀ y ∈ T, sameM y e = false
          · exact hx e ((hm e h).2 (.inr ⟨rfl, hT⟩))
          · obtain ⟨z, hz⟩ := Classical.not_forall.1 hT
            obtain ⟨hzT, hz2⟩ := Classical.not_imp.1 hz
            have hze : sameM z e = true := by simpa using hz2
            rw [Bool.eq_false_iff]
            intro hex
            have := hx z ((hm z h).2 (.inl hzT))
            rw [same_trans hze hex] at this; cases this
        rw [List.find?_cons_of_neg (by rw [hex]; simp)]
        exact hy
    · rintro (hx | ⟨hx, hy⟩)
      · exact .inl (.inl hx)
      · by_cases hex : sameM e x = true
        · rw [List.find?_cons_of_pos (p := fun y => sameM y x) hex] at hy
          cases hy
          exact .inl (.inr ⟨rfl, fun y hyT => hx y hyT⟩)
        · rw [List.find?_cons_of_neg (p := fun y => sameM y x) hex] at hy
          refine .inr ⟨fun y hyP => ?_, hy⟩
          rcases (hm y h).1 hyP with hyT | ⟨rfl, _⟩
          · exact hx y hyT
          · simpa using hex
theorem merge_up (ls : List (List MEnt)) : UpM (mergeG ls) := (puts_go ls.flatten [] List.Pairwise.nil).1
theorem merge_mem (ls : List (List MEnt)) (x : MEnt) : x ∈ mergeG ls ↔ firstS ls.flatten x = some x := by
  rw [mergeG, (puts_go ls.flatten [] List.Pairwise.nil).2 x]
  simp
/-- Two sorted lists with the same entries are the same. -/
theorem up_uniq : ∀ (a b : List MEnt), UpM a → UpM b → (∀ x, x ∈ a ↔ x ∈ b) → a = b
  | [], [], _, _, _ => rfl
  | [], y :: s, _, _, h => by have := (h y).2 (by simp); cases this
  | x :: r, [], _, _, h => by have := (h x).1 (by simp); cases this
  | x :: r, y :: s, ha, hb, h => by
    obtain ⟨a1, a2⟩ := List.pairwise_cons.1 ha
    obtain ⟨b1, b2⟩ := List.pairwise_cons.1 hb
    have hxy : x = y := by
      rcases List.mem_cons.1 ((h x).1 (by simp)) with e | e
      · exact e
      · rcases List.mem_cons.1 ((h y).2 (by simp)) with f | f
        · exact f.symm
        · have := bef_trans (a1 y f) (b1 x e); rw [bef_irr] at this; cases this
    subst hxy
    rw [up_uniq r s a2 b2 (fun z => ?_)]
    have hz := h z
    rw [List.mem_cons, List.mem_cons] at hz
    constructor
    · intro hzr
      rcases hz.1 (.inr hzr) with e | e
      · subst e; have := a1 z hzr; rw [bef_irr] at this; cases this
      · exact e
    · intro hzs
      rcases hz.2 (.inr hzs) with e | e
      · subst e; have := b1 z hzs; rw [bef_irr] at this; cases this
      · exact e
theorem merge_sort {ls : List (List MEnt)} (h : ls.all sortB = true) : sortB (mergeG ls) = true := by
  refine sort_iff.2 ⟨merge_up ls, fun e he => ?_⟩
  have hf := (merge_mem ls e).1 he
  obtain ⟨l, hl, hel⟩ := List.mem_flatten.1 (List.mem_of_find?_eq_some hf)
  exact (sort_iff.1 (List.all_eq_true.1 h l hl)).2 e hel
/-- Each entry of each list is there, by key and number; and no other one. -/
theorem merge_has {ls : List (List MEnt)} {x : MEnt} (h : x ∈ ls.flatten) : ∃ y ∈ mergeG ls, sameM y x = true := by
  cases hf : firstS ls.flatten x with
  | none => exact absurd (same_refl x) (List.find?_eq_none.1 hf x h)
  | some y =>
    have hyx := List.find?_some hf
    refine ⟨y, (merge_mem ls y).2 ?_, hyx⟩
    rw [← hf]
    unfold firstS
    congr 1
    funext z
    cases hz : sameM z y with
    | true => exact (same_trans hz hyx).symm
    | false => rw [eq_comm, Bool.eq_false_iff]; intro hzx; rw [same_trans hzx (same_symm hyx)] at hz; cases hz
theorem merge_from {ls : List (List MEnt)} {x : MEnt} (h : x ∈ mergeG ls) : x ∈ ls.flatten := List.mem_of_find?_eq_some ((merge_mem ls x).1 h)
/-- A sorted list, put into nothing, is itself. -/
theorem puts_self {c : List MEnt} (h : UpM c) : c.foldl putG [] = c := by
  obtain ⟨h1, h2⟩ := puts_go c [] List.Pairwise.nil
  refine up_uniq _ _ h1 h fun x => ?_
  rw [h2 x]
  simp only [List.not_mem_nil, false_or, false_implies, implies_true, true_and]
  constructor
  · exact fun hf => List.mem_of_find?_eq_some hf
  · intro hx
    cases hf : firstS c x with
    | none => exact absurd (same_refl x) (List.find?_eq_none.1 hf x hx)
    | some y =>
      have hyx : sameM y x = true := List.find?_some (p := fun y => sameM y x) hf
      rw [same_up h (List.mem_of_find?_eq_some hf) hx hyx]
/-- Merged one by one. -/
theorem merge_one (c x : List MEnt) (h : UpM c) : mergeG [c, x] = x.foldl putG c := by
  unfold mergeG
  simp only [List.flatten_cons, List.flatten_nil, List.append_nil, List.foldl_append]
  rw [puts_self h]
theorem merge_snoc (ls : List (List MEnt)) (x : List MEnt) : mergeG (ls ++ [x]) = mergeG [mergeG ls, x] := by
  rw [merge_one _ _ (merge_up ls)]
  unfold mergeG
  simp [List.foldl_append]
/-- In any order, as many; and the same ones, if none was left out. -/
def kn (x : MEnt) : Txt × Int := (x.1, x.2.1)
theorem kn_same {a b : MEnt} : sameM a b = true ↔ kn a = kn b := by rw [same_iff]; unfold kn; simp
theorem up_kn {l : List MEnt} (h : UpM l) : (l.map kn).Nodup := by
  refine List.pairwise_map.2 (List.Pairwise.imp ?_ h)
  intro a b hab e
  rw [same_not_bef (kn_same.2 e)] at hab; cases hab
theorem kn_perm {a b : List MEnt} (ha : UpM a) (hb : UpM b) (h1 : ∀ x ∈ a, ∃ y ∈ b, sameM y x = true) (h2 : ∀ x ∈ b, ∃ y ∈ a, sameM y x = true) : (a.map kn).Perm (b.map kn) := by
  refine (List.perm_ext_iff_of_nodup (up_kn ha) (up_kn hb)).2 fun z => ?_
  constructor
  · intro hz
    obtain ⟨x, hx, rfl⟩ := List.mem_map.1 hz
    obtain ⟨y, hy, hs⟩ := h1 x hx
    exact List.mem_map.2 ⟨y, hy, kn_same.1 hs⟩
  · intro hz
    obtain ⟨x, hx, rfl⟩ := List.mem_map.1 hz
    obtain ⟨y, hy, hs⟩ := h2 x hx
    exact List.mem_map.2 ⟨y, hy, kn_same.1 hs⟩
theorem turn_perm {ls ms : List (List MEnt)} (h : ∀ x, x ∈ ls.flatten ↔ x ∈ ms.flatten) : ((mergeG ls).map kn).Perm ((mergeG ms).map kn) :=
  kn_perm (merge_up ls) (merge_up ms) (fun x hx => merge_has ((h x).1 (merge_from hx))) (fun x hx => merge_has ((h x).2 (merge_from hx)))
theorem turn_len {ls ms : List (List MEnt)} (h : ∀ x, x ∈ ls.flatten ↔ x ∈ ms.flatten) : (mergeG ls).length = (mergeG ms).length := by
  have := (turn_perm h).length_eq; simpa using this
theorem put_len : ∀ (T : List MEnt) (e : MEnt), (putG T e).length ≤ T.length + 1
  | [], e => by simp [putG]
  | x :: s, e => by
    have := put_len s e
    unfold putG; split
    · simp only [List.length_cons]; omega
    · split <;> simp
theorem put_full : ∀ (T : List MEnt) (e : MEnt), T.length + 1 ≤ (putG T e).length → e ∈ putG T e
  | [], e, _ => by simp [putG]
  | x :: s, e, h => by
    unfold putG at h ⊢; split
    · rename_i hb
      rw [if_pos hb] at h
      simp only [List.length_cons] at h
      exact List.mem_cons_of_mem _ (put_full s e (by omega))
    · rename_i hb
      rw [if_neg hb] at h
      split
      · rename_i hs; rw [if_pos hs] at h; simp only [List.length_cons] at h; omega
      · simp
theorem put_keep : ∀ (T : List MEnt) (e x : MEnt), x ∈ T → x ∈ putG T e
  | [], _, _, h => by cases h
  | y :: s, e, x, h => by
    unfold putG; split
    · rcases List.mem_cons.1 h with rfl | h
      · simp
      · exact List.mem_cons_of_mem _ (put_keep s e x h)
    · split
      · exact h
      · exact List.mem_cons_of_mem _ h
theorem merge_le : ∀ (l T : List MEnt), (l.foldl putG T).length ≤ T.length + l.length
  | [], T => by simp
  | e :: r, T => by
    have := merge_le r (putG T e)
    have := put_len T e
    rw [List.foldl_cons, List.length_cons]
    omega
theorem puts_full : ∀ (l T : List MEnt), T.length + l.length ≤ (l.foldl putG T).length → ∀ x, x ∈ T ∨ x ∈ l → x ∈ l.foldl putG T
  | [], T, _, x, h => by simpa using h
  | e :: r, T, hl, x, h => by
    rw [List.foldl_cons, List.length_cons] at hl
    have h1 := merge_le r (putG T e)
    have h2 := put_len T e
    rw [List.foldl_cons]
    refine puts_full r (putG T e) (by omega) x ?_
    rcases h with h | h
    · exact .inl (put_keep T e x h)
    · rcases List.mem_cons.1 h with rfl | h
      · exact .inl (put_full T x (by omega))
      · exact .inr h
theorem merge_len (ls : List (List MEnt)) : (mergeG ls).length ≤ ls.flatten.length := by have := merge_le ls.flatten []; simp only [List.length_nil, Nat.zero_add] at this; exact this
/-- If none was left out, then of each key and number there was but one. -/
theorem merge_all {ls : List (List MEnt)} (h : ls.flatten.length ≤ (mergeG ls).length) {x y : MEnt} (hx : x ∈ ls.flatten) (hy : y ∈ ls.flatten) (hs : sameM x y = true) : x = y := by
  have hf : ∀ x ∈ ls.flatten, x ∈ mergeG ls := fun x hx => puts_full ls.flatten [] (by simp only [List.length_nil, Nat.zero_add]; exact h) x (.inr hx)
  exact same_up (merge_up ls) (hf x hx) (hf y hy) hs
theorem turn_same {ls ms : List (List MEnt)} (h : ∀ x, x ∈ ls.flatten ↔ x ∈ ms.flatten) (hl : ls.flatten.length ≤ (mergeG ls).length) : mergeG ls = mergeG ms := by
  refine up_uniq _ _ (merge_up ls) (merge_up ms) fun x => ⟨fun hx => ?_, fun hx => ?_⟩
  · obtain ⟨y, hy, hs⟩ := merge_has ((h x).1 (merge_from hx))
    rw [← merge_all hl ((h y).2 (merge_from hy)) (merge_from hx) hs]; exact hy
  · obtain ⟨y, hy, hs⟩ := merge_has ((h x).2 (merge_from hx))
    rw [← merge_all hl (merge_from hy) ((h x).2 (merge_from hx)) hs]; exact hy
end Go.Proofs.Pk

/- What a call on an object leaves alone: all blocks but the object's own. No program. -/
namespace Go.Proofs.Pk
open Go.RowKit
set_option maxRecDepth 10000

/-- All that lay is as it was, but for the blocks of X. -/
structure Kept (X : Nat → Prop) (w w' : World) : Prop where
  os : w'.os = w.os
  tape : w'.tape = w.tape
  output : w'.output = w.output
  size : w.heap.size ≤ w'.heap.size
  block : ∀ k, k < w.heap.size → ¬X k → w'.heap[k]? = w.heap[k]?

theorem Kept.refl (X : Nat → Prop) (w : World) : Kept X w w := ⟨rfl, rfl, rfl, Nat.le_refl _, fun _ _ _ => rfl⟩
theorem Kept.trans {X Y : Nat → Prop} {a b c : World} (h : Kept X a b) (k : Kept Y b c) (hY : ∀ n, Y n → X n ∨ a.heap.size ≤ n) : Kept X a c :=
  ⟨k.os.trans h.os, k.tape.trans h.tape, k.output.trans h.output, Nat.le_trans h.size k.size, fun n hn hx =>
    (k.block n (Nat.lt_of_lt_of_le hn h.size) (fun hy => (hY n hy).elim hx (fun hl => by omega))).trans (h.block n hn hx)⟩
theorem Kept.mono {X Y : Nat → Prop} {a b : World} (h : Kept X a b) (hY : ∀ n, X n → Y n) : Kept Y a b :=
  ⟨h.os, h.tape, h.output, h.size, fun n hn hy => h.block n hn (fun hx => hy (hY n hx))⟩
theorem Kept.of_below (X : Nat → Prop) {a b : World} (h : Below a.heap.size a b) : Kept X a b :=
  ⟨h.os, h.tape, h.output, h.size, fun n hn _ => h.block n hn⟩
theorem Kept.below {X : Nat → Prop} {a b : World} {B : Nat} (h : Kept X a b) (hB : B ≤ a.heap.size) (hX : ∀ n, X n → B ≤ n) : Below B a b :=
  ⟨h.os, h.tape, h.output, h.size, fun n hn => h.block n (by omega) (fun hx => by have := hX n hx; omega)⟩
theorem Kept.cell {X : Nat → Prop} {a b : World} (h : Kept X a b) {p : Addr} (hp : p.block < a.heap.size) (hx : ¬X p.block) : b.cell? p = a.cell? p :=
  World.cell?_of_block (w := a) (h.block p.block hp hx)
theorem Kept.frozen {X : Nat → Prop} {a b : World} (h : Kept X a b) {p : Addr} (hp : p.block < a.heap.size) (hx : ¬X p.block) : b.frozen? p = a.frozen? p :=
  World.frozen?_of_block (w := a) (h.block p.block hp hx)
theorem Kept.setCell {X : Nat → Prop} {a w : World} (h : Kept X a w) {p : Addr} (hp : X p.block) (u : Value) : Kept X a (w.setCell p u) :=
  ⟨h.os, h.tape, h.output, by simpa using h.size, fun n hn hx => by
    rw [Below.heap_setCell _ _ _ _ (fun e => hx (by rw [e]; exact hp))]; exact h.block n hn hx⟩
theorem Kept.setNew {X : Nat → Prop} {a w : World} (h : Kept X a w) {p : Addr} (hp : a.heap.size ≤ p.block) (u : Value) : Kept X a (w.setCell p u) :=
  ⟨h.os, h.tape, h.output, by simpa using h.size, fun n hn hx => by
    rw [Below.heap_setCell _ _ _ _ (by omega)]; exact h.block n hn hx⟩
theorem Kept.drewN {X : Nat → Prop} {a w : World} (h : Kept X a w) (n : Nat) : Kept X a (w.drewN n) :=
  h.trans (Kept.of_below (fun _ => False) (belowN (Below.refl _ _) n)) (fun _ hf => hf.elim)
theorem Kept.alloc {X : Nat → Prop} {a w : World} (h : Kept X a w) (o : Obj) : Kept X a (w.alloc o) :=
  h.trans (Kept.of_below (fun _ => False) ((Below.refl _ _).alloc (Nat.le_refl _) o)) (fun _ hf => hf.elim)

/-- What an object's blocks are behind a call: of those that were, or new ones. -/
def Grows (w : World) (X X' : Nat → Prop) : Prop := ∀ n, X' n → X n ∨ w.heap.size ≤ n
theorem Grows.refl (w : World) (X : Nat → Prop) : Grows w X X := fun _ h => .inl h
theorem Grows.trans {a b : World} {X Y Z : Nat → Prop} (h : Grows a X Y) (k : Grows b Y Z) (hab : a.heap.size ≤ b.heap.size) : Grows a X Z := fun n hz =>
  (k n hz).elim (fun hy => h n hy) (fun hb => .inr (by omega))
/-- Blocks of which none is among X lie apart from what X has become. -/
theorem Grows.apart {w : World} {X X' Y : Nat → Prop} (h : Grows w X X') (hY : ∀ n, Y n → n < w.heap.size) (hd : ∀ n, X n → ¬Y n) : ∀ n, X' n → ¬Y n := fun n hx hy =>
  (h n hx).elim (fun hx => hd n hx hy) (fun hb => by have := hY n hy; omega)

/-- A block that holds just these cells, and they may be written. -/
def Holds (w : World) (g : Nat) (C : List Value) (e : TypeId) : Prop := w.heap[g]? = some (.cells C.toArray e)

theorem Holds.cell {w : World} {g : Nat} {C : List Value} {e : TypeId} (h : Holds w g C e) (k : Nat) (v : Value) (hk : C[k]? = some v) : w.cell? ⟨g, k, none⟩ = some v := by
  unfold World.cell?
  rw [show w.heap[(⟨g, k, none⟩ : Addr).block]? = some (.cells C.toArray e) from h]
  simpa using hk
theorem Holds.free {w : World} {g : Nat} {C : List Value} {e : TypeId} (h : Holds w g C e) (k : Nat) : w.frozen? ⟨g, k, none⟩ = false := by
  unfold World.frozen?
  rw [show w.heap[(⟨g, k, none⟩ : Addr).block]? = some (.cells C.toArray e) from h]
  simp
theorem Holds.set {w : World} {g : Nat} {C : List Value} {e : TypeId} (h : Holds w g C e) (k : Nat) (v : Value) : Holds (w.setCell ⟨g, k, none⟩ v) g (C.set k v) e := by
  unfold Holds at *
  simp only [World.setCell, Array.getElem?_modify]
  simp [h]

theorem Holds.ne {w : World} {g r : Nat} {C : List Value} {e : TypeId} (h : Holds w r C e) (hne : r ≠ g) (k : Nat) (v : Value) : Holds (w.setCell ⟨g, k, none⟩ v) r C e := by
  unfold Holds at *
  rw [Below.heap_setCell _ _ _ _ hne]; exact h

theorem owns_of_block {w w' : World} {B : Nat} {e : TypeId} {size : Nat} {v : Value} {n : Nat} {xs : List Value} (h : w.ownsRow B e size v n xs) (hb : ∀ g, v.ownBlock = some g → w'.heap[g]? = w.heap[g]?) : w'.ownsRow B e size v n xs := by
  refine ⟨h.1, ?_⟩
  rcases h.2 with h0 | ⟨g, cap, cur, rfl, h1, h2, h3⟩
  · exact .inl h0
  · exact .inr ⟨g, cap, cur, rfl, h1, by rw [hb g rfl]; exact h2, h3⟩
theorem owns_setCell {w : World} {B p k : Nat} {e : TypeId} {size : Nat} {v u : Value} {n : Nat} {xs : List Value} (h : w.ownsRow B e size v n xs) (hne : v.ownBlock ≠ some p) : (w.setCell ⟨p, k, none⟩ u).ownsRow B e size v n xs :=
  owns_of_block h fun g hg => Below.heap_setCell _ _ _ _ (fun e => hne (by rw [hg]; exact congrArg some e))
theorem Holds.lt {w : World} {g : Nat} {C : List Value} {e : TypeId} (h : Holds w g C e) : g < w.heap.size := (Array.getElem?_eq_some_iff.1 h).1
theorem Holds.of_block {w w' : World} {g : Nat} {C : List Value} {e : TypeId} (h : Holds w g C e) (hb : w'.heap[g]? = w.heap[g]?) : Holds w' g C e := by unfold Holds at *; rw [hb]; exact h

end Go.Proofs.Pk

/- Plain mathematics for layer 4 (disk): what a disk is, and what its calls do. No Go, no program. -/
namespace Go.Proofs.Pk
set_option maxRecDepth 10000

/-- What lasts, by sectors; the cache, the first write first; the fuse (-1: not set); whether the power is off; how many writes there were. -/
structure Dsk where
  L : List (List UInt8)
  C : List (Nat × List UInt8)
  fuse : Int
  off : Bool
  n : Nat

def padL (s : List UInt8) : List UInt8 := s ++ List.replicate (64 - s.length) 0
def Dsk.new (k : Nat) : Dsk := ⟨List.replicate k (List.replicate 64 0), [], -1, false, 0⟩
/-- The last write to a sector in the cache. -/
def lastW (C : List (Nat × List UInt8)) (k : Nat) : Option (List UInt8) := (C.reverse.find? (fun x => x.1 == k)).map (·.2)
/-- Read: the bytes, the error. -/
def Dsk.read (S : Dsk) (k : Int) : List UInt8 × Nat :=
  if S.off then ([], 6) else if k < 0 ∨ (S.L.length : Int) ≤ k then ([], 1)
  else ((lastW S.C k.toNat).getD (S.L.getD k.toNat []), 0)
/-- Write: the disk, the error. -/
def Dsk.write (S : Dsk) (k : Int) (s : List UInt8) : Dsk × Nat :=
  if S.off then (S, 6) else if k < 0 ∨ (S.L.length : Int) ≤ k then (S, 1) else if 64 < s.length then (S, 5)
  else if S.fuse = 0 then ({ S with off := true }, 6)
  else ({ S with fuse := if 0 < S.fuse then S.fuse - 1 else S.fuse, n := S.n + 1, C := S.C ++ [(k.toNat, padL s)] }, 0)
/-- The writes of the cache, one by one. -/
def syncL (L : List (List UInt8)) (C : List (Nat × List UInt8)) : List (List UInt8) := C.foldl (fun L x => L.set x.1 x.2) L
def Dsk.sync (S : Dsk) : Dsk × Nat := if S.off then (S, 6) else ({ S with L := syncL S.L S.C, C := [] }, 0)
def Dsk.setFuse (S : Dsk) (n : Int) : Dsk := { S with fuse := max n (-1) }
/-- What a crash does with the write of index i. -/
def crashOne (keeps : List Int) (torn bytes : Int) (L : List (List UInt8)) (i : Nat) (x : Nat × List UInt8) : List (List UInt8) :=
  if (i : Int) = torn then L.set x.1 (x.2.take (min (max bytes 0) 64).toNat ++ (L.getD x.1 []).drop (min (max bytes 0) 64).toNat)
  else if i < keeps.length ∧ (keeps.getD i 0) % 2 ≠ 0 then L.set x.1 x.2 else L
def crashL (keeps : List Int) (torn bytes : Int) (L : List (List UInt8)) (i : Nat) : List (Nat × List UInt8) → List (List UInt8)
  | [] => L
  | x :: C => crashL keeps torn bytes (crashOne keeps torn bytes L i x) (i + 1) C
def Dsk.crash (S : Dsk) (keeps : List Int) (torn bytes : Int) : Dsk := { S with L := crashL keeps torn bytes S.L 0 S.C, C := [], fuse := -1, off := false }

/-- A disk as it should be: sectors of 64 bytes, writes to sectors that are there. -/
structure Dsk.Ok (S : Dsk) : Prop where
  few : S.L.length ≤ 4000
  sect : ∀ s ∈ S.L, s.length = 64
  cach : ∀ x ∈ S.C, x.1 < S.L.length ∧ x.2.length = 64
  fus : -1 ≤ S.fuse ∧ S.fuse ≤ 9223372036854775807

theorem padL_length (s : List UInt8) (h : s.length ≤ 64) : (padL s).length = 64 := by
  unfold padL; rw [List.length_append, List.length_replicate]; omega
theorem Dsk.new_ok (k : Nat) (h : k ≤ 4000) : (Dsk.new k).Ok :=
  ⟨by simpa [Dsk.new] using h, by simp [Dsk.new], by simp [Dsk.new], by simp [Dsk.new]⟩
theorem Dsk.write_ok {S : Dsk} (h : S.Ok) (k : Int) (s : List UInt8) : (S.write k s).1.Ok := by
  unfold Dsk.write
  repeat' split
  all_goals (first | exact h | skip)
  · exact ⟨h.few, h.sect, h.cach, h.fus⟩
  · rename_i h1 h2 h3 h4
    refine ⟨h.few, h.sect, ?_, ?_⟩
    · intro x hx
      rcases List.mem_append.1 hx with hx | hx
      · exact h.cach x hx
      · have : x = (k.toNat, padL s) := by simpa using hx
        subst this
        exact ⟨by simp only []; omega, padL_length s (by omega)⟩
    · have := h.fus; simp only []; omega
  · rename_i h1 h2 h3 h4
    refine ⟨h.few, h.sect, ?_, ?_⟩
    · intro x hx
      rcases List.mem_append.1 hx with hx | hx
      · exact h.cach x hx
      · have : x = (k.toNat, padL s) := by simpa using hx
        subst this
        exact ⟨by simp only []; omega, padL_length s (by omega)⟩
    · have := h.fus; simp only []; omega

theorem lastW_nil (k : Nat) : lastW [] k = none := rfl
theorem lastW_snoc (C : List (Nat × List UInt8)) (x : Nat × List UInt8) (k : Nat) : lastW (C ++ [x]) k = if x.1 = k then some x.2 else lastW C k := by
  unfold lastW
  rw [List.reverse_append]
  simp only [List.reverse_cons, List.reverse_nil, List.nil_append, List.singleton_append, List.find?_cons]
  by_cases h : x.1 = k
  · simp [h]
  · rw [show (x.1 == k) = false from by simpa using h]; simp [h]
theorem lastW_take (C : List (Nat × List UInt8)) (j : Nat) (h : j < C.length) (k : Nat) : lastW (C.take (j + 1)) k = if (C[j]).1 = k then some (C[j]).2 else lastW (C.take j) k := by
  rw [List.take_succ_eq_append_getElem h, lastW_snoc]
theorem Dsk.read_off {S : Dsk} (h : S.off = true) (k : Int) : S.read k = ([], 6) := by unfold Dsk.read; rw [if_pos h]
theorem Dsk.read_arg {S : Dsk} (h : S.off = false) (k : Int) (hk : k < 0 ∨ (S.L.length : Int) ≤ k) : S.read k = ([], 1) := by unfold Dsk.read; rw [if_neg (by simp [h]), if_pos hk]
theorem Dsk.read_ok {S : Dsk} (h : S.off = false) (k : Nat) (hk : k < S.L.length) : S.read k = ((lastW S.C k).getD (S.L[k]), 0) := by
  unfold Dsk.read; rw [if_neg (by simp [h]), if_neg (by omega)]; simp [List.getD, hk]

end Go.Proofs.Pk
