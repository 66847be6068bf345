/- Mathematics of layer 9's links: in each lane the next entry from a place on; what an insertion makes of them. No program. -/
import Derived.Test.YtlmlldcpllagbaaSkM
namespace Go.Proofs.Pk
set_option maxRecDepth 10000

/-- The first entry from place i on whose tower is higher than h. -/
def nxtE : List Ent → Nat → Nat → Option Nat
  | [], _, _ => none
  | e :: E, 0, h => if h < e.2.2 then some 0 else (nxtE E 0 h).map (· + 1)
  | _ :: E, i + 1, h => (nxtE E i h).map (· + 1)
theorem nxt_some : ∀ {E : List Ent} {i h j : Nat}, nxtE E i h = some j → i ≤ j ∧ ∃ hj : j < E.length, h < (E[j]).2.2 ∧ ∀ m, i ≤ m → m < j → ∀ hm : m < E.length, (E[m]).2.2 ≤ h
  | [], i, h, j, e => by simp [nxtE] at e
  | x :: E, 0, h, j, e => by
    rw [nxtE] at e
    split at e
    · rename_i hx
      injection e with e
      subst e
      exact ⟨Nat.le_refl _, by simp, hx, fun m _ hm => by omega⟩
    · rename_i hx
      obtain ⟨j', e', rfl⟩ := Option.map_eq_some_iff.1 e
      obtain ⟨_, hj, h1, h2⟩ := nxt_some e'
      refine ⟨by omega, by simp; omega, by simpa using h1, fun m _ hm hl => ?_⟩
      cases m with
      | zero => simp only [List.getElem_cons_zero]; omega
      | succ m => simpa using h2 m (by omega) (by omega) (by simpa using hl)
  | x :: E, i + 1, h, j, e => by
    rw [nxtE] at e
    obtain ⟨j', e', rfl⟩ := Option.map_eq_some_iff.1 e
    obtain ⟨h0, hj, h1, h2⟩ := nxt_some e'
    refine ⟨by omega, by simp; omega, by simpa using h1, fun m hi hm hl => ?_⟩
    cases m with
    | zero => omega
    | succ m => simpa using h2 m (by omega) (by omega) (by simpa using hl)
theorem nxt_none : ∀ {E : List Ent} {i h : Nat}, nxtE E i h = none → ∀ m, i ≤ m → ∀ hm : m < E.length, (E[m]).2.2 ≤ h
  | [], i, h, _, m, _, hm => by simp at hm
  | x :: E, 0, h, e, m, _, hm => by
    rw [nxtE] at e
    split at e
    · cases e
    · rename_i hx
      cases m with
      | zero => simp only [List.getElem_cons_zero]; omega
      | succ m => simpa using nxt_none (Option.map_eq_none_iff.1 e) m (by omega) (by simpa using hm)
  | x :: E, i + 1, h, e, m, hi, hm => by
    rw [nxtE] at e
    cases m with
    | zero => omega
    | succ m => simpa using nxt_none (Option.map_eq_none_iff.1 e) m (by omega) (by simpa using hm)
theorem nxt_is {E : List Ent} {i h j : Nat} (hi : i ≤ j) (hj : j < E.length) (hh : h < (E[j]).2.2) (hb : ∀ m, i ≤ m → m < j → ∀ hm : m < E.length, (E[m]).2.2 ≤ h) : nxtE E i h = some j := by
  cases e : nxtE E i h with
  | none => have := nxt_none e j hi hj; omega
  | some k =>
    obtain ⟨h1, h2, h3, h4⟩ := nxt_some e
    rcases Nat.lt_trichotomy j k with h5 | h5 | h5
    · have := h4 j hi h5 hj; omega
    · rw [h5]
    · have := hb k h1 h5 h2; omega
theorem nxt_no {E : List Ent} {i h : Nat} (hb : ∀ m, i ≤ m → ∀ hm : m < E.length, (E[m]).2.2 ≤ h) : nxtE E i h = none := by
  cases e : nxtE E i h with
  | none => rfl
  | some k =>
    obtain ⟨h1, h2, h3, h4⟩ := nxt_some e
    have := hb k h1 h2; omega
/-- A place with none of that lane behind it, up to another. -/
def Bare (E : List Ent) (p a h : Nat) : Prop := ∀ m, p ≤ m → m < a → ∀ hm : m < E.length, (E[m]).2.2 ≤ h
theorem Bare.nxt {E : List Ent} {p a h : Nat} (hb : Bare E p a h) (hpa : p ≤ a) : nxtE E p h = nxtE E a h := by
  cases e : nxtE E a h with
  | none => exact nxt_no fun m hm hl => (Nat.lt_or_ge m a).elim (fun h1 => hb m hm h1 hl) (fun h1 => nxt_none e m h1 hl)
  | some j =>
    obtain ⟨h1, h2, h3, h4⟩ := nxt_some e
    exact nxt_is (by omega) h2 h3 fun m hm hl hlen => (Nat.lt_or_ge m a).elim (fun h5 => hb m hm h5 hlen) (fun h5 => h4 m h5 hl hlen)
theorem nxt_heights : ∀ {E F : List Ent} (_ : E.map (fun e => e.2.2) = F.map (fun e => e.2.2)) (i h : Nat), nxtE E i h = nxtE F i h
  | [], [], _, _, _ => rfl
  | [], _ :: _, h, _, _ => by simp at h
  | _ :: _, [], h, _, _ => by simp at h
  | e :: E, f :: F, hm, 0, h => by
    simp only [List.map_cons, List.cons.injEq] at hm
    rw [nxtE, nxtE, hm.1, nxt_heights hm.2]
  | e :: E, f :: F, hm, i + 1, h => by
    simp only [List.map_cons, List.cons.injEq] at hm
    rw [nxtE, nxtE, nxt_heights hm.2]
theorem setV_heights (E : List Ent) (i : Nat) (v : Txt) : (setV E i v).map (fun e => e.2.2) = E.map (fun e => e.2.2) := by
  unfold setV
  cases he : E[i]? with
  | none => rfl
  | some e =>
    obtain ⟨hi, rfl⟩ := List.getElem?_eq_some_iff.1 he
    apply List.ext_getElem
    · simp
    · intro j h1 h2
      simp only [List.getElem_map, List.getElem_set]
      split <;> simp_all

/-- An entry put in at a place. -/
def insL {α : Type} (L : List α) (a : Nat) (x : α) : List α := L.take a ++ x :: L.drop a
theorem insL_length {α : Type} (L : List α) {a : Nat} (x : α) (ha : a ≤ L.length) : (insL L a x).length = L.length + 1 := by
  unfold insL; simp; omega
theorem insL_lt {α : Type} (L : List α) {a : Nat} (x : α) (ha : a ≤ L.length) {i : Nat} (hi : i < a) : (insL L a x)[i]? = L[i]? := by
  unfold insL
  rw [List.getElem?_append_left (by simp; omega), List.getElem?_take]
  simp [hi]
theorem insL_at {α : Type} (L : List α) {a : Nat} (x : α) (ha : a ≤ L.length) : (insL L a x)[a]? = some x := by
  unfold insL
  rw [List.getElem?_append_right (by simp; omega)]
  simp [Nat.min_eq_left ha]
theorem insL_gt {α : Type} (L : List α) {a : Nat} (x : α) (ha : a ≤ L.length) {i : Nat} (hi : a ≤ i) : (insL L a x)[i + 1]? = L[i]? := by
  unfold insL
  rw [List.getElem?_append_right (by simp; omega)]
  simp only [List.length_take, Nat.min_eq_left ha]
  rw [show i + 1 - a = (i - a) + 1 from by omega, List.getElem?_cons_succ, List.getElem?_drop]
  congr 1; omega
theorem putE_ins {E : List Ent} {k : Txt} (h : ¬hasE E k = true) (v : Txt) (ht : Int) : putE E k v ht = insL E (atE E k) (k, v, clampH ht) := by
  unfold putE insL; rw [if_neg h]
theorem insL_get_lt {α : Type} (L : List α) {a : Nat} (x : α) (ha : a ≤ L.length) {i : Nat} (hi : i < a) (h : i < (insL L a x).length) : (insL L a x)[i] = L[i]'(by omega) := by
  have := insL_lt L x ha hi
  rw [List.getElem?_eq_getElem h, List.getElem?_eq_getElem (by omega)] at this
  exact Option.some.inj this
theorem insL_get_at {α : Type} (L : List α) {a : Nat} (x : α) (ha : a ≤ L.length) (h : a < (insL L a x).length) : (insL L a x)[a] = x := by
  have := insL_at L x ha
  rw [List.getElem?_eq_getElem h] at this
  exact Option.some.inj this
theorem insL_get_gt {α : Type} (L : List α) {a : Nat} (x : α) (ha : a ≤ L.length) {i : Nat} (hi : a ≤ i) (h : i + 1 < (insL L a x).length) : (insL L a x)[i + 1] = L[i]'(by rw [insL_length L x ha] at h; omega) := by
  have hl : i < L.length := by rw [insL_length L x ha] at h; omega
  have := insL_gt L x ha hi
  rw [List.getElem?_eq_getElem h, List.getElem?_eq_getElem hl] at this
  exact Option.some.inj this

/-- Behind the new entry all is as it was, a place on. -/
theorem nxt_ins_gt (E : List Ent) {a p h : Nat} (x : Ent) (ha : a ≤ E.length) (hp : a ≤ p) : nxtE (insL E a x) (p + 1) h = (nxtE E p h).map (· + 1) := by
  have hl := insL_length E x ha
  cases e : nxtE E p h with
  | none =>
    refine nxt_no fun m hm hlen => ?_
    obtain ⟨m', rfl⟩ : ∃ m', m = m' + 1 := ⟨m - 1, by omega⟩
    rw [insL_get_gt E x ha (by omega) hlen]
    exact nxt_none e m' (by omega) _
  | some j =>
    obtain ⟨h1, h2, h3, h4⟩ := nxt_some e
    refine nxt_is (j := j + 1) (by omega) (by omega) (by rw [insL_get_gt E x ha (by omega) (by omega)]; exact h3) fun m hm hlt hlen => ?_
    obtain ⟨m', rfl⟩ : ∃ m', m = m' + 1 := ⟨m - 1, by omega⟩
    rw [insL_get_gt E x ha (by omega) hlen]
    exact h4 m' (by omega) (by omega) _
/-- Where something of the lane stands ahead of the new entry, it stays the next. -/
theorem nxt_ins_lt (E : List Ent) {a p h j : Nat} (x : Ent) (ha : a ≤ E.length) (e : nxtE E p h = some j) (hj : j < a) : nxtE (insL E a x) p h = some j := by
  have hl := insL_length E x ha
  obtain ⟨h1, h2, h3, h4⟩ := nxt_some e
  refine nxt_is h1 (by omega) (by rw [insL_get_lt E x ha hj (by omega)]; exact h3) fun m hm hlt hlen => ?_
  rw [insL_get_lt E x ha (by omega) hlen]
  exact h4 m hm hlt _
/-- The new entry is the next one of the places bare up to it. -/
theorem nxt_ins_at (E : List Ent) {a p h : Nat} (x : Ent) (ha : a ≤ E.length) (hp : p ≤ a) (hb : Bare E p a h) (hx : h < x.2.2) : nxtE (insL E a x) p h = some a := by
  have hl := insL_length E x ha
  refine nxt_is hp (by omega) (by rw [insL_get_at E x ha (by omega)]; exact hx) fun m hm hlt hlen => ?_
  rw [insL_get_lt E x ha hlt hlen]
  exact hb m hm hlt _
/-- In the lanes above its tower the new entry changes nothing. -/
theorem nxt_ins_up (E : List Ent) {a p h : Nat} (x : Ent) (ha : a ≤ E.length) (hp : p ≤ a) (hb : Bare E p a h) (hx : x.2.2 ≤ h) : nxtE (insL E a x) p h = (nxtE E p h).map (· + 1) := by
  rw [hb.nxt hp, ← nxt_ins_gt E x ha (Nat.le_refl a)]
  have hl := insL_length E x ha
  refine Bare.nxt (fun m hm hlt hlen => ?_) (by omega)
  rcases Nat.lt_or_ge m a with h1 | h1
  · rw [insL_get_lt E x ha h1 hlen]; exact hb m hm h1 _
  · obtain rfl : m = a := by omega
    rw [insL_get_at E x ha hlen]; exact hx
theorem bare_or (E : List Ent) (p a h : Nat) : Bare E p a h ∨ ∃ j, j < a ∧ nxtE E p h = some j := by
  cases e : nxtE E p h with
  | none => exact .inl fun m hm _ hlen => nxt_none e m hm hlen
  | some j =>
    rcases Nat.lt_or_ge j a with h1 | h1
    · exact .inr ⟨j, h1, rfl⟩
    · exact .inl fun m hm hlt hlen => (nxt_some e).2.2.2 m hm (by omega) hlen

/-- The block of the next node. -/
def linkE (E : List Ent) (P : List Nat) (p h : Nat) : Option Nat := (nxtE E p h).bind (P[·]?)
theorem link_gt (E : List Ent) (P : List Nat) {a p h : Nat} (x : Ent) (b : Nat) (hl : P.length = E.length) (ha : a ≤ E.length) (hp : a ≤ p) : linkE (insL E a x) (insL P a b) (p + 1) h = linkE E P p h := by
  unfold linkE
  rw [nxt_ins_gt E x ha hp]
  cases e : nxtE E p h with
  | none => rfl
  | some j => exact insL_gt P b (by omega) (by have := (nxt_some e).1; omega)
theorem link_lt (E : List Ent) (P : List Nat) {a p h j : Nat} (x : Ent) (b : Nat) (hl : P.length = E.length) (ha : a ≤ E.length) (e : nxtE E p h = some j) (hj : j < a) : linkE (insL E a x) (insL P a b) p h = linkE E P p h := by
  unfold linkE
  rw [nxt_ins_lt E x ha e hj, e]
  exact insL_lt P b (by omega) hj
theorem link_at (E : List Ent) (P : List Nat) {a p h : Nat} (x : Ent) (b : Nat) (hl : P.length = E.length) (ha : a ≤ E.length) (hp : p ≤ a) (hb : Bare E p a h) (hx : h < x.2.2) : linkE (insL E a x) (insL P a b) p h = some b := by
  unfold linkE
  rw [nxt_ins_at E x ha hp hb hx]
  exact insL_at P b (by omega)
theorem link_up (E : List Ent) (P : List Nat) {a p h : Nat} (x : Ent) (b : Nat) (hl : P.length = E.length) (ha : a ≤ E.length) (hp : p ≤ a) (hx : x.2.2 ≤ h) : linkE (insL E a x) (insL P a b) p h = linkE E P p h := by
  rcases bare_or E p a h with hb | ⟨j, hj, e⟩
  · unfold linkE
    rw [nxt_ins_up E x ha hp hb hx, hb.nxt hp]
    cases e : nxtE E a h with
    | none => rfl
    | some j => exact insL_gt P b (by omega) (nxt_some e).1
  · exact link_lt E P x b hl ha e hj
theorem link_bare {E : List Ent} {p a h : Nat} (P : List Nat) (hb : Bare E p a h) (hp : p ≤ a) : linkE E P p h = linkE E P a h := by
  unfold linkE; rw [hb.nxt hp]

/-- The search: at a place p (0 is the head) in a lane, all ahead of it are less than the key. -/
structure AtP (E : List Ent) (k : Txt) (p h : Nat) : Prop where
  le : p ≤ atE E k
  tall : 0 < p → ∀ hp : p - 1 < E.length, h < (E[p - 1]).2.2
theorem AtP.start (E : List Ent) (k : Txt) (h : Nat) : AtP E k 0 h := ⟨Nat.zero_le _, fun h0 => absurd h0 (Nat.lt_irrefl 0)⟩
theorem AtP.right {E : List Ent} {k : Txt} {p h j : Nat} (hE : SkOk E) (_hp : AtP E k p h) (e : nxtE E p h = some j) (hj : j < E.length) (hlt : (E[j]).1 < k) : AtP E k (j + 1) h := by
  refine ⟨?_, fun _ hp2 => (nxt_some e).2.2.1⟩
  rcases Nat.lt_or_ge j (atE E k) with h1 | h1
  · exact h1
  · exfalso
    have hl : atE E k < E.length := by omega
    have h2 := atE_at k E hl
    rcases Nat.lt_or_ge (atE E k) j with h3 | h3
    · exact h2 (List.lt_trans (hE.lt h3 hj) hlt)
    · have h4 : j = atE E k := by omega
      subst h4; exact h2 hlt
theorem AtP.down {E : List Ent} {k : Txt} {p h : Nat} (hp : AtP E k p (h + 1)) : AtP E k p h := ⟨hp.le, fun h0 hl => by have := hp.tall h0 hl; omega⟩
/-- It stands still where the next is not less, or none is there: then the lane is bare up to the key's place. -/
theorem bare_stop {E : List Ent} {k : Txt} {p h : Nat} (hs : ∀ j, nxtE E p h = some j → ∀ hj : j < E.length, ¬(E[j]).1 < k) : Bare E p (atE E k) h := by
  rcases bare_or E p (atE E k) h with hb | ⟨j, hj, e⟩
  · exact hb
  · exact absurd (atE_before k E j hj (nxt_some e).2.1) (hs j e (nxt_some e).2.1)
/-- At the lowest lane the place is the key's own. -/
theorem AtP.found {E : List Ent} {k : Txt} {p : Nat} (hE : SkOk E) (hp : AtP E k p 0) (hb : Bare E p (atE E k) 0) : p = atE E k := by
  rcases Nat.lt_or_ge p (atE E k) with h1 | h1
  · have hl : p < E.length := by have := atE_le k E; omega
    have h2 := hb p (Nat.le_refl _) h1 hl
    have h3 := (hE.tall _ (List.getElem_mem hl)).1
    omega
  · have := hp.le; omega
theorem nxt0 {E : List Ent} (hE : SkOk E) (p : Nat) : nxtE E p 0 = if p < E.length then some p else none := by
  split
  · rename_i h
    exact nxt_is (Nat.le_refl _) h (hE.tall _ (List.getElem_mem h)).1 fun m h1 h2 => by omega
  · exact nxt_no fun m h1 h2 => by omega
/-- A lane, link by link. -/
theorem lane_step {E : List Ent} {p h : Nat} : match nxtE E p h with
    | none => (E.drop p).filter (fun e => decide ((h : Int) < (e.2.2 : Int))) = []
    | some j => ∃ hj : j < E.length, (E.drop p).filter (fun e => decide ((h : Int) < (e.2.2 : Int))) = E[j] :: (E.drop (j + 1)).filter (fun e => decide ((h : Int) < (e.2.2 : Int))) := by
  cases e : nxtE E p h with
  | none =>
    simp only
    rw [List.filter_eq_nil_iff]
    intro x hx
    obtain ⟨i, hi, rfl⟩ := List.getElem_of_mem hx
    rw [List.getElem_drop]
    rw [List.length_drop] at hi
    have := nxt_none e (p + i) (by omega) (by omega)
    simp; omega
  | some j =>
    obtain ⟨h1, h2, h3, h4⟩ := nxt_some e
    refine ⟨h2, ?_⟩
    have hsplit : E.drop p = (E.drop p).take (j - p) ++ E.drop j := by
      have := (List.take_append_drop (j - p) (E.drop p)).symm
      rwa [List.drop_drop, show p + (j - p) = j from by omega] at this
    rw [hsplit, List.filter_append, List.drop_eq_getElem_cons h2, List.filter_cons_of_pos (by simpa using h3)]
    rw [List.filter_eq_nil_iff.2 ?_, List.nil_append]
    intro x hx
    obtain ⟨i, hi, rfl⟩ := List.getElem_of_mem hx
    rw [List.length_take] at hi
    rw [List.getElem_take, List.getElem_drop]
    have := h4 (p + i) (by omega) (by omega) (by omega)
    simp; omega

end Go.Proofs.Pk
