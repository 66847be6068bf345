/- Layer 9's nodes by their blocks, and what an insertion makes of a lane's cells, whatever the nodes' layout is. -/
import Derived.Test.YtlmlldcpllagbaaSkJ
import Derived.Test.YtlmlldcpllagbaaSkN
namespace Go.Proofs.Ytlmlldcpllagbaa
open Go.RowKit Go.Proofs Go.Proofs.Pk
set_option maxRecDepth 10000

def ptrO : Option Nat → Value
  | none => .pointer none
  | some b => .pointer (some ⟨b, 0, none⟩)
/-- The block of a place: the head's or a node's. -/
def blkP (l : Nat) (P : List Nat) : Nat → Nat
  | 0 => l
  | p + 1 => P.getD p 0
/-- A place whose tower reaches lane h (the head's does). -/
def Tall (E : List Ent) (p h : Nat) : Prop := 0 < p → ∀ hp : p - 1 < E.length, h < (E[p - 1]).2.2
/-- In lane h each place's link stands in its block's cell (f: the lane's cell of a block). -/
def LaneF (f : Nat → Option Value) (l : Nat) (E : List Ent) (P : List Nat) (h : Nat) : Prop := ∀ p, p ≤ E.length → Tall E p h → f (blkP l P p) = some (ptrO (linkE E P p h))
theorem blk_le (l : Nat) {P : List Nat} {a b p : Nat} (ha : a ≤ P.length) (hp : p ≤ a) : blkP l (insL P a b) p = blkP l P p := by
  cases p with
  | zero => rfl
  | succ p =>
    simp only [blkP, List.getD]
    rw [insL_lt P b ha (by omega)]
theorem blk_at (l : Nat) {P : List Nat} {a b : Nat} (ha : a ≤ P.length) : blkP l (insL P a b) (a + 1) = b := by
  simp only [blkP, List.getD]
  rw [insL_at P b ha]; rfl
theorem blk_gt (l : Nat) {P : List Nat} {a b p : Nat} (ha : a ≤ P.length) (hp : a + 1 ≤ p) : blkP l (insL P a b) (p + 1) = blkP l P p := by
  obtain ⟨q, rfl⟩ : ∃ q, p = q + 1 := ⟨p - 1, by omega⟩
  simp only [blkP, List.getD]
  rw [insL_gt P b ha (by omega)]
theorem tall_le {E : List Ent} {a p h : Nat} {x : Ent} (ha : a ≤ E.length) (hp : p ≤ a) (ht : Tall (insL E a x) p h) : Tall E p h := fun h0 hl => by
  have := ht h0 (by rw [insL_length E x ha]; omega)
  rwa [insL_get_lt E x ha (by omega)] at this
theorem tall_gt {E : List Ent} {a p h : Nat} {x : Ent} (ha : a ≤ E.length) (hp : a + 1 ≤ p) (ht : Tall (insL E a x) (p + 1) h) : Tall E p h := fun h0 hl => by
  have h1 := ht (by omega) (by rw [insL_length E x ha]; omega)
  obtain ⟨q, rfl⟩ : ∃ q, p = q + 1 := ⟨p - 1, by omega⟩
  simp only [Nat.add_sub_cancel] at h1 ⊢
  rwa [insL_get_gt E x ha (by omega)] at h1
theorem tall_at {E : List Ent} {a h : Nat} {x : Ent} (ha : a ≤ E.length) (ht : Tall (insL E a x) (a + 1) h) : h < x.2.2 := by
  have h1 := ht (by omega) (by rw [insL_length E x ha]; omega)
  simp only [Nat.add_sub_cancel] at h1
  rwa [insL_get_at E x ha] at h1
/-- A lane that the new tower reaches: the new node's link is what the last place ahead of it had, and that place's link is the new node. -/
theorem LaneF.link {f f' : Nat → Option Value} {l : Nat} {E : List Ent} {P : List Nat} {a p0 b h : Nat} {x : Ent} (hf : LaneF f l E P h) (hl : P.length = E.length) (ha : a ≤ E.length) (hp0 : p0 ≤ a) (ht0 : Tall E p0 h) (hb : Bare E p0 a h) (hx : h < x.2.2)
    (hne : ∀ p, p ≤ E.length → blkP l P p ≠ b) (hinj : ∀ p q, p ≤ E.length → q ≤ E.length → blkP l P p = blkP l P q → p = q)
    (h1 : f' b = some (ptrO (linkE E P p0 h))) (h2 : f' (blkP l P p0) = some (ptrO (some b))) (h3 : ∀ q, q ≠ b → q ≠ blkP l P p0 → f' q = f q) : LaneF f' l (insL E a x) (insL P a b) h := by
  have haP : a ≤ P.length := by omega
  intro p hp ht
  rw [insL_length E x ha] at hp
  rcases Nat.lt_trichotomy p (a + 1) with hpa | rfl | hpa
  · rw [blk_le l haP (by omega)]
    have ht' := tall_le ha (by omega : p ≤ a) ht
    by_cases he : p = p0
    · subst he
      rw [h2, link_at E P x b hl ha hp0 hb hx]
    · rw [h3 _ (hne p (by omega)) (fun e => he (hinj p p0 (by omega) (by omega) e)), hf p (by omega) ht']
      congr 2
      rcases bare_or E p a h with hbp | ⟨j, hj, e⟩
      · exfalso
        rcases Nat.lt_or_ge p p0 with h5 | h5
        · have h6 := ht0 (by omega) (by omega)
          have := hbp (p0 - 1) (by omega) (by omega) (by omega)
          omega
        · have h6 := ht' (by omega) (by omega)
          have := hb (p - 1) (by omega) (by omega) (by omega)
          omega
      · exact (link_lt E P x b hl ha e hj).symm
  · rw [blk_at l haP, h1, link_gt E P x b hl ha (Nat.le_refl a), link_bare P hb hp0]
  · obtain ⟨q, rfl⟩ : ∃ q, p = q + 1 := ⟨p - 1, by omega⟩
    rw [blk_gt l haP (by omega), link_gt E P x b hl ha (by omega)]
    have ht' := tall_gt ha (by omega : a + 1 ≤ q) ht
    rw [h3 _ (hne q (by omega)) (fun e => by have := hinj q p0 (by omega) (by omega) e; omega)]
    exact hf q (by omega) ht'
/-- A lane above the new tower stays as it is. -/
theorem LaneF.up {f f' : Nat → Option Value} {l : Nat} {E : List Ent} {P : List Nat} {a b h : Nat} {x : Ent} (hf : LaneF f l E P h) (hl : P.length = E.length) (ha : a ≤ E.length) (hx : x.2.2 ≤ h) (h3 : ∀ p, p ≤ E.length → f' (blkP l P p) = f (blkP l P p)) : LaneF f' l (insL E a x) (insL P a b) h := by
  have haP : a ≤ P.length := by omega
  intro p hp ht
  rw [insL_length E x ha] at hp
  rcases Nat.lt_trichotomy p (a + 1) with hpa | rfl | hpa
  · rw [blk_le l haP (by omega), h3 p (by omega), link_up E P x b hl ha (by omega) hx]
    exact hf p (by omega) (tall_le ha (by omega) ht)
  · have := tall_at ha ht; omega
  · obtain ⟨q, rfl⟩ : ∃ q, p = q + 1 := ⟨p - 1, by omega⟩
    rw [blk_gt l haP (by omega), h3 q (by omega), link_gt E P x b hl ha (by omega)]
    exact hf q (by omega) (tall_gt ha (by omega) ht)
/-- New values change no link. -/
theorem LaneF.values {f : Nat → Option Value} {l : Nat} {E : List Ent} {P : List Nat} {h : Nat} (hf : LaneF f l E P h) (i : Nat) (v : Txt) : LaneF f l (setV E i v) P h := by
  intro p hp ht
  rw [setV_length] at hp
  have hh := setV_heights E i v
  have e : linkE (setV E i v) P p h = linkE E P p h := by unfold linkE; rw [nxt_heights hh]
  rw [e]
  refine hf p hp fun h0 hl => ?_
  have h1 := ht h0 (by rw [setV_length]; exact hl)
  have h2 : (setV E i v).length = E.length := setV_length E i v
  have h3 := congrArg (fun L => L[p - 1]?) hh
  simp only [List.getElem?_map] at h3
  rw [List.getElem?_eq_getElem (by omega), List.getElem?_eq_getElem hl] at h3
  simp only [Option.map_some, Option.some.injEq] at h3
  omega
theorem LaneF.nil {f : Nat → Option Value} {l h : Nat} (h0 : f l = some (.pointer none)) : LaneF f l [] [] h := by
  intro p hp _
  obtain rfl : p = 0 := by simpa using hp
  exact h0

end Go.Proofs.Ytlmlldcpllagbaa
