/- What Put makes of the landed list's memory: a new value; a new node, lane by lane. -/
import Derived.Test.YtlmlldcpllagbaaSlF
namespace Go.Proofs.Ytlmlldcpllagbaa
open Go.RowKit Go.Proofs Go.Proofs.Pk
set_option maxRecDepth 10000

theorem set_ne {C : List Value} {i j : Nat} {v u : Value} (h : C[j]? = some u) (hne : i ≠ j) : (C.set i v)[j]? = some u := by
  rw [List.getElem?_set_ne hne]; exact h
theorem set_at {C : List Value} {i : Nat} {v : Value} (h : i < C.length) : (C.set i v)[i]? = some v := by simp [h]
theorem HeadS.set {w : World} {l n : Nat} (h : HeadS w l n) (b i : Nat) (hi : i < 12) (v : Value) : HeadS (w.setCell ⟨b, 3 + i, none⟩ v) l n := by
  obtain ⟨C, h1, h2, h3⟩ := h
  by_cases e : l = b
  · subst e
    exact ⟨_, h1.set (3 + i) v, by rw [List.length_set]; exact h2, set_ne h3 (by omega)⟩
  · exact ⟨C, h1.ne e _ v, h2, h3⟩
theorem NodeS.set {w : World} {c : Nat} {e : Ent} (h : NodeS w c e) (b i : Nat) (v : Value) : NodeS (w.setCell ⟨b, 3 + i, none⟩ v) c e := by
  obtain ⟨C, h1, h2, h3, h4, h5⟩ := h
  by_cases e : c = b
  · subst e
    exact ⟨_, h1.set (3 + i) v, by rw [List.length_set]; exact h2, set_ne h3 (by omega), set_ne h4 (by omega), set_ne h5 (by omega)⟩
  · exact ⟨C, h1.ne e _ v, h2, h3, h4, h5⟩
theorem NodeS.there {w : World} {c : Nat} {e : Ent} (h : NodeS w c e) (i : Nat) (hi : i < 15) : ∃ u, w.cell? ⟨c, i, none⟩ = some u := by
  obtain ⟨C, h1, h2, _⟩ := h
  exact ⟨C[i]'(by omega), h1.cell i _ (List.getElem?_eq_getElem (by omega))⟩
theorem NodeS.free {w : World} {c : Nat} {e : Ent} (h : NodeS w c e) (i : Nat) : w.frozen? ⟨c, i, none⟩ = false := by
  obtain ⟨C, h1, _⟩ := h; exact h1.free i
theorem HeadS.free {w : World} {l n : Nat} (h : HeadS w l n) (i : Nat) : w.frozen? ⟨l, i, none⟩ = false := by
  obtain ⟨C, h1, _⟩ := h; exact h1.free i
theorem cell_oth {w : World} {p q : Addr} {v : Value} (h : p ≠ q) : (w.setCell p v).cell? q = w.cell? q := World.cell?_setCell_other _ _ _ _ h
theorem cell_at {w : World} {p : Addr} {v u : Value} (h : w.cell? p = some u) : (w.setCell p v).cell? p = some v := World.cell?_setCell_same _ _ _ h
theorem addr_ne_block {a b i j : Nat} (h : a ≠ b) : (⟨a, i, none⟩ : Addr) ≠ ⟨b, j, none⟩ := fun e => h (by injection e)
theorem addr_ne_off {a b i j : Nat} (h : i ≠ j) : (⟨a, i, none⟩ : Addr) ≠ ⟨b, j, none⟩ := fun e => h (by injection e)

/-- A new value. -/
theorem SkRaw.value {w : World} {B l : Nat} {E : List Ent} {P : List Nat} (h : SkRaw w B l E P) (k v : Txt) (hh : hasE E k = true) (ht : Int) :
    SkRaw (w.setCell ⟨blkP l P (atE E k + 1), 1, none⟩ (.string ⟨v.toArray⟩)) B l (putE E k v ht) P := by
  have hok := h.ok.put k v ht
  have e : putE E k v ht = setV E (atE E k) v := by unfold putE; rw [if_pos hh]
  rw [e] at hok ⊢
  obtain ⟨ha, _⟩ := has_lt hh
  have hlen : (setV E (atE E k) v).length = E.length := setV_length _ _ _
  refine ⟨hok, by rw [hlen]; exact h.len, ?_, fun i hi => ?_, fun n hn => ?_, fun p hp => h.low p (by omega), fun p q hp hq => h.inj p q (by omega) (by omega)⟩
  · rw [hlen]
    obtain ⟨C, h1, h2⟩ := h.head
    refine ⟨C, h1.ne (fun e => ?_) _ _, h2⟩
    have := h.inj 0 (atE E k + 1) (Nat.zero_le _) (by omega) e
    omega
  · have hi' : i < E.length := by omega
    obtain ⟨C, h1, h2, h3, h4, h5⟩ := h.node i hi'
    have hget : (setV E (atE E k) v)[i] = if i = atE E k then ((E[i]).1, v, (E[i]).2.2) else E[i] := by
      unfold setV at hi ⊢
      have e2 : E[atE E k]? = some E[atE E k] := List.getElem?_eq_getElem ha
      simp only [e2, List.getElem_set]
      by_cases e3 : atE E k = i
      · rw [if_pos e3, if_pos e3.symm]; simp only [e3]
      · rw [if_neg e3, if_neg (fun e4 => e3 e4.symm)]
    rw [hget]
    by_cases e3 : i = atE E k
    · rw [if_pos e3]
      have e4 : blkP l P (i + 1) = blkP l P (atE E k + 1) := by rw [e3]
      rw [← e4]
      exact ⟨_, h1.set 1 _, by rw [List.length_set]; exact h2, set_ne h3 (by omega), set_at (by omega), set_ne h5 (by omega)⟩
    · rw [if_neg e3]
      refine ⟨C, h1.ne (fun e4 => e3 ?_) _ _, h2, h3, h4, h5⟩
      have := h.inj (i + 1) (atE E k + 1) (by omega) (by omega) e4
      omega
  · have hf : (fun b => (w.setCell ⟨blkP l P (atE E k + 1), 1, none⟩ (.string ⟨v.toArray⟩)).cell? ⟨b, 3 + n, none⟩) = fun b => w.cell? ⟨b, 3 + n, none⟩ :=
      funext fun b => cell_oth (addr_ne_off (by omega))
    rw [hf]
    exact (h.lanes n hn).values _ v

/-- A new node, with some of its lanes linked. -/
structure PutJ (w wx : World) (l : Nat) (E : List Ent) (P : List Nat) (a nb : Nat) (x : Ent) (i : Nat) : Prop where
  kept : Kept (blocksS l E P) w wx
  head : HeadS wx l E.length
  node : ∀ j (hj : j < E.length), NodeS wx (blkP l P (j + 1)) E[j]
  new : NodeS wx nb x
  done : ∀ h, h < i → h < 12 → LaneF (fun b => wx.cell? ⟨b, 3 + h, none⟩) l (insL E a x) (insL P a nb) h
  todo : ∀ h, i ≤ h → h < 12 → LaneF (fun b => wx.cell? ⟨b, 3 + h, none⟩) l E P h
theorem PutJ.start {w wz : World} {B l : Nat} {E : List Ent} {P : List Nat} (hS : SkRaw wz B l E P) (hK : Kept (fun _ => False) w wz) (a : Nat) (x : Ent) (CN : List Value) (hl : CN.length = 15) (h0 : CN[0]? = some (.string ⟨x.1.toArray⟩)) (h1 : CN[1]? = some (.string ⟨x.2.1.toArray⟩)) (h2 : CN[2]? = some (.int .i64 (x.2.2 : Int))) :
    PutJ w (wz.alloc (.cells CN.toArray 70)) l E P a wz.heap.size x 0 := by
  have hS2 : SkRaw (wz.alloc (.cells CN.toArray 70)) B l E P := hS.still ((Kept.refl _ wz).alloc _)
  exact ⟨(hK.mono (fun _ f => f.elim)).alloc _, hS2.head, hS2.node, ⟨CN, Holds.new _ _ _, hl, h0, h1, h2⟩, fun n h1 _ => absurd h1 (Nat.not_lt_zero _), fun n _ h2 => hS2.lanes n h2⟩
theorem PutJ.drew {w wx : World} {l : Nat} {E : List Ent} {P : List Nat} {a nb : Nat} {x : Ent} {i : Nat} (J : PutJ w wx l E P a nb x i) : PutJ w wx.drew l E P a nb x i :=
  ⟨J.kept.drewN 1, J.head, J.node, J.new, J.done, J.todo⟩
theorem PutJ.free {w wx : World} {l : Nat} {E : List Ent} {P : List Nat} {a nb : Nat} {x : Ent} {i : Nat} (J : PutJ w wx l E P a nb x i) (p : Nat) (hp : p ≤ E.length) (n : Nat) : wx.frozen? ⟨blkP l P p, n, none⟩ = false := by
  cases p with
  | zero => exact J.head.free n
  | succ p => exact (J.node p hp).free n
theorem PutJ.step {w wx : World} {B l : Nat} {E : List Ent} {P : List Nat} {k : Txt} {nb : Nat} {x : Ent} {i p0 : Nat} (h : SkRaw w B l E P) (J : PutJ w wx l E P (atE E k) nb x i) (hnb : w.heap.size ≤ nb)
    (hi : i < x.2.2) (h12 : i < 12) (hA : AtP E k p0 i) (hb : Bare E p0 (atE E k) i) :
    PutJ w ((wx.setCell ⟨nb, 3 + i, none⟩ (ptrO (linkE E P p0 i))).setCell ⟨blkP l P p0, 3 + i, none⟩ (.pointer (some ⟨nb, 0, none⟩))) l E P (atE E k) nb x (i + 1) := by
  have hle := atE_le k E
  have hp0 := hA.le
  have hne : ∀ p, p ≤ E.length → blkP l P p ≠ nb := fun p hp e => by have := h.lt p hp; omega
  have hoth : ∀ n, n ≠ i → (fun b => ((wx.setCell ⟨nb, 3 + i, none⟩ (ptrO (linkE E P p0 i))).setCell ⟨blkP l P p0, 3 + i, none⟩ (.pointer (some ⟨nb, 0, none⟩))).cell? ⟨b, 3 + n, none⟩) = fun b => wx.cell? ⟨b, 3 + n, none⟩ := fun n hn => funext fun b => by
    rw [cell_oth (addr_ne_off (by omega)), cell_oth (addr_ne_off (by omega))]
  refine ⟨(J.kept.setNew (p := ⟨nb, 3 + i, none⟩) hnb _).setCell (p := ⟨blkP l P p0, 3 + i, none⟩) ⟨p0, by omega, rfl⟩ _, (J.head.set _ i h12 _).set _ i h12 _, fun j hj => ((J.node j hj).set _ i _).set _ i _, (J.new.set _ i _).set _ i _, fun n h1 h2 => ?_, fun n h1 h2 => ?_⟩
  · by_cases e : n = i
    · subst e
      obtain ⟨u, hu⟩ := J.new.there (3 + n) (by omega)
      refine LaneF.link (J.todo n (Nat.le_refl _) h12) h.len hle hp0 hA.tall hb hi hne h.inj ?_ ?_ ?_
      · show World.cell? _ _ = _
        rw [cell_oth (addr_ne_block (hne p0 (by omega))), cell_at hu]
      · show World.cell? _ _ = _
        have hc := J.todo n (Nat.le_refl _) h12 p0 (by omega) hA.tall
        exact cell_at (u := ptrO (linkE E P p0 n)) (by rw [cell_oth (addr_ne_block (fun e => hne p0 (by omega) e.symm))]; exact hc)
      · intro q h3 h4
        show World.cell? _ _ = _
        rw [cell_oth (addr_ne_block (fun e => h4 e.symm)), cell_oth (addr_ne_block (fun e => h3 e.symm))]
    · rw [hoth n e]
      exact J.done n (by omega) h2
  · rw [hoth n (by omega)]
    exact J.todo n (by omega) h2
theorem ins_blk (l : Nat) {E : List Ent} {P : List Nat} {a nb : Nat} {x : Ent} (hl : P.length = E.length) (ha : a ≤ E.length) (p : Nat) (hp : p ≤ (insL E a x).length) :
    (p ≤ a ∧ blkP l (insL P a nb) p = blkP l P p) ∨ (p = a + 1 ∧ blkP l (insL P a nb) p = nb) ∨ (a + 1 < p ∧ p - 1 ≤ E.length ∧ blkP l (insL P a nb) p = blkP l P (p - 1)) := by
  have haP : a ≤ P.length := by omega
  rw [insL_length E x ha] at hp
  rcases Nat.lt_trichotomy p (a + 1) with h | rfl | h
  · exact .inl ⟨by omega, blk_le l haP (by omega)⟩
  · exact .inr (.inl ⟨rfl, blk_at l haP⟩)
  · obtain ⟨q, rfl⟩ : ∃ q, p = q + 1 := ⟨p - 1, by omega⟩
    exact .inr (.inr ⟨h, by omega, blk_gt l haP (by omega)⟩)
theorem PutJ.finish {w wx : World} {B l : Nat} {E : List Ent} {P : List Nat} {k v : Txt} {ht : Int} {nb i : Nat} (h : SkRaw w B l E P) (hh : ¬hasE E k = true) (J : PutJ w wx l E P (atE E k) nb (k, v, clampH ht) i) (hnb : w.heap.size ≤ nb) (hB : B ≤ w.heap.size)
    (hi : clampH ht ≤ i) :
    SkRaw (wx.setCell ⟨l, 15, none⟩ (.int .i64 ((E.length : Int) + 1))) B l (putE E k v ht) (insL P (atE E k) nb) ∧ Grows w (blocksS l E P) (blocksS l (putE E k v ht) (insL P (atE E k) nb)) ∧ Kept (blocksS l E P) w (wx.setCell ⟨l, 15, none⟩ (.int .i64 ((E.length : Int) + 1))) := by
  have hok := h.ok.put k v ht
  rw [putE_ins hh] at hok ⊢
  have hle := atE_le k E
  have hlt : ∀ p, p ≤ E.length → blkP l P p ≠ nb := fun p hp e => by have := h.lt p hp; omega
  refine ⟨⟨hok, by rw [insL_length _ _ (by rw [h.len]; exact hle), insL_length _ _ hle, h.len], ?_, fun j hj => ?_, fun n hn => ?_, fun p hp => ?_, fun p q hp hq he => ?_⟩, ?_, J.kept.setCell (p := ⟨l, 15, none⟩) ⟨0, Nat.zero_le _, rfl⟩ _⟩
  · obtain ⟨C, h1, h2, _⟩ := J.head
    refine ⟨_, h1.set 15 _, by rw [List.length_set]; exact h2, ?_⟩
    rw [set_at (by omega), insL_length _ _ hle]; rfl
  · have hset : ∀ {c : Nat} {e : Ent}, NodeS wx c e → c ≠ l → NodeS (wx.setCell ⟨l, 15, none⟩ (.int .i64 ((E.length : Int) + 1))) c e := fun hN hc => by
      obtain ⟨C, h1, h2⟩ := hN
      exact ⟨C, h1.ne hc _ _, h2⟩
    have hl0 : ∀ p, p ≤ E.length → 0 < p → blkP l P p ≠ l := fun p hp h0 e => by have := h.inj p 0 hp (Nat.zero_le _) e; omega
    have hj' := hj
    rw [insL_length _ _ hle] at hj'
    rcases ins_blk l (x := (k, v, clampH ht)) (nb := nb) h.len hle (j + 1) (by omega) with ⟨h1, h2⟩ | ⟨h1, h2⟩ | ⟨h1, h2, h3⟩
    · rw [h2, insL_get_lt E _ hle (by omega)]
      exact hset (J.node j (by omega)) (hl0 _ (by omega) (by omega))
    · obtain rfl : j = atE E k := by omega
      rw [h2, insL_get_at E _ hle]
      exact hset J.new (fun e => hlt 0 (Nat.zero_le _) e.symm)
    · obtain ⟨m, rfl⟩ : ∃ m, j = m + 1 := ⟨j - 1, by omega⟩
      rw [h3, insL_get_gt E _ hle (by omega)]
      exact hset (J.node m (by omega)) (hl0 _ (by omega) (by omega))
  · have hf : (fun b => (wx.setCell ⟨l, 15, none⟩ (.int .i64 ((E.length : Int) + 1))).cell? ⟨b, 3 + n, none⟩) = fun b => wx.cell? ⟨b, 3 + n, none⟩ := funext fun b => cell_oth (addr_ne_off (by omega))
    rw [hf]
    by_cases hni : n < i
    · exact J.done n hni hn
    · exact LaneF.up (J.todo n (by omega) hn) h.len hle (by show clampH ht ≤ n; omega) (fun _ _ => rfl)
  · rcases ins_blk l (nb := nb) h.len hle p hp with ⟨h1, h2⟩ | ⟨h1, h2⟩ | ⟨h1, h2, h3⟩
    · rw [h2]; exact h.low p (by omega)
    · rw [h2]; omega
    · rw [h3]; exact h.low _ h2
  · rcases ins_blk l (nb := nb) h.len hle p hp with ⟨h1, h2⟩ | ⟨h1, h2⟩ | ⟨h1, h2, h3⟩ <;> rcases ins_blk l (nb := nb) h.len hle q hq with ⟨g1, g2⟩ | ⟨g1, g2⟩ | ⟨g1, g2, g3⟩
    · rw [h2, g2] at he; exact h.inj p q (by omega) (by omega) he
    · rw [h2, g2] at he; exact absurd he (hlt p (by omega))
    · rw [h2, g3] at he; have := h.inj p (q - 1) (by omega) g2 he; omega
    · rw [h2, g2] at he; exact absurd he.symm (hlt q (by omega))
    · omega
    · rw [h2, g3] at he; exact absurd he.symm (hlt _ g2)
    · rw [h3, g2] at he; have := h.inj (p - 1) q h2 (by omega) he; omega
    · rw [h3, g2] at he; exact absurd he (hlt _ h2)
    · rw [h3, g3] at he; have := h.inj (p - 1) (q - 1) h2 g2 he; omega
  · rintro n ⟨p, hp, rfl⟩
    rcases ins_blk l (nb := nb) h.len hle p hp with ⟨h1, h2⟩ | ⟨h1, h2⟩ | ⟨h1, h2, h3⟩
    · exact .inl ⟨p, by omega, h2.symm⟩
    · exact .inr (by rw [h2]; exact hnb)
    · exact .inl ⟨p - 1, h2, h3.symm⟩

end Go.Proofs.Ytlmlldcpllagbaa
