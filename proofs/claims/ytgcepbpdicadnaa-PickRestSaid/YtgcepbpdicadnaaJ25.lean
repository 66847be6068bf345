/- CuM. -/
import Derived.Test.YtgcepbpdicadnaaJ08
import Derived.Test.YtgcepbpdicadnaaJ07
import Derived.Test.YtgcepbpdicadnaaJ10
import Derived.Deep.MidRow

/- Mathematics of layer 16's landed program: a list cut piece by piece; the pieces' cells. No condition. -/
namespace Go.Proofs.Ytgcepbpdicadnaa
open Go.RowKit Go.Proofs Go.Proofs.Pk
set_option maxRecDepth 10000

/-- Would a piece end behind entry i of a list, if its first entry stands at 0? -/
def endAt (k : Nat) (l : List MEnt) (i : Nat) : Prop := ∃ h : i < l.length, endsB l[i] (l.drop (i + 1)) = true ∧ (k ≤ i + 1 ∨ l.drop (i + 1) = [])
theorem cutS_firstG (k : Nat) : ∀ (m : Nat) (l cur : List MEnt) (hm : m < l.length), (∀ i (h : i < l.length), i < m → ¬(endsB l[i] (l.drop (i + 1)) = true ∧ (k ≤ cur.length + (i + 1) ∨ l.drop (i + 1) = []))) →
    (endsB l[m] (l.drop (m + 1)) = true ∧ (k ≤ cur.length + (m + 1) ∨ l.drop (m + 1) = [])) → cutS k l cur = (cur ++ l.take (m + 1)) :: cutS k (l.drop (m + 1)) []
  | _, [], _, hm, _, _ => by simp at hm
  | 0, e :: r, cur, _, _, hy => by
    rw [cutS]
    have h : endsB e r = true ∧ (k ≤ (cur ++ [e]).length ∨ r = []) := by
      simpa using hy
    rw [if_pos h]
    simp
  | m + 1, e :: r, cur, hm, hn, hy => by
    rw [cutS]
    have h : ¬(endsB e r = true ∧ (k ≤ (cur ++ [e]).length ∨ r = [])) := by
      have := hn 0 (by simp) (by omega)
      simpa using this
    rw [if_neg h]
    have hm' : m < r.length := by simpa using hm
    have ih := cutS_firstG k m r (cur ++ [e]) hm' (fun i hi him => by
      have := hn (i + 1) (by simpa using hi) (by omega)
      simp only [List.getElem_cons_succ, List.drop_succ_cons] at this
      rw [List.length_append, List.length_singleton]
      rwa [show cur.length + 1 + (i + 1) = cur.length + (i + 1 + 1) from by omega]) (by
      simp only [List.getElem_cons_succ, List.drop_succ_cons] at hy
      rw [List.length_append, List.length_singleton]
      rwa [show cur.length + 1 + (m + 1) = cur.length + (m + 1 + 1) from by omega])
    rw [ih]
    simp
theorem cutS_first {k m : Nat} {l : List MEnt} (hn : ∀ i, i < m → ¬endAt k l i) (hy : endAt k l m) : cutS k l [] = l.take (m + 1) :: cutS k (l.drop (m + 1)) [] := by
  obtain ⟨hm, hy⟩ := hy
  have := cutS_firstG k m l [] hm (fun i hi him h => hn i him ⟨hi, by simpa using h⟩) (by simpa using hy)
  simpa using this
theorem not_end_early {k j : Nat} {l : List MEnt} (h1 : j ≤ k) (h2 : j ≤ l.length) : ∀ i, i + 1 < j → ¬endAt k l i := by
  rintro i hi ⟨h, _, h3⟩
  rcases h3 with h3 | h3
  · omega
  · have := congrArg List.length h3
    rw [List.length_drop] at this
    simp at this
    omega
theorem not_end_same {k j : Nat} {l : List MEnt} (h1 : 1 ≤ j) (hj : j < l.length) (he : l[j].1 = (l[j - 1]'(by omega)).1) : ¬endAt k l (j - 1) := by
  rintro ⟨h, h2, _⟩
  have hd : l.drop (j - 1 + 1) = l[j] :: l.drop (j + 1) := by
    rw [show j - 1 + 1 = j from by omega]; exact List.drop_eq_getElem_cons hj
  rw [hd] at h2
  have h4 : (l[j].1 != (l[j - 1]'(by omega)).1) = true := h2
  rw [he] at h4
  simp at h4
theorem end_all {k : Nat} {l : List MEnt} (h : 0 < l.length) : endAt k l (l.length - 1) := by
  refine ⟨by omega, ?_⟩
  have hd : l.drop (l.length - 1 + 1) = [] := List.drop_eq_nil_of_le (by omega)
  rw [hd]
  exact ⟨rfl, .inr rfl⟩
theorem end_here {k j : Nat} {l : List MEnt} (h1 : 1 ≤ j) (hj : j < l.length) (hk : k ≤ j) (hne : ¬l[j].1 = (l[j - 1]'(by omega)).1) : endAt k l (j - 1) := by
  refine ⟨by omega, ?_⟩
  have hd : l.drop (j - 1 + 1) = l[j] :: l.drop (j + 1) := by
    rw [show j - 1 + 1 = j from by omega]; exact List.drop_eq_getElem_cons hj
  rw [hd]
  unfold endsB
  exact ⟨by simpa using hne, .inl (by omega)⟩

/-- The cells of a list of pieces that lie in one row of block gc, from entry o on. -/
def pcsC (gc : Nat) : Nat → List (List MEnt) → List Value
  | _, [] => []
  | o, p :: r => .slice (some ⟨gc, o * 4, none⟩) p.length p.length :: pcsC gc (o + p.length) r
theorem pcsC_snoc (gc : Nat) (x : List MEnt) : ∀ (P : List (List MEnt)) (o : Nat), pcsC gc o (P ++ [x]) = pcsC gc o P ++ [.slice (some ⟨gc, (o + P.flatten.length) * 4, none⟩) x.length x.length]
  | [], o => by simp [pcsC]
  | p :: r, o => by
    rw [List.cons_append, pcsC, pcsC_snoc gc x r, pcsC, List.flatten_cons, List.length_append]
    rw [show o + p.length + r.flatten.length = o + (p.length + r.flatten.length) from by omega]
    rfl
theorem pcsC_length (gc : Nat) : ∀ (P : List (List MEnt)) (o : Nat), (pcsC gc o P).length = P.length
  | [], _ => rfl
  | p :: r, o => by rw [pcsC, List.length_cons, pcsC_length gc r, List.length_cons]
theorem pcsC_at (gc : Nat) : ∀ (P : List (List MEnt)) (o i : Nat) (h : i < P.length), (pcsC gc o P)[i]? = some (.slice (some ⟨gc, (o + (P.take i).flatten.length) * 4, none⟩) P[i].length P[i].length)
  | [], _, _, h => by simp at h
  | p :: r, o, 0, _ => by simp [pcsC]
  | p :: r, o, i + 1, h => by
    have := pcsC_at gc r (o + p.length) i (by simpa using h)
    rw [pcsC, List.getElem?_cons_succ, this, List.take_succ_cons, List.flatten_cons, List.length_append]
    rw [show o + p.length + (r.take i).flatten.length = o + (p.length + (r.take i).flatten.length) from by omega]
    rfl
theorem offs_le {P : List (List MEnt)} {i k : Nat} (hik : i < k) (hk : k < P.length) : (P.take i).flatten.length + (P[i]'(by omega)).length ≤ (P.take k).flatten.length := by
  have e : P.take k = P.take (i + 1) ++ (P.take k).drop (i + 1) := by
    have := (List.take_append_drop (i + 1) (P.take k)).symm
    rwa [List.take_take, Nat.min_eq_left (by omega)] at this
  have h2 : (P.take (i + 1)).flatten.length = (P.take i).flatten.length + (P[i]'(by omega)).length := by
    rw [List.take_succ_eq_append_getElem (by omega), List.flatten_append, List.length_append]; simp
  rw [e, List.flatten_append, List.length_append, h2]
  omega

/-- What Cut has at hand: its copy of the list in a block of its own, the pieces' row behind it. -/
structure CtS (w W : World) (gc : Nat) (l : List MEnt) (ap : Option Addr) (cp : Nat) (P : List (List MEnt)) : Prop where
  kept : Kept (fun _ => False) w W
  base : w.heap.size ≤ gc
  lt : gc < W.heap.size
  row : W.rangeAt gc 0 (cellsM l)
  free : ∀ o, W.frozen? ⟨gc, o, none⟩ = false
  own : W.ownsRow (gc + 1) 34 1 (.slice ap P.length cp) P.length (pcsC gc 0 P)
  fit : ∀ e ∈ l, FitN e.2.1
theorem CtS.quiet {w W W' : World} {gc : Nat} {l : List MEnt} {ap : Option Addr} {cp : Nat} {P : List (List MEnt)} (h : CtS w W gc l ap cp P) (hk : Kept (fun _ => False) W W') : CtS w W' gc l ap cp P where
  kept := h.kept.trans hk (fun _ f => f.elim)
  base := h.base
  lt := Nat.lt_of_lt_of_le h.lt hk.size
  row j v hv := (hk.cell (p := ⟨gc, 0 + j, none⟩) h.lt (fun f => f)).trans (h.row j v hv)
  free o := (hk.frozen (p := ⟨gc, o, none⟩) h.lt (fun f => f)).trans (h.free o)
  own := owns_of_block h.own (fun g hg => hk.block g (h.own.lt g hg).2 (fun f => f))
  fit := h.fit
theorem CtS.grown {w W Wy W' : World} {gc : Nat} {l : List MEnt} {ap : Option Addr} {cp : Nat} {P : List (List MEnt)} {v : Value} {x : List MEnt} (h : CtS w W gc l ap cp P) (hy : Kept (fun _ => False) W Wy) (hg : Wy.grownBy W' (Value.slice ap P.length cp).ownBlock)
    (ho : W'.ownsRow (gc + 1) 34 1 v (P.length + 1) (pcsC gc 0 P ++ [.slice (some ⟨gc, P.flatten.length * 4, none⟩) x.length x.length])) : ∃ ap2 cp2, v = .slice ap2 (P.length + 1) cp2 ∧ CtS w W' gc l ap2 cp2 (P ++ [x]) := by
  obtain ⟨ap2, cp2, rfl⟩ : ∃ a c, v = .slice a (P.length + 1) c := by
    rcases ho.2 with ⟨_, h⟩ | ⟨g, cap, cur, h, _⟩
    · omega
    · exact ⟨_, _, h⟩
  have hk : Kept (fun q => (Value.slice ap P.length cp).ownBlock = some q) Wy W' := kept_grown (Kept.refl _ Wy) hg (fun b hb => .inl hb)
  have hgy := Nat.lt_of_lt_of_le h.lt hy.size
  have hno : ¬(Value.slice ap P.length cp).ownBlock = some gc := fun e => by have := (h.own.lt gc e).1; omega
  have h1 := h.quiet hy
  refine ⟨ap2, cp2, rfl, kept_grown h1.kept hg (fun b hb => .inr ?_), h.base, Nat.lt_of_lt_of_le hgy hk.size, fun j v hv => (hk.cell (p := ⟨gc, 0 + j, none⟩) hgy hno).trans (h1.row j v hv), fun o => (hk.frozen (p := ⟨gc, o, none⟩) hgy hno).trans (h1.free o), ?_, h.fit⟩
  · have := (h.own.lt b hb).1; have := h.base; omega
  · rw [pcsC_snoc, List.length_append, Nat.zero_add]; exact ho
theorem CtS.key {w W : World} {gc : Nat} {l : List MEnt} {ap : Option Addr} {cp : Nat} {P : List (List MEnt)} (h : CtS w W gc l ap cp P) (i : Nat) (hi : i < l.length) : W.cell? ⟨gc, i * 4, none⟩ = some (.string ⟨l[i].1.toArray⟩) := by
  have := h.row (i * 4 + 0) _ (cellsM_get l i hi 0 _ rfl)
  rwa [Nat.zero_add] at this
/-- At the end: the pieces are all of the list. -/
theorem CtS.pcs {w W : World} {gc : Nat} {l : List MEnt} {ap : Option Addr} {cp : Nat} {P : List (List MEnt)} (h : CtS w W gc l ap cp P) (hf : P.flatten = l) : PcsW w W ap P.length P := by
  refine ⟨rfl, ?_⟩
  rcases h.own.2 with ⟨_, hn⟩ | ⟨g, cap, cur, hv, hb, hg, _⟩
  · exact .inl (List.length_eq_zero_iff.1 hn)
  · cases hv
    have hgl : g < W.heap.size := (Array.getElem?_eq_some_iff.1 hg).1
    refine .inr ⟨g, 0, fun i => (gc, (P.take i).flatten.length * 4), rfl, hgl, by have := h.base; omega, fun i hi => ⟨⟨P[i].length, ?_, Nat.le_refl _⟩, h.base, h.lt, by show gc ≠ g; omega, h.free, fun j v hv => ?_, fun e he => ?_⟩, fun i k hi hk hne => .inr ?_⟩
    · rw [Nat.zero_add, h.own.cellAt i (by omega), pcsC_at gc P 0 i hi, Nat.zero_add]
    · have e1 : l = (P.take i).flatten ++ (P[i] ++ (P.drop (i + 1)).flatten) := by
        rw [← hf]
        have e2 : P = P.take i ++ (P[i] :: P.drop (i + 1)) := by rw [← List.drop_eq_getElem_cons hi, List.take_append_drop]
        have e3 : P.flatten = (P.take i ++ (P[i] :: P.drop (i + 1))).flatten := by rw [← e2]
        rw [e3, List.flatten_append, List.flatten_cons]
      have e4 : (cellsM l)[(P.take i).flatten.length * 4 + j]? = some v := by
        rw [e1, cellsM_append, List.getElem?_append_right (by rw [cellsM_length]; omega), cellsM_length, show (P.take i).flatten.length * 4 + j - (P.take i).flatten.length * 4 = j from by omega, cellsM_append, List.getElem?_append_left (List.getElem?_eq_some_iff.1 hv).1]
        exact hv
      have := h.row _ _ e4
      rwa [Nat.zero_add] at this
    · refine h.fit e ?_
      rw [← hf]
      exact List.mem_flatten.2 ⟨P[i], List.getElem_mem hi, he⟩
    · rcases Nat.lt_or_gt_of_ne hne with hlt | hlt
      · have := offs_le hlt hk
        left; show (P.take i).flatten.length * 4 + P[i].length * 4 ≤ (P.take k).flatten.length * 4; omega
      · have := offs_le hlt hi
        right; show (P.take k).flatten.length * 4 + P[k].length * 4 ≤ (P.take i).flatten.length * 4; omega

end Go.Proofs.Ytgcepbpdicadnaa
