/- VnL, PkM, PkC. -/
import Derived.Test.YtgcepbpdicadnaaJ04
import Derived.Test.YtgcepbpdicadnaaJ01
import Derived.Test.YtgcepbpdicadnaaJ05

/- Versions and edits in memory, kept (layer 14). -/
namespace Go.Proofs.Ytgcepbpdicadnaa
open Go.RowKit Go.Proofs Go.Proofs.Pk
set_option maxRecDepth 10000

theorem metas_kept {w w' : World} {ad : Option Addr} {len : Nat} {l : List MetaV} (h : MetasW w ad len l) (hk : Kept (fun _ => False) w w') : MetasW w' ad len l := by
  refine ⟨h.1, h.2.imp_right ?_⟩
  rintro ⟨b, off, h1, h2, h3⟩
  exact ⟨b, off, h1, Nat.lt_of_lt_of_le h2 hk.size, fun i hi => ⟨fun j v hv => (hk.cell (p := ⟨b, off + i * 5 + j, none⟩) h2 (fun f => f)).trans ((h3 i hi).row j v hv), (h3 i hi).fit⟩⟩
theorem ints_keptV {w w' : World} {ad : Option Addr} {len : Nat} {l : List Int} (h : Ints w ad len l) (hk : Kept (fun _ => False) w w') : Ints w' ad len l := h.kept hk (.inr fun _ _ _ f => f)
theorem VerW.kept {w w' : World} {ad : Option Addr} {len cap : Nat} {ad2 : Option Addr} {len2 cap2 : Nat} {v : VerV} (h : VerW w ad len cap ad2 len2 cap2 v) (hk : Kept (fun _ => False) w w') : VerW w' ad len cap ad2 len2 cap2 v :=
  ⟨metas_kept h.1 hk, h.2.1, ints_keptV h.2.2.1 hk, h.2.2.2⟩
theorem EdW.kept {w w' : World} {ad : Option Addr} {len cap : Nat} {ad2 : Option Addr} {len2 cap2 : Nat} {ad3 : Option Addr} {len3 cap3 : Nat} {ad4 : Option Addr} {len4 cap4 : Nat} {e : EdV} (h : EdW w ad len cap ad2 len2 cap2 ad3 len3 cap3 ad4 len4 cap4 e) (hk : Kept (fun _ => False) w w') :
    EdW w' ad len cap ad2 len2 cap2 ad3 len3 cap3 ad4 len4 cap4 e :=
  ⟨metas_kept h.1 hk, h.2.1, ints_keptV h.2.2.1 hk, h.2.2.2.1, ints_keptV h.2.2.2.2.1 hk, h.2.2.2.2.2.1, ints_keptV h.2.2.2.2.2.2.1 hk, h.2.2.2.2.2.2.2⟩
theorem MetasW.at {w : World} {ad : Option Addr} {len : Nat} {T : List MetaV} (h : MetasW w ad len T) (i : Nat) (hi : i < T.length) : ∃ b off, ad = some ⟨b, off, none⟩ ∧ b < w.heap.size ∧ w.cell? ⟨b, off + i * 5, none⟩ = some (.int .i64 T[i].1) ∧
    w.cell? ⟨b, off + i * 5 + 1, none⟩ = some (.int .i64 T[i].2.1) ∧ w.cell? ⟨b, off + i * 5 + 2, none⟩ = some (.string ⟨T[i].2.2.1.toArray⟩) ∧ w.cell? ⟨b, off + i * 5 + 3, none⟩ = some (.string ⟨T[i].2.2.2.1.toArray⟩) ∧ w.cell? ⟨b, off + i * 5 + 4, none⟩ = some (.int .i64 T[i].2.2.2.2) ∧ FitMV T[i] := by
  rcases h.2 with h0 | ⟨b, off, h1, h2, h3⟩
  · rw [h0] at hi; simp at hi
  · have hr := (h3 i hi).row
    exact ⟨b, off, h1, h2, hr 0 _ rfl, hr 1 _ rfl, hr 2 _ rfl, hr 3 _ rfl, hr 4 _ rfl, (h3 i hi).fit⟩
theorem ints_at {w : World} {ad : Option Addr} {len : Nat} {T : List Int} (h : Ints w ad len T) (i : Nat) (hi : i < T.length) : ∃ b off, ad = some ⟨b, off, none⟩ ∧ b < w.heap.size ∧ w.cell? ⟨b, off + i, none⟩ = some (.int .i64 T[i]) := by
  rcases h.2 with h0 | ⟨b, off, h1, h2, h3⟩
  · rw [h0] at hi; simp at hi
  · exact ⟨b, off, h1, h2, h3 i hi⟩
/-- No slices. -/
theorem metas_none (w : World) : MetasW w none 0 [] ∧ BndM none 0 0 := ⟨⟨rfl, .inl rfl⟩, .inl rfl, Nat.le_refl _, by simp, fun _ => ⟨rfl, rfl⟩⟩
theorem ints_none (w : World) : Ints w none 0 [] ∧ BndI none 0 0 [] := ⟨⟨rfl, .inl rfl⟩, fun _ h => (by cases h), Nat.le_refl _, by simp, fun _ => ⟨rfl, rfl⟩⟩
theorem ver_zero (w : World) : VerW w none 0 0 none 0 0 zeroV := ⟨(metas_none w).1, (metas_none w).2, (ints_none w).1, (ints_none w).2, by unfold FitV zeroV; simp only; omega⟩

end Go.Proofs.Ytgcepbpdicadnaa

/- Mathematics of layer 16: which tables are picked. No program. -/
namespace Go.Proofs.Pk
set_option maxRecDepth 10000

def limM (n : Int) : Int := if n = 1 then 4000 else if n = 2 then 16000 else 0
def sizeT (l : List MetaV) : Int := (l.map fun m => m.2.2.2.2).sum
/-- Has a table a key between the least and the greatest one of some? -/
def meetsM (m : MetaV) (l : List MetaV) : Bool := (l.any fun x => decide (¬m.2.2.2.1 < x.2.2.1)) && l.any fun y => decide (¬y.2.2.2.1 < m.2.2.1)
def chooseM (v : VerV) : Option (Int × List MetaV) :=
  if 3 ≤ (levelV v 0).length then some (0, levelV v 0) else if 4000 < sizeT (levelV v 1) then some (1, (levelV v 1).take 1) else if 16000 < sizeT (levelV v 2) then some (2, (levelV v 2).take 1) else none
/-- A job: the level, the tables that go down, those under, and whether all lies at the bottom. -/
abbrev JobV := Int × List Int × List Int × Bool
def underM (v : VerV) (n : Int) (ins : List MetaV) : List MetaV := (levelV v (n + 1)).filter fun m => meetsM m ins
def jobM (v : VerV) (n : Int) (ins : List MetaV) : JobV := (n, ins.map (·.1), (underM v n ins).map (·.1), !(v.1.any fun m => decide (n + 2 ≤ m.2.1) && meetsM m (ins ++ underM v n ins)))
def pickM (v : VerV) : Option JobV := if rightV v = true then (match chooseM v with | none => none | some (n, ins) => some (jobM v n ins)) else none
def zeroJ : JobV := (0, [], [], false)
theorem pick_none {v : VerV} (h : pickM v = none) (hr : rightV v = true) : (levelV v 0).length < 3 ∧ sizeT (levelV v 1) ≤ 4000 ∧ sizeT (levelV v 2) ≤ 16000 := by
  unfold pickM at h
  rw [if_pos hr] at h
  have hc : chooseM v = none := by
    cases hc : chooseM v with
    | none => rfl
    | some p => rw [hc] at h; cases h
  unfold chooseM at hc
  by_cases h1 : 3 ≤ (levelV v 0).length
  · rw [if_pos h1] at hc; cases hc
  · rw [if_neg h1] at hc
    by_cases h2 : 4000 < sizeT (levelV v 1)
    · rw [if_pos h2] at hc; cases hc
    · rw [if_neg h2] at hc
      by_cases h3 : 16000 < sizeT (levelV v 2)
      · rw [if_pos h3] at hc; cases hc
      · omega
theorem pick_right {v : VerV} {j : JobV} (h : pickM v = some j) : rightV v = true := by
  unfold pickM at h
  by_cases hr : rightV v = true
  · exact hr
  · rw [if_neg hr] at h; cases h
theorem sizeT_take {l : List MetaV} {i : Nat} (hi : i < l.length) : sizeT (l.take (i + 1)) = sizeT (l.take i) + l[i].2.2.2.2 := by
  unfold sizeT
  rw [List.take_succ_eq_append_getElem hi, List.map_append, List.sum_append]
  simp
theorem sizeT_le {l : List MetaV} (h : ∀ m ∈ l, metaOk m = true) : ∀ i, 0 ≤ sizeT (l.take i) ∧ sizeT (l.take i) ≤ 1048576 * (i : Int)
  | 0 => by simp [sizeT]
  | i + 1 => by
    have ih := sizeT_le h i
    by_cases hi : i < l.length
    · have := meta_of (h _ (List.getElem_mem hi))
      rw [sizeT_take hi]; omega
    · rw [List.take_of_length_le (by omega)]
      rw [List.take_of_length_le (by omega)] at ih
      omega
end Go.Proofs.Pk

/- Mathematics of layer 16: a list cut into pieces. No program. -/
namespace Go.Proofs.Pk
set_option maxRecDepth 10000

/-- Does a piece end at this entry, if so many stand in it: what stands behind? -/
def endsB (e : MEnt) : List MEnt → Bool
  | [] => true
  | y :: _ => y.1 != e.1
def cutS (k : Nat) : List MEnt → List MEnt → List (List MEnt)
  | [], _ => []
  | e :: r, cur => if endsB e r = true ∧ (k ≤ (cur ++ [e]).length ∨ r = []) then (cur ++ [e]) :: cutS k r [] else cutS k r (cur ++ [e])
def cutP (k : Nat) (l : List MEnt) : List (List MEnt) := cutS k l []
theorem cutS_flat (k : Nat) : ∀ (l cur : List MEnt), l ≠ [] → (cutS k l cur).flatten = cur ++ l
  | [], _, h => absurd rfl h
  | e :: r, cur, _ => by
    unfold cutS
    by_cases h : endsB e r = true ∧ (k ≤ (cur ++ [e]).length ∨ r = [])
    · rw [if_pos h, List.flatten_cons]
      by_cases hr : r = []
      · subst hr; simp [cutS]
      · rw [cutS_flat k r [] hr]; simp
    · rw [if_neg h]
      have hr : r ≠ [] := by rintro rfl; exact h ⟨rfl, .inr rfl⟩
      rw [cutS_flat k r _ hr]; simp
theorem cut_flat (k : Nat) (l : List MEnt) : (cutP k l).flatten = l := by
  unfold cutP
  cases l with
  | nil => rfl
  | cons e r => rw [cutS_flat k (e :: r) [] (by simp)]; rfl
theorem cutS_ne (k : Nat) : ∀ (l cur : List MEnt), ∀ p ∈ cutS k l cur, p ≠ []
  | [], _, p, h => by cases h
  | e :: r, cur, p, h => by
    unfold cutS at h
    by_cases hc : endsB e r = true ∧ (k ≤ (cur ++ [e]).length ∨ r = [])
    · rw [if_pos hc] at h
      rcases List.mem_cons.1 h with rfl | h
      · simp
      · exact cutS_ne k r [] p h
    · rw [if_neg hc] at h; exact cutS_ne k r _ p h
theorem cut_ne {k : Nat} {l p : List MEnt} (h : p ∈ cutP k l) : p ≠ [] := cutS_ne k l [] p h
theorem cutS_nil {k : Nat} : ∀ {l : List MEnt} (cur : List MEnt), l ≠ [] → cutS k l cur ≠ []
  | [], _, h => absurd rfl h
  | e :: r, cur, _ => by
    unfold cutS
    by_cases hc : endsB e r = true ∧ (k ≤ (cur ++ [e]).length ∨ r = [])
    · rw [if_pos hc]; simp
    · rw [if_neg hc]
      have hr : r ≠ [] := by rintro rfl; exact hc ⟨rfl, .inr rfl⟩
      exact cutS_nil _ hr
/-- The first key of what is cut, with nothing begun. -/
theorem cutS_head {k : Nat} : ∀ {l : List MEnt} {cur : List MEnt} {p : List MEnt} {s : List (List MEnt)}, cutS k l cur = p :: s → ∃ t, p = cur ++ t ∧ t ≠ [] ∧ t.head? = l.head?
  | [], _, _, _, h => by cases h
  | e :: r, cur, p, s, h => by
    unfold cutS at h
    by_cases hc : endsB e r = true ∧ (k ≤ (cur ++ [e]).length ∨ r = [])
    · rw [if_pos hc] at h
      cases h
      exact ⟨[e], rfl, by simp, rfl⟩
    · rw [if_neg hc] at h
      obtain ⟨t, h1, _, _⟩ := cutS_head h
      exact ⟨e :: t, by rw [h1]; simp, by simp, rfl⟩
/-- Each piece but the last has as many as were asked for, and ends where the next one's key is another. -/
theorem cutS_two {k : Nat} : ∀ {l cur : List MEnt} (i : Nat) (h : i + 1 < (cutS k l cur).length), k ≤ ((cutS k l cur)[i]'(by omega)).length ∧
    ∃ a b, ((cutS k l cur)[i]'(by omega)).getLast? = some a ∧ ((cutS k l cur)[i + 1]).head? = some b ∧ ¬a.1 = b.1
  | [], cur, i, h => by simp [cutS] at h
  | e :: r, cur, i, h => by
    by_cases hc : endsB e r = true ∧ (k ≤ (cur ++ [e]).length ∨ r = [])
    · have e1 : cutS k (e :: r) cur = (cur ++ [e]) :: cutS k r [] := by rw [cutS, if_pos hc]
      have hr : r ≠ [] := by
        rintro rfl
        rw [e1] at h; simp [cutS] at h
      cases i with
      | zero =>
        simp only [e1, List.getElem_cons_zero, Nat.zero_add, List.getElem_cons_succ]
        refine ⟨hc.2.resolve_right hr, e, ?_⟩
        obtain ⟨y, s, rfl⟩ : ∃ y s, r = y :: s := by cases r with | nil => exact absurd rfl hr | cons y s => exact ⟨y, s, rfl⟩
        obtain ⟨p, t, hq⟩ : ∃ p t, cutS k (y :: s) [] = p :: t := by
          cases hq : cutS k (y :: s) [] with
          | nil => exact absurd hq (cutS_nil [] (by simp))
          | cons p t => exact ⟨p, t, rfl⟩
        obtain ⟨u, hu, _, hh⟩ := cutS_head hq
        refine ⟨y, by simp, by simp only [hq, List.getElem_cons_zero, hu, List.nil_append, hh, List.head?_cons], ?_⟩
        have := hc.1
        unfold endsB at this
        intro hk
        rw [hk] at this; simp at this
      | succ i =>
        have h2 : i + 1 < (cutS k r []).length := by rw [e1] at h; simpa using h
        have := cutS_two (k := k) (l := r) (cur := []) i h2
        simpa only [e1, List.getElem_cons_succ] using this
    · have e1 : cutS k (e :: r) cur = cutS k r (cur ++ [e]) := by rw [cutS, if_neg hc]
      have h2 : i + 1 < (cutS k r (cur ++ [e])).length := by rw [e1] at h; exact h
      have := cutS_two (k := k) (l := r) (cur := cur ++ [e]) i h2
      simpa only [e1] using this
theorem cut_two {k : Nat} {l : List MEnt} (i : Nat) (h : i + 1 < (cutP k l).length) : k ≤ ((cutP k l)[i]'(by omega)).length ∧
    ∃ a b, ((cutP k l)[i]'(by omega)).getLast? = some a ∧ ((cutP k l)[i + 1]).head? = some b ∧ ¬a.1 = b.1 := cutS_two i h
theorem cutS_many (k : Nat) : ∀ (l cur : List MEnt), (cutS k l cur).length ≤ l.length
  | [], _ => by simp [cutS]
  | e :: r, cur => by
    unfold cutS
    by_cases hc : endsB e r = true ∧ (k ≤ (cur ++ [e]).length ∨ r = [])
    · rw [if_pos hc]; have := cutS_many k r []; simp only [List.length_cons]; omega
    · rw [if_neg hc]; have := cutS_many k r (cur ++ [e]); simp only [List.length_cons]; omega
theorem flat_one {ls : List (List MEnt)} {i : Nat} (h : i < ls.length) : (ls.take i).flatten.length + ls[i].length ≤ ls.flatten.length := by
  have e : ls = ls.take i ++ (ls[i] :: ls.drop (i + 1)) := by rw [← List.drop_eq_getElem_cons h, List.take_append_drop]
  have h2 : ls.flatten.length = ((ls.take i) ++ (ls[i] :: ls.drop (i + 1))).flatten.length := by rw [← e]
  rw [h2, List.flatten_append, List.length_append, List.flatten_cons, List.length_append]
  omega
end Go.Proofs.Pk
