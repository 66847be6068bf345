/- Mathematics of layer 12 (block): a block read entry by entry, each checked at once. No program. -/
import Derived.Test.YtbiifeahdinjjaaBkD
namespace Go.Proofs.Ytbiifeahdinjjaa
open Go.RowKit Go.Proofs Go.Proofs.Pk
set_option maxRecDepth 10000

theorem txt_back (b : Txt) (h : (rdTxt b).2.2 = 0) : txtL (rdTxt b).1 ++ (rdTxt b).2.1 = b := by
  have e : rdTxt b = if (rdNum b).2.2 ≠ 0 then ([], [], (rdNum b).2.2) else if MaxT < (rdNum b).1 then ([], [], 5)
    else if (rdNum b).2.1.length < (rdNum b).1 then ([], [], 2) else ((rdNum b).2.1.take (rdNum b).1, (rdNum b).2.1.drop (rdNum b).1, 0) := rfl
  by_cases h1 : (rdNum b).2.2 = 0
  · by_cases h2 : MaxT < (rdNum b).1
    · rw [e, if_neg (by simpa using h1), if_pos h2] at h; simp at h
    · by_cases h3 : (rdNum b).2.1.length < (rdNum b).1
      · rw [e, if_neg (by simpa using h1), if_neg h2, if_pos h3] at h; simp at h
      · rw [e, if_neg (by simpa using h1), if_neg h2, if_neg h3]
        unfold txtL
        simp only [List.length_take]
        rw [List.append_assoc, List.take_append_drop, Nat.min_eq_left (by omega)]
        exact rdNum_back b h1
  · rw [e, if_pos h1] at h
    exact absurd h h1
/-- An entry's bytes are those that are written behind a key, at its place. -/
def entC1 (b last : Txt) (i : Nat) : Bool := (rdOne b last).2.2 && decide ((rdNum b).1 = shareB last i (rdOne b last).1.1)
/-- And it comes behind the last entry. -/
def stepC (b : Txt) (i : Nat) (p : MEnt) : Bool := entC1 b p.1 i && (rightM (rdOne b p.1).1 && befM p (rdOne b p.1).1)
def rdManyC : Nat → Nat → Txt → MEnt → Option (List MEnt × Txt)
  | 0, _, b, _ => some ([], b)
  | n + 1, i, b, p => if stepC b i p = true then joinO [(rdOne b p.1).1] (rdManyC n (i + 1) (rdOne b p.1).2.1 (rdOne b p.1).1) else none

theorem one_back {b last : Txt} {i : Nat} (h : entC1 b last i = true) : b = recB last i (rdOne b last).1 ++ (rdOne b last).2.1 := by
  obtain ⟨⟨n, b1, e1⟩, r1⟩ : ∃ r, r = rdNum b := ⟨_, rfl⟩
  obtain ⟨⟨t, b2, e2⟩, r2⟩ : ∃ r, r = rdTxt b1 := ⟨_, rfl⟩
  obtain ⟨⟨q, b3, e3⟩, r3⟩ : ∃ r, r = rdNum b2 := ⟨_, rfl⟩
  obtain ⟨⟨d, b4, e4⟩, r4⟩ : ∃ r, r = rdNum b3 := ⟨_, rfl⟩
  obtain ⟨⟨v, b5, e5⟩, r5⟩ : ∃ r, r = rdTxt b4 := ⟨_, rfl⟩
  have k1 := rdNum_back b
  have k2 := txt_back b1
  have k3 := rdNum_back b2
  have k4 := rdNum_back b3
  have k5 := txt_back b4
  rw [← r1] at k1
  rw [← r2] at k2
  rw [← r3] at k3
  rw [← r4] at k4
  rw [← r5] at k5
  have e : rdOne b last = if e1 ≠ 0 ∨ last.length < n then (zeroM, [], false) else if e2 ≠ 0 then (zeroM, [], false) else if e3 ≠ 0 then (zeroM, [], false) else if e4 ≠ 0 ∨ 1 < d then (zeroM, [], false)
      else if d = 1 then ((last.take n ++ t, (q : Int), true, []), b4, true) else if e5 ≠ 0 then (zeroM, [], false) else ((last.take n ++ t, (q : Int), false, v), b5, true) := by
    unfold rdOne
    simp only [← r1, ← r2, ← r3, ← r4, ← r5]
  unfold entC1 at h
  rw [← r1] at h
  simp only [Bool.and_eq_true, decide_eq_true_eq] at h k1 k2 k3 k4 k5
  obtain ⟨ok, hs⟩ := h
  rw [e] at ok hs ⊢
  clear e r1 r2 r3 r4 r5
  by_cases c1 : e1 ≠ 0 ∨ last.length < n
  · rw [if_pos c1] at ok; simp at ok
  rw [if_neg c1] at ok hs ⊢
  by_cases c2 : e2 ≠ 0
  · rw [if_pos c2] at ok; simp at ok
  rw [if_neg c2] at ok hs ⊢
  by_cases c3 : e3 ≠ 0
  · rw [if_pos c3] at ok; simp at ok
  rw [if_neg c3] at ok hs ⊢
  by_cases c4 : e4 ≠ 0 ∨ 1 < d
  · rw [if_pos c4] at ok; simp at ok
  rw [if_neg c4] at ok hs ⊢
  have z1 := k1 (by omega)
  have z2 := k2 (by omega)
  have z3 := k3 (by omega)
  have z4 := k4 (by omega)
  have hdr : (last.take n ++ t).drop n = t := by
    rw [List.drop_append, List.drop_of_length_le (by simp; omega), List.length_take, Nat.min_eq_left (by omega), Nat.sub_self, List.drop_zero, List.nil_append]
  by_cases c5 : d = 1
  · rw [if_pos c5] at ok hs ⊢
    simp only at hs ⊢
    unfold recB dropB
    simp only
    rw [← hs, hdr, if_pos trivial, ← c5]
    simp only [Int.toNat_natCast, List.append_assoc]
    rw [z4, z3, z2, z1]
  · rw [if_neg c5] at ok hs ⊢
    by_cases c6 : e5 ≠ 0
    · rw [if_pos c6] at ok; simp at ok
    rw [if_neg c6] at ok hs ⊢
    have z5 := k5 (by omega)
    have hd0 : d = 0 := by omega
    simp only at hs ⊢
    unfold recB dropB
    simp only
    rw [← hs, hdr, if_neg (by simp), ← hd0]
    simp only [Int.toNat_natCast, List.append_assoc]
    rw [z5, z4, z3, z2, z1]
theorem one_written (last : Txt) (i : Nat) (e : MEnt) (he : rightM e = true) (t : Txt) : rdOne (recB last i e ++ t) last = (e, t, true) ∧ entC1 (recB last i e ++ t) last i = true := by
  have h := rdOne_rec last i e he t
  refine ⟨h, ?_⟩
  unfold entC1
  rw [h]
  obtain ⟨_, h2, _⟩ := right_of he
  have hs := share_le last i e.1
  have e1 : rdNum (recB last i e ++ t) = (shareB last i e.1, txtL (e.1.drop (shareB last i e.1)) ++ (numL e.2.1.toNat ++ (dropB e ++ t)), 0) := by
    unfold recB
    rw [List.append_assoc, List.append_assoc, List.append_assoc, rdNum_numL _ (by unfold MaxN; omega)]
  rw [e1]
  simp
theorem manyC_back : ∀ (n i : Nat) (b : Txt) (p : MEnt) (l : List MEnt) (t : Txt), rdManyC n i b p = some (l, t) → l.length = n ∧ b = bodyB p.1 i l ++ t ∧ sortF (some p) l = true
  | 0, i, b, p, l, t, h => by
    cases h
    exact ⟨rfl, rfl, rfl⟩
  | n + 1, i, b, p, l, t, h => by
    unfold rdManyC at h
    by_cases hs : stepC b i p = true
    · rw [if_pos hs] at h
      unfold stepC at hs
      simp only [Bool.and_eq_true] at hs
      obtain ⟨h1, h2, h3⟩ := hs
      cases hr : rdManyC n (i + 1) (rdOne b p.1).2.1 (rdOne b p.1).1 with
      | none => rw [hr] at h; cases h
      | some x =>
        obtain ⟨r, u⟩ := x
        rw [hr] at h
        unfold joinO at h
        simp only [Option.map_some, Option.some.injEq, Prod.mk.injEq] at h
        obtain ⟨rfl, rfl⟩ := h
        obtain ⟨k1, k2, k3⟩ := manyC_back n (i + 1) _ _ r u hr
        refine ⟨by simp [k1], ?_, ?_⟩
        · show b = recB p.1 i (rdOne b p.1).1 ++ bodyB (rdOne b p.1).1.1 (i + 1) r ++ u
          rw [List.append_assoc, ← k2]
          exact one_back h1
        · simp only [List.singleton_append, sortF, h2, h3, k3, Bool.and_self]
    · rw [if_neg hs] at h; cases h
theorem manyC_body : ∀ (l : List MEnt) (i : Nat) (p : MEnt) (t : Txt), sortF (some p) l = true → rdManyC l.length i (bodyB p.1 i l ++ t) p = some (l, t)
  | [], _, _, _, _ => rfl
  | e :: r, i, p, t, h => by
    simp only [sortF, Bool.and_eq_true] at h
    obtain ⟨⟨h1, h2⟩, h3⟩ := h
    obtain ⟨k1, k2⟩ := one_written p.1 i e h1 (bodyB e.1 (i + 1) r ++ t)
    show rdManyC (r.length + 1) i (recB p.1 i e ++ bodyB e.1 (i + 1) r ++ t) p = _
    unfold rdManyC
    rw [List.append_assoc, if_pos (by unfold stepC; rw [k2, k1]; simp [h1, h2]), k1]
    simp only
    rw [manyC_body r (i + 1) e t h3]
    rfl
theorem bef_zero {e : MEnt} (h : rightM e = true) : befM zeroM e = true := by
  obtain ⟨h1, _⟩ := right_of h
  unfold befM zeroM
  simp only
  rw [if_neg (fun h => h1 h.symm)]
  cases he : e.1 with
  | nil => exact absurd he h1
  | cons a r => simp
theorem sort_zero {l : List MEnt} (h : sortB l = true) : sortF (some zeroM) l = true := by
  cases l with
  | nil => rfl
  | cons e r =>
    unfold sortB at h
    simp only [sortF, Bool.and_eq_true] at h ⊢
    exact ⟨⟨h.1, bef_zero h.1⟩, h.2⟩
/-- Decode, step by step. -/
def decC (b : Txt) : List MEnt × Bool :=
  if (rdNum b).2.2 ≠ 0 ∨ 200 < (rdNum b).1 then ([], false) else match rdManyC (rdNum b).1 0 (rdNum b).2.1 zeroM with
    | some (l, t) => if t = [] then (l, true) else ([], false)
    | none => ([], false)
theorem decC_iff {l : List MEnt} {b : Txt} : decC b = (l, true) ↔ encB l = (b, 0) := by
  constructor
  · intro h
    unfold decC at h
    by_cases c : (rdNum b).2.2 ≠ 0 ∨ 200 < (rdNum b).1
    · rw [if_pos c] at h; cases h
    · rw [if_neg c] at h
      cases hr : rdManyC (rdNum b).1 0 (rdNum b).2.1 zeroM with
      | none => rw [hr] at h; cases h
      | some x =>
        obtain ⟨r, t⟩ := x
        rw [hr] at h
        simp only at h
        by_cases ht : t = []
        · rw [if_pos ht] at h
          cases h
          obtain ⟨k1, k2, k3⟩ := manyC_back _ _ _ _ _ _ hr
          have z := rdNum_back b (by omega)
          subst ht
          rw [List.append_nil] at k2
          unfold encB
          rw [if_neg (by omega), if_pos (show sortB l = true from sortF_weak k3), k1]
          have k2' : (rdNum b).2.1 = bodyB [] 0 l := k2
          rw [← k2', z]
        · rw [if_neg ht] at h; cases h
  · intro h
    obtain ⟨h1, h2, h3⟩ := enc_ok h
    have e := rdNum_numL l.length (by unfold MaxN; omega) (bodyB [] 0 l)
    rw [← h3] at e
    have m := manyC_body l 0 zeroM [] (sort_zero h2)
    rw [List.append_nil] at m
    have m' : rdManyC l.length 0 (bodyB [] 0 l) zeroM = some (l, []) := m
    unfold decC
    rw [e]
    simp only
    rw [if_neg (by omega), m']
    simp
theorem dec_steps (b : Txt) : decB b = decC b := by
  have no : (decC b).2 = false → decC b = ([], false) := by
    unfold decC
    split
    · intro _; rfl
    · split
      · split
        · intro h; cases h
        · intro _; rfl
      · intro _; rfl
  cases h : (decB b).2 with
  | true =>
    have h1 : decB b = ((decB b).1, true) := by rw [← h]
    rw [h1]
    exact (decC_iff.2 (dec_iff.1 h1)).symm
  | false =>
    cases k : (decC b).2 with
    | true =>
      have h1 : decC b = ((decC b).1, true) := by rw [← k]
      have h2 := dec_iff.2 (decC_iff.1 h1)
      rw [h2] at h
      cases h
    | false => rw [dec_no h, no k]
theorem joinC_step {n i : Nat} {b : Txt} {p : MEnt} {T : List MEnt} (h : stepC b i p = true) : joinO T (rdManyC (n + 1) i b p) = joinO (T ++ [(rdOne b p.1).1]) (rdManyC n (i + 1) (rdOne b p.1).2.1 (rdOne b p.1).1) := by
  rw [rdManyC, if_pos h, joinO_join]
theorem joinC_no {n i : Nat} {b : Txt} {p : MEnt} {T : List MEnt} (h : stepC b i p = false) : joinO T (rdManyC (n + 1) i b p) = none := by
  rw [rdManyC, if_neg (by rw [h]; simp)]
  rfl

end Go.Proofs.Ytbiifeahdinjjaa
