/- Mathematics of layer 18's landed program: a definition read number by number, with what is left or none. No program. -/
import Derived.Test.YtgjblcjoglaldaaDfM
namespace Go.Proofs.Pk
set_option maxRecDepth 10000

/-- A number of what is left; nothing is left behind the first error. -/
def nuO : Option DTxt → Nat × Option DTxt
  | none => (0, none)
  | some b => ((rdNum b).1, if (rdNum b).2.2 = 0 then some (rdNum b).2.1 else none)
def lenO : Option DTxt → Nat
  | none => 0
  | some b => b.length
def stO (o : Option DTxt) : StV × Option DTxt := ((((nuO o).1 : Int), ((nuO (nuO o).2).1 : Int)), (nuO (nuO o).2).2)
def manyO : Nat → Option DTxt → List StV × Option DTxt
  | 0, o => ([], o)
  | n + 1, o => ((stO o).1 :: (manyO n (stO o).2).1, (manyO n (stO o).2).2)
def txO (b : DTxt) : DTxt × Option DTxt := ((rdTxt b).1, if (rdTxt b).2.2 = 0 then some (rdTxt b).2.1 else none)

theorem manyO_snoc : ∀ (n : Nat) (o : Option DTxt), manyO (n + 1) o = ((manyO n o).1 ++ [(stO (manyO n o).2).1], (stO (manyO n o).2).2)
  | 0, _ => rfl
  | n + 1, o => by
    have h := manyO_snoc n (stO o).2
    rw [manyO, h]
    simp [manyO]
theorem manyO_len : ∀ (n : Nat) (o : Option DTxt), (manyO n o).1.length = n
  | 0, _ => rfl
  | n + 1, o => by rw [manyO, List.length_cons, manyO_len n]
theorem nuO_len (o : Option DTxt) : lenO (nuO o).2 ≤ lenO o := by
  cases o with
  | none => exact Nat.le_refl _
  | some b =>
    unfold nuO
    simp only
    split
    · exact rdNum_len b
    · exact Nat.zero_le _
theorem nuO_le (o : Option DTxt) : (nuO o).1 ≤ MaxN := by
  cases o with
  | none => exact Nat.zero_le _
  | some b => exact rdNum_le b
theorem stO_len (o : Option DTxt) : lenO (stO o).2 ≤ lenO o := Nat.le_trans (nuO_len _) (nuO_len _)
theorem manyO_left : ∀ (n : Nat) (o : Option DTxt), lenO (manyO n o).2 ≤ lenO o
  | 0, _ => Nat.le_refl _
  | n + 1, o => Nat.le_trans (manyO_left n _) (stO_len o)
theorem manyO_none : ∀ (n : Nat), (manyO n none).2 = none
  | 0 => rfl
  | n + 1 => manyO_none n
theorem manyO_steps : ∀ (n : Nat) (b : DTxt), (match rdSteps n b with | some (l, r) => manyO n (some b) = (l, some r) | none => (manyO n (some b)).2 = none)
  | 0, b => rfl
  | n + 1, b => by
    have hs : (match rdStep b with | some (s, r) => stO (some b) = (s, some r) | none => (stO (some b)).2 = none) := by
      unfold rdStep stO nuO
      by_cases h1 : (rdNum b).2.2 = 0
      · simp only [h1, ne_eq, not_true_eq_false, if_false, if_true]
        by_cases h2 : (rdNum (rdNum b).2.1).2.2 = 0
        · simp [h2]
        · simp [h2]
      · simp [h1]
    rw [rdSteps]
    cases hr : rdStep b with
    | none =>
      rw [hr] at hs
      simp only at hs ⊢
      rw [manyO, hs]
      exact manyO_none n
    | some p =>
      obtain ⟨s, r⟩ := p
      rw [hr] at hs
      simp only at hs ⊢
      have ih := manyO_steps n r
      rw [manyO, hs]
      simp only
      cases hq : rdSteps n r with
      | none => rw [hq] at ih; exact ih
      | some p => obtain ⟨l, t⟩ := p; rw [hq] at ih; simp only [Option.map_some] at ih ⊢; rw [ih]
theorem rdTxt_backD (b : DTxt) (h : (rdTxt b).2.2 = 0) : txtL (rdTxt b).1 ++ (rdTxt b).2.1 = b := by
  have hb := rdNum_back b
  unfold rdTxt at h ⊢
  by_cases h1 : (rdNum b).2.2 = 0
  · rw [if_neg (by omega)] at h ⊢
    by_cases h2 : MaxT < (rdNum b).1
    · rw [if_pos h2] at h; cases h
    · rw [if_neg h2] at h ⊢
      by_cases h3 : (rdNum b).2.1.length < (rdNum b).1
      · rw [if_pos h3] at h; cases h
      · rw [if_neg h3] at h ⊢
        simp only
        unfold txtL
        rw [List.length_take, Nat.min_eq_left (by omega), List.append_assoc, List.take_append_drop]
        exact hb h1
  · rw [if_pos h1] at h; exact absurd h h1
theorem rdSteps_back : ∀ (n : Nat) (b : DTxt) (l : List StV) (r : DTxt), rdSteps n b = some (l, r) → b = l.flatMap stepB ++ r ∧ l.length = n
  | 0, b, l, r, h => by
    rw [rdSteps] at h
    obtain ⟨rfl, rfl⟩ := Prod.mk.inj (Option.some.inj h)
    exact ⟨rfl, rfl⟩
  | n + 1, b, l, r, h => by
    rw [rdSteps] at h
    unfold rdStep at h
    by_cases h1 : (rdNum b).2.2 = 0
    · by_cases h2 : (rdNum (rdNum b).2.1).2.2 = 0
      · rw [if_neg (by omega), if_neg (by omega)] at h
        simp only at h
        cases hq : rdSteps n (rdNum (rdNum b).2.1).2.1 with
        | none => rw [hq] at h; cases h
        | some p =>
          rw [hq] at h
          obtain ⟨l', t⟩ := p
          obtain ⟨rfl, rfl⟩ := Prod.mk.inj (Option.some.inj h)
          obtain ⟨e1, e2⟩ := rdSteps_back n _ _ _ hq
          refine ⟨?_, by rw [List.length_cons, e2]⟩
          rw [List.flatMap_cons]
          unfold stepB
          simp only [Int.toNat_natCast, List.append_assoc]
          unfold stepB at e1
          rw [← e1, rdNum_back _ h2, rdNum_back _ h1]
      · rw [if_neg (by omega), if_pos h2] at h; cases h
    · rw [if_pos h1] at h; cases h
/-- What Decode answers, by what is left in the end. -/
theorem decD_is (b : DTxt) : decD b = if (manyO (nuO (txO b).2).1 (nuO (txO b).2).2).2 = some [] ∧ rightD ((txO b).1, (manyO (nuO (txO b).2).1 (nuO (txO b).2).2).1) = true then (((txO b).1, (manyO (nuO (txO b).2).1 (nuO (txO b).2).2).1), true) else (zeroD, false) := by
  have hdef : (match rdDef b with | some (d, r) => ((txO b).1, (manyO (nuO (txO b).2).1 (nuO (txO b).2).2)) = (d.1, d.2, some r) ∧ b = bodyD d ++ r | none => (manyO (nuO (txO b).2).1 (nuO (txO b).2).2).2 = none) := by
    unfold rdDef txO
    by_cases h1 : (rdTxt b).2.2 = 0
    · rw [if_neg (by omega), if_pos h1]
      unfold nuO
      by_cases h2 : (rdNum (rdTxt b).2.1).2.2 = 0
      · rw [if_neg (by omega)]
        simp only [if_pos h2]
        have hm := manyO_steps (rdNum (rdTxt b).2.1).1 (rdNum (rdTxt b).2.1).2.1
        have hb := rdSteps_back (rdNum (rdTxt b).2.1).1 (rdNum (rdTxt b).2.1).2.1
        cases hq : rdSteps (rdNum (rdTxt b).2.1).1 (rdNum (rdTxt b).2.1).2.1 with
        | none => rw [hq] at hm; exact hm
        | some p =>
          obtain ⟨l, r⟩ := p
          rw [hq] at hm
          obtain ⟨e1, e2⟩ := hb l r hq
          simp only [Option.map_some] at hm ⊢
          refine ⟨by rw [hm], ?_⟩
          unfold bodyD
          simp only
          rw [e2, List.append_assoc, List.append_assoc, ← e1, rdNum_back _ h2, rdTxt_backD _ h1]
      · rw [if_pos h2]
        simp only [if_neg h2]
        exact manyO_none _
    · rw [if_pos h1, if_neg h1]
      simp only
      exact manyO_none _
  unfold decD
  cases hq : rdDef b with
  | none =>
    rw [hq] at hdef
    simp only at hdef ⊢
    rw [hdef, if_neg (by simp)]
  | some p =>
    obtain ⟨d, r⟩ := p
    rw [hq] at hdef
    simp only at hdef ⊢
    obtain ⟨e1, e2⟩ := hdef
    obtain ⟨e3, e4⟩ := Prod.mk.inj e1
    rw [e3, e4]
    simp only
    by_cases hr : rightD d = true
    · by_cases h0 : r = []
      · subst h0
        rw [List.append_nil] at e2
        rw [if_pos (by rw [encD_right hr, e2]), if_pos ⟨rfl, hr⟩]
      · rw [if_neg, if_neg]
        · rintro ⟨h, _⟩
          exact h0 (Option.some.inj h)
        · intro h
          rw [encD_right hr, e2] at h
          have := congrArg List.length (Prod.mk.inj h).1
          rw [List.length_append] at this
          exact h0 (List.length_eq_zero_iff.1 (by omega))
    · rw [if_neg, if_neg]
      · exact fun h => hr h.2
      · intro h
        exact hr (encD_ok h).1

theorem ok_ints (b : UInt8) : okB b = !((decide ((b.toNat : Int) < 97) || decide (122 < (b.toNat : Int))) && (decide ((b.toNat : Int) < 48) || decide (57 < (b.toNat : Int))) && ((b.toNat : Int) != 45)) := by
  have h1 : decide (b < 97) = decide ((b.toNat : Int) < 97) := by rw [Bool.eq_iff_iff, decide_eq_true_eq, decide_eq_true_eq, UInt8.lt_iff_toNat_lt]; show b.toNat < 97 ↔ _; omega
  have h2 : decide (122 < b) = decide (122 < (b.toNat : Int)) := by rw [Bool.eq_iff_iff, decide_eq_true_eq, decide_eq_true_eq, UInt8.lt_iff_toNat_lt]; show 122 < b.toNat ↔ _; omega
  have h3 : decide (b < 48) = decide ((b.toNat : Int) < 48) := by rw [Bool.eq_iff_iff, decide_eq_true_eq, decide_eq_true_eq, UInt8.lt_iff_toNat_lt]; show b.toNat < 48 ↔ _; omega
  have h4 : decide (57 < b) = decide (57 < (b.toNat : Int)) := by rw [Bool.eq_iff_iff, decide_eq_true_eq, decide_eq_true_eq, UInt8.lt_iff_toNat_lt]; show 57 < b.toNat ↔ _; omega
  have h5 : (b != 45) = ((b.toNat : Int) != 45) := by
    rw [bne, bne, Bool.eq_iff_iff]
    simp only [Bool.not_eq_true', beq_eq_false_iff_ne, ne_eq]
    rw [← UInt8.toNat_inj]; show ¬b.toNat = 45 ↔ _; omega
  unfold okB
  rw [h1, h2, h3, h4, h5]

theorem right_stepsD {d : DefV} : rightD d = (nameD d.1 && decide (1 ≤ d.2.length ∧ d.2.length ≤ 6) && d.2.all stepOk) := rfl
theorem rdTxt_fstP (b : DTxt) : (rdTxt b).1.length ≤ 1048576 := by
  unfold rdTxt
  by_cases h1 : (rdNum b).2.2 = 0
  · rw [if_neg (by omega)]
    by_cases h2 : MaxT < (rdNum b).1
    · rw [if_pos h2]; simp
    · rw [if_neg h2]
      by_cases h3 : (rdNum b).2.1.length < (rdNum b).1
      · rw [if_pos h3]; simp
      · rw [if_neg h3]; simp only [List.length_take]; unfold MaxT at h2; omega
  · rw [if_pos h1]; simp
/-- A row of n steps, of which the first ones are there already. -/
def rowZ (T : List StV) (n : Nat) : List (Int × Int) := T ++ List.replicate (n - T.length) (0, 0)
theorem rowZ_len (T : List StV) (n : Nat) (h : T.length ≤ n) : (rowZ T n).length = n := by unfold rowZ; rw [List.length_append, List.length_replicate]; omega
theorem rowZ_full (T : List StV) (n : Nat) (h : T.length = n) : rowZ T n = T := by unfold rowZ; rw [h, Nat.sub_self]; simp
theorem rowZ_set (T : List StV) (n : Nat) (h : T.length < n) (s : StV) : rowZ (T ++ [s]) n = (rowZ T n).set T.length s := by
  unfold rowZ
  rw [List.set_append_right _ _ (Nat.le_refl _), Nat.sub_self, show n - T.length = (n - (T.length + 1)) + 1 from by omega, List.replicate_succ, List.set_cons_zero, List.length_append, List.length_singleton, List.append_assoc]
  rfl
end Go.Proofs.Pk
