/- Mathematics of layer 18 (define): which definitions are right, their bytes, their tries. No program. -/
import Derived.Test.YtgjblcjoglaldaaMathR
namespace Go.Proofs.Pk
set_option maxRecDepth 10000

abbrev DTxt := List UInt8
/-- A step: how often it is tried again, how long it may take; a definition: its name, its steps. -/
abbrev StV := Int × Int
abbrev DefV := DTxt × List StV
def okB (b : UInt8) : Bool := !((decide (b < 97) || decide (122 < b)) && (decide (b < 48) || decide (57 < b)) && b != 45)
def nameD (s : DTxt) : Bool := s.all okB && decide (1 ≤ s.length ∧ s.length ≤ 20)
def stepOk (s : StV) : Bool := decide (0 ≤ s.1 ∧ s.1 ≤ 5 ∧ 1 ≤ s.2 ∧ s.2 ≤ 10000)
def rightD (d : DefV) : Bool := nameD d.1 && decide (1 ≤ d.2.length ∧ d.2.length ≤ 6) && d.2.all stepOk
def stepB (s : StV) : DTxt := numL s.1.toNat ++ numL s.2.toNat
def bodyD (d : DefV) : DTxt := txtL d.1 ++ numL d.2.length ++ d.2.flatMap stepB
def encD (d : DefV) : DTxt × Bool := if rightD d = true then (bodyD d, true) else ([], false)
def rdStep (b : DTxt) : Option (StV × DTxt) :=
  if (rdNum b).2.2 ≠ 0 then none else if (rdNum (rdNum b).2.1).2.2 ≠ 0 then none else some ((((rdNum b).1 : Int), ((rdNum (rdNum b).2.1).1 : Int)), (rdNum (rdNum b).2.1).2.1)
def rdSteps : Nat → DTxt → Option (List StV × DTxt)
  | 0, b => some ([], b)
  | n + 1, b => match rdStep b with
    | some (s, r) => (rdSteps n r).map fun p => (s :: p.1, p.2)
    | none => none
def rdDef (b : DTxt) : Option (DefV × DTxt) :=
  if (rdTxt b).2.2 ≠ 0 then none else if (rdNum (rdTxt b).2.1).2.2 ≠ 0 then none
  else (rdSteps (rdNum (rdTxt b).2.1).1 (rdNum (rdTxt b).2.1).2.1).map fun p => (((rdTxt b).1, p.1), p.2)
def zeroD : DefV := ([], [])
/-- Decode: the definition, and whether there is one. -/
def decD (b : DTxt) : DefV × Bool := match rdDef b with
  | some (d, _) => if encD d = (b, true) then (d, true) else (zeroD, false)
  | none => (zeroD, false)
def sumD (l : List StV) : Int := (l.map fun s => 2 * (s.1 + 1)).sum
def triesD (d : DefV) : Int := if rightD d = true then sumD d.2 else 0

theorem step_of {s : StV} (h : stepOk s = true) : 0 ≤ s.1 ∧ s.1 ≤ 5 ∧ 1 ≤ s.2 ∧ s.2 ≤ 10000 := of_decide_eq_true h
theorem right_ofD {d : DefV} (h : rightD d = true) : nameD d.1 = true ∧ (1 ≤ d.2.length ∧ d.2.length ≤ 6) ∧ ∀ s ∈ d.2, stepOk s = true := by
  unfold rightD at h
  simp only [Bool.and_eq_true, decide_eq_true_eq, List.all_eq_true] at h
  exact ⟨h.1.1, h.1.2, h.2⟩
theorem name_ofD {s : DTxt} (h : nameD s = true) : (∀ b ∈ s, okB b = true) ∧ 1 ≤ s.length ∧ s.length ≤ 20 := by
  unfold nameD at h
  simp only [Bool.and_eq_true, decide_eq_true_eq, List.all_eq_true] at h
  exact h
theorem rdStep_body {s : StV} (h : stepOk s = true) (t : DTxt) : rdStep (stepB s ++ t) = some (s, t) := by
  obtain ⟨h1, h2, h3, h4⟩ := step_of h
  obtain ⟨a, b⟩ := s
  simp only at *
  obtain ⟨a, rfl⟩ := Int.eq_ofNat_of_zero_le h1
  obtain ⟨b, rfl⟩ := Int.eq_ofNat_of_zero_le (show 0 ≤ b by omega)
  have e1 : rdNum (numL a ++ (numL b ++ t)) = (a, numL b ++ t, 0) := rdNum_numL a (by unfold MaxN; omega) _
  have e2 : rdNum (numL b ++ t) = (b, t, 0) := rdNum_numL b (by unfold MaxN; omega) _
  unfold rdStep stepB
  simp only [Int.ofNat_eq_natCast, Int.toNat_natCast, List.append_assoc, e1, e2, ne_eq, not_true_eq_false, if_false]
theorem rdSteps_body : ∀ (l : List StV) (t : DTxt), (∀ s ∈ l, stepOk s = true) → rdSteps l.length (l.flatMap stepB ++ t) = some (l, t)
  | [], t, _ => rfl
  | s :: r, t, h => by
    simp only [List.length_cons, rdSteps, List.flatMap_cons, List.append_assoc, rdStep_body (h s (List.mem_cons_self ..)), rdSteps_body r t fun x hx => h x (List.mem_cons_of_mem _ hx)]
    rfl
theorem rdDef_body {d : DefV} (h : rightD d = true) (t : DTxt) : rdDef (bodyD d ++ t) = some (d, t) := by
  obtain ⟨h1, h2, h3⟩ := right_ofD h
  have h4 := (name_ofD h1).2
  have e1 : rdTxt (txtL d.1 ++ (numL d.2.length ++ (d.2.flatMap stepB ++ t))) = (d.1, numL d.2.length ++ (d.2.flatMap stepB ++ t), 0) := rdTxt_txtL _ _ (by unfold MaxT; omega)
  have e2 : rdNum (numL d.2.length ++ (d.2.flatMap stepB ++ t)) = (d.2.length, d.2.flatMap stepB ++ t, 0) := rdNum_numL _ (by unfold MaxN; omega) _
  unfold rdDef bodyD
  simp only [List.append_assoc, e1, e2, ne_eq, not_true_eq_false, if_false, rdSteps_body d.2 t h3]
  rfl
theorem encD_ok {d : DefV} {b : DTxt} (h : encD d = (b, true)) : rightD d = true ∧ b = bodyD d := by
  unfold encD at h
  by_cases hr : rightD d = true
  · rw [if_pos hr] at h; exact ⟨hr, (Prod.mk.inj h).1.symm⟩
  · rw [if_neg hr] at h; exact absurd (Prod.mk.inj h).2 (by simp)
theorem encD_right {d : DefV} (h : rightD d = true) : encD d = (bodyD d, true) := by unfold encD; rw [if_pos h]
theorem encD_wrong {d : DefV} (h : rightD d = false) : encD d = ([], false) := by unfold encD; rw [h]; rfl
theorem decD_iff {d : DefV} {b : DTxt} : decD b = (d, true) ↔ encD d = (b, true) := by
  constructor
  · intro h
    unfold decD at h
    cases hr : rdDef b with
    | none => rw [hr] at h; exact absurd (Prod.mk.inj h).2 (by simp)
    | some p =>
      obtain ⟨d', r⟩ := p
      rw [hr] at h
      simp only at h
      by_cases he : encD d' = (b, true)
      · rw [if_pos he] at h; rw [← (Prod.mk.inj h).1]; exact he
      · rw [if_neg he] at h; exact absurd (Prod.mk.inj h).2 (by simp)
  · intro h
    obtain ⟨hr, rfl⟩ := encD_ok h
    have e := rdDef_body hr []
    rw [List.append_nil] at e
    unfold decD
    rw [e]
    simp only
    rw [if_pos h]
theorem decD_no {b : DTxt} (h : (decD b).2 = false) : decD b = (zeroD, false) := by
  unfold decD at h ⊢
  cases hr : rdDef b with
  | none => rfl
  | some p =>
    obtain ⟨d', r⟩ := p
    rw [hr] at h
    simp only at h ⊢
    by_cases he : encD d' = (b, true)
    · rw [if_pos he] at h; cases h
    · rw [if_neg he]
/-- Of two definitions' bytes none is the beginning of the other's. -/
theorem body_apart {d e : DefV} (hd : rightD d = true) (he : rightD e = true) {t : DTxt} (h : bodyD d = bodyD e ++ t) : d = e ∧ t = [] := by
  have e1 := rdDef_body hd []
  rw [List.append_nil, h, rdDef_body he t] at e1
  have := Option.some.inj e1
  exact ⟨(Prod.mk.inj this).1.symm, (Prod.mk.inj this).2⟩
theorem decD_cut {d : DefV} (h : rightD d = true) {j : Nat} (hj : j < (bodyD d).length) : (decD ((bodyD d).take j)).2 = false := by
  cases hc : decD ((bodyD d).take j) with
  | mk e o =>
    cases o with
    | false => rfl
    | true =>
      obtain ⟨he, e1⟩ := encD_ok (decD_iff.1 hc)
      have e2 : bodyD d = bodyD e ++ (bodyD d).drop j := by rw [← e1, List.take_append_drop]
      have := (body_apart h he e2).2
      have := congrArg List.length this
      rw [List.length_drop, List.length_nil] at this
      omega
theorem decD_more {d : DefV} (h : rightD d = true) {t : DTxt} (ht : t ≠ []) : (decD (bodyD d ++ t)).2 = false := by
  cases hc : decD (bodyD d ++ t) with
  | mk e o =>
    cases o with
    | false => rfl
    | true =>
      obtain ⟨he, e1⟩ := encD_ok (decD_iff.1 hc)
      exact absurd (body_apart he h e1.symm).2 ht
theorem body_ne {d : DefV} : bodyD d ≠ [] := by
  intro h
  have := congrArg List.length h
  unfold bodyD txtL at this
  simp only [List.length_append, numL_length, List.length_nil] at this
  omega
theorem decD_back {d : DefV} (h : rightD d = true) : decD (bodyD d) = (d, true) := decD_iff.2 (encD_right h)

/-! Steps, one more or one other. -/
theorem sum_snoc (l : List StV) (s : StV) : sumD (l ++ [s]) = sumD l + 2 * (s.1 + 1) := by simp [sumD]
theorem sum_bounds : ∀ (l : List StV), (∀ s ∈ l, stepOk s = true) → 2 * (l.length : Int) ≤ sumD l ∧ sumD l ≤ 2 * (l.length : Int) * 6
  | [], _ => by simp [sumD]
  | s :: r, h => by
    have h1 := step_of (h s (List.mem_cons_self ..))
    have h2 := sum_bounds r fun x hx => h x (List.mem_cons_of_mem _ hx)
    have e : sumD (s :: r) = 2 * (s.1 + 1) + sumD r := by simp [sumD]
    rw [e, List.length_cons]
    omega
theorem right_less {n : DTxt} {l : List StV} {s : StV} (h : rightD (n, l ++ [s]) = true) (hl : l ≠ []) : rightD (n, l) = true ∧ stepOk s = true := by
  obtain ⟨h1, h2, h3⟩ := right_ofD h
  simp only at h1 h2 h3
  rw [List.length_append, List.length_singleton] at h2
  refine ⟨?_, h3 s (by simp)⟩
  unfold rightD
  simp only [Bool.and_eq_true, decide_eq_true_eq, List.all_eq_true]
  have := List.length_pos_iff.2 hl
  exact ⟨⟨h1, by omega, by omega⟩, fun x hx => h3 x (by simp [hx])⟩
theorem name_amiss (s : DTxt) : nameD (s ++ [95]) = false := by
  unfold nameD
  rw [List.all_append]
  have : [(95 : UInt8)].all okB = false := by decide
  rw [this]; simp
theorem right_name {d : DefV} (h : nameD d.1 = false) : rightD d = false := by unfold rightD; rw [h]; rfl
theorem right_step {d : DefV} {s : StV} (hs : s ∈ d.2) (h : stepOk s = false) : rightD d = false := by
  cases hr : rightD d with
  | false => rfl
  | true => have := (right_ofD hr).2.2 s hs; rw [h] at this; cases this
theorem right_none (n : DTxt) : rightD (n, []) = false := by unfold rightD; simp
theorem tries_wrong {d : DefV} (h : rightD d = false) : triesD d = 0 := by unfold triesD; rw [h]; rfl
theorem tries_right {d : DefV} (h : rightD d = true) : triesD d = sumD d.2 := by unfold triesD; rw [if_pos h]
end Go.Proofs.Pk
